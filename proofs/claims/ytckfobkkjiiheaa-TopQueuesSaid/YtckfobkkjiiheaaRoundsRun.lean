/- Package rounds: Run. No statement is proved here. -/
import Derived.Test.YtckfobkkjiiheaaRounds3
import Derived.Test.YtckfobkkjiiheaaApt
import Derived.Test.YtckfobkkjiiheaaOwnI
import Derived.Test.YtckfobkkjiiheaaFill
import Derived.OwnWalk
namespace Go.Proofs.Ytckfobkkjiiheaa.Rounds
open Go.ChangeShapes Go.WideShapes Go.ChangeAt Go.RowKit Go.Proofs.Ytckfobkkjiiheaa.Kit Go.Proofs.Ytckfobkkjiiheaa.App Go.Proofs.Ytckfobkkjiiheaa.Cells Go.Proofs.Ytckfobkkjiiheaa.Err Go.Proofs.Ytckfobkkjiiheaa.Drr
set_option linter.unusedVariables false
set_option maxRecDepth 20000
set_option maxHeartbeats 1000000

/-- Two slices of numbers of the call's own. -/
structure Duo (w0 w : World) (u v : Value) (A B : List Int) : Prop where
  o1 : OwnI w w0.heap.size u A
  o2 : OwnI w w0.heap.size v B
  apt : Apt u v
  bel : Below w0.heap.size w0 w
variable {w0 w w' : World} {u v u' v' : Value} {A B A' B' : List Int}
theorem Duo.nil (hb : Below w0.heap.size w0 w) : Duo w0 w (.slice none 0 0) (.slice none 0 0) [] [] := ⟨OwnI.nil _ _, OwnI.nil _ _, Apt.nil _, hb⟩
theorem Duo.alloc (H : Duo w0 w u v A B) (o : Obj) : Duo w0 (w.alloc o) u v A B := ⟨H.o1.alloc o, H.o2.alloc o, H.apt, balloc H.bel o⟩
theorem Duo.app1 (H : Duo w0 w u v A B) (ho : OwnI w' w0.heap.size u' A') (hg : w.grownBy w' u.ownBlock) (hv : u'.ownBlock = u.ownBlock ∨ u'.ownBlock = some w.heap.size) : Duo w0 w' u' v A' B :=
  ⟨ho, H.o2.more hg H.apt.symm.ne, (H.apt.symm.grow (fun k hk => (H.o2.lt k hk).2) (Nat.le_refl _) hv).symm, below_app H.bel H.o1 hg H.bel.size⟩
theorem Duo.app2 (H : Duo w0 w u v A B) (ho : OwnI w' w0.heap.size v' B') (hg : w.grownBy w' v.ownBlock) (hv : v'.ownBlock = v.ownBlock ∨ v'.ownBlock = some w.heap.size) : Duo w0 w' u v' A B' :=
  ⟨H.o1.more hg H.apt.ne, ho, H.apt.grow (fun k hk => (H.o1.lt k hk).2) (Nat.le_refl _) hv, below_app H.bel H.o2 hg H.bel.size⟩
theorem sizes_in {m : List Pk} (hf : Few m) (j : Nat) : 0 ≤ tot ((sizes m).take j) ∧ tot ((sizes m).take j) ≤ 20 * j := by
  have h1 : ∀ x ∈ (sizes m).take j, 1 ≤ x ∧ x ≤ 20 := fun x hx => by
    obtain ⟨p, hp, rfl⟩ := List.mem_map.1 (List.mem_of_mem_take hx)
    exact hf.size p hp
  have h2 := tot_nonneg (fun x hx => (h1 x hx).1)
  have h3 := tot_le (M := 20) (fun x hx => (h1 x hx).2)
  have h4 : ((sizes m).take j).length ≤ j := by rw [List.length_take]; omega
  omega
theorem sizes_step {m : List Pk} {j : Nat} {p : Pk} (hp : m[j]? = some p) : tot ((sizes m).take (j + 1)) = tot ((sizes m).take j) + p.size := by
  unfold sizes
  rw [List.take_add_one, List.getElem?_map, hp, tot_append]
  simp [tot]
theorem nums_step {m : List Pk} {j : Nat} {p : Pk} (hp : m[j]? = some p) : (nums m).take (j + 1) = (nums m).take j ++ [p.num] := by
  unfold nums
  rw [List.take_add_one, List.getElem?_map, hp]
  rfl
theorem ends_step {m : List Pk} {j : Nat} {p : Pk} (hp : m[j]? = some p) : ends ((sizes m).take (j + 1)) = ends ((sizes m).take j) ++ [tot ((sizes m).take j) + p.size] := by
  rw [ends_take (by unfold sizes; rw [List.length_map]; exact (List.getElem?_eq_some_iff.1 hp).1), sizes_step hp]

theorem run_bad (p : Option Addr) (cap n : Nat) (ls : List (List Int)) (w : World) (hn : n = ls.length) (hi : RowsI w p cap ls) (c : Int) (hc : code ls = c) (h0 : c ≠ 0) :
    Calls Try.prog 17 #[.slice p n cap] w fun e w' => e = .returned (.tuple #[.slice none 0 0, .slice none 0 0, er c]) ∧ w' = w := by
  have CB := Lib.hid (inOrder_bad p cap n ls w hn hi c hc h0)
  rw [er_ne h0] at CB ⊢
  clear hn hi hc h0
  go_enter Try.func17, Try.ntmps17
  go_wp2_with fail
  refine CB.out.mono ?_; rintro e w1 ⟨rfl, rfl⟩
  go_wp2_with fail
  go_ret3
  exact ⟨rfl, rfl⟩
theorem run_good (p : Option Addr) (cap n : Nat) (ls : List (List Int)) (w : World) (hn : n = ls.length) (hi : RowsI w p cap ls) (hg : Drr.Good ls) (m : List Pk) (hm : Srt ls m) (k : Nat) (hk : m.length = k) :
    Calls Try.prog 17 #[.slice p n cap] w fun e w' => (∃ r cr r2 cr2, e = .returned (.tuple #[.slice r k cr, .slice r2 k cr2, .nilIface]) ∧ Ints w' r cr (nums m) ∧ Ints w' r2 cr2 (ends (sizes m))) ∧ Below w.heap.size w w' := by
  have CB := Lib.hid (inOrder_good p cap n ls w hn hi hg m hm k hk)
  have HF := Lib.hid (hm.few hg)
  have HK := Lib.hid hk
  have hk40 : k ≤ 40 := by rw [← hk]; exact (hm.few hg).len
  clear hn hi hg hm hk
  go_enter Try.func17, Try.ntmps17
  go_wp2_with fail
  refine CB.out.mono ?_; rintro e w1 ⟨⟨r, cr, rfl, hI⟩, hb1⟩
  have HS0 := Lib.hid (Duo.nil (brefl w1))
  have HC := Lib.hid hI
  have HB1 := Lib.hid hb1
  clear CB hI hb1
  go_wp2_with fail
  go_loopw [2, 3, 6, 19] (fun ov ev tv iv wr => ∃ (j : Nat) (t : Int) (o e : Value), j ≤ k ∧ iv = .int .i64 j ∧ tv = .int .i64 t ∧ 0 ≤ t ∧ t ≤ 20 * j ∧ o = ov ∧ e = ev ∧ Hid (t = tot ((sizes m).take j)) ∧ Hid (Duo w1 wr o e ((nums m).take j) (ends ((sizes m).take j)))) (fun _ _ _ i _ => k - (intOf i).toNat)
  case atStart => exact ⟨0, 0, _, _, Nat.zero_le _, rfl, rfl, by omega, by omega, rfl, rfl, Lib.hid (by simp [tot]), HS0⟩
  case round =>
    clear HS0
    obtain ⟨j, t, o, e, hj, rfl, rfl, t0, t1, rfl, rfl, HT, HS⟩ := hrel
    by_cases hlt : j < k
    · have u1 : decide ((j : Int) < (k : Int)) = true := decide_eq_true (by omega)
      have hjm : j < m.length := by rw [HK.out]; exact hlt
      obtain ⟨x, hx⟩ : ∃ x, m[j]? = some x := ⟨_, List.getElem?_eq_getElem hjm⟩
      have hxm : x ∈ m := List.mem_of_getElem? hx
      have HIW := Lib.hid (HC.out.below HS.out.bel)
      obtain ⟨b, off, rfl⟩ := pk_some HIW.out (by omega)
      obtain ⟨c0, c1, c2⟩ := pk_cells HIW.out hx
      obtain ⟨y, hy5, hxy⟩ := HF.out.num x hxm
      obtain ⟨x0, x1⟩ := HF.out.size x hxm
      have HN := Lib.hid (nums_step hx)
      have HE := Lib.hid (ends_step hx)
      have HTS := Lib.hid (sizes_step hx)
      rw [← HT.out] at HE HTS
      obtain ⟨xn, xs, xr⟩ := x
      simp only at c0 c1 c2 hxy x0 x1 HN HE HTS
      subst hxy
      obtain ⟨_, d0, d1, d2⟩ := Box.new wr ⟨y, xs, xr⟩ 60
      simp only at d0 d1 d2
      have hl1 : ((nums m).take j).length ≤ 40 := by rw [List.length_take]; omega
      have hl2 : (ends ((sizes m).take j)).length ≤ 40 := by rw [ends_len, List.length_take]; omega
      generalize (nums m).take j = A at HS HN hl1
      generalize ends ((sizes m).take j) = E at HS HE hl2
      have HS1 := Lib.hid (HS.out.alloc (.cells #[.int .i64 (y : Int), .int .i64 xs, .int .i64 xr] 60))
      clear hjm hx hxm HIW HS
      have HS2 := Lib.hid (HS1.out.alloc (.cells #[.int .i64 (y : Int)] 3))
      go_wp2_with (first
        | (at_builtin
           refine wp_app rfl (.tmp 27) (.tmp 30) rfl w1.heap.size o A (some ⟨wr.heap.size + 1, 0, none⟩) 1 1 [(y : Int)] rfl HS2.out.o1 rfl rfl (by have := Ints.one (wr.alloc (.cells #[.int .i64 (y : Int), .int .i64 xs, .int .i64 xr] 60)) (y : Int) (wf_in (by omega)); simpa using this) (by simp; omega) HS2.out.bel.size ?_
           intro o2 w6 ho2 hg2 hat2
           have HS3 := Lib.hid (HS2.out.app1 ho2 hg2 hat2)
           have HS4 := Lib.hid (HS3.out.alloc (.cells #[.int .i64 (t + xs)] 3))
           clear ho2 hg2 hat2)
        | (at_builtin
           refine wp_app rfl (.tmp 32) (.tmp 34) rfl w1.heap.size e E (some ⟨w6.heap.size, 0, none⟩) 1 1 [t + xs] rfl HS4.out.o2 rfl rfl (Ints.one w6 (t + xs) (wf_in (by omega))) (by simp; omega) HS4.out.bel.size ?_
           intro e2 w7 ho3 hg3 hat3
           have HS5 := Lib.hid (HS4.out.app2 ho3 hg3 hat3)
           clear ho3 hg3 hat3))
      go_roundw
      case rel => exact ⟨j + 1, t + xs, o2, e2, by omega, by first | rfl | go_num, by first | rfl | go_num, by omega, by omega, rfl, rfl, Lib.hid HTS.out.symm, Lib.hid (by rw [HN.out, HE.out]; exact HS5.out)⟩
      case measure => simp [intOf]; omega
    · obtain rfl : j = k := by omega
      have u1 : decide ((j : Int) < (j : Int)) = false := decide_eq_false (by omega)
      have hj1 : (nums m).take j = nums m := by rw [← HK.out, List.take_of_length_le]; unfold nums; rw [List.length_map]; exact Nat.le_refl _
      have hj2 : (sizes m).take j = sizes m := by rw [← HK.out, List.take_of_length_le]; unfold sizes; rw [List.length_map]; exact Nat.le_refl _
      rw [hj1, hj2] at HS
      obtain ⟨p1, q1, e1, i1⟩ := HS.out.o1.form
      obtain ⟨p2, q2, e2, i2⟩ := HS.out.o2.form
      rw [show (nums m).length = j by unfold nums; rw [List.length_map, HK.out]] at e1
      rw [show (ends (sizes m)).length = j by rw [ends_len]; unfold sizes; rw [List.length_map, HK.out]] at e2
      subst e1 e2
      have I1 := Lib.hid i1
      have I2 := Lib.hid i2
      have HBB := Lib.hid (bcall HB1.out HS.out.bel)
      clear i1 i2 hj1 hj2
      go_wp2_with fail
      go_ret3
      exact ⟨⟨_, _, _, _, rfl, I1.out, I2.out⟩, HBB.out⟩

/- Right or wrong. -/
theorem run_any (p : Option Addr) (cap n : Nat) (ls : List (List Int)) (w : World) (hn : n = ls.length) (hi : RowsI w p cap ls) (c : Int) (hc : code ls = c) (u : List Pk) (h0 : c = 0 → Srt ls u) (h1 : c ≠ 0 → u = []) (k : Nat) (hk : u.length = k) :
    Calls Try.prog 17 #[.slice p n cap] w fun e w' => (∃ r cr r2 cr2, e = .returned (.tuple #[.slice r k cr, .slice r2 k cr2, er c]) ∧ Ints w' r cr (nums u) ∧ Ints w' r2 cr2 (ends (sizes u))) ∧ Below w.heap.size w w' := by
  by_cases hz : c = 0
  · subst hz
    exact run_good p cap n ls w hn hi (code_zero.1 hc) u (h0 rfl) k hk
  · obtain rfl := h1 hz
    obtain rfl : k = 0 := hk.symm
    refine (run_bad p cap n ls w hn hi c hc hz).mono ?_
    rintro e w' ⟨rfl, rfl⟩
    exact ⟨⟨none, 0, none, 0, rfl, Ints.nil _, Ints.nil _⟩, brefl _⟩
end Go.Proofs.Ytckfobkkjiiheaa.Rounds
