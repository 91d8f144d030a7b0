/- slices.IndexFunc, ContainsFunc and DeleteFunc at numbers, with any function that holds two blocks and answers by a test of the number alone. General. No statement is proved here. -/
import Derived.Test.YtggnpecmldnmnaaDoorRowQ
import Derived.Shelf.Abstract
namespace Go.Proofs.YtggnpecmldnmnaaDoor.RowQ
open Go.ChangeShapes Go.WideShapes Go.ChangeAt Go.RowKit Go.Proofs.YtggnpecmldnmnaaDoor.Kit Go.Proofs.YtggnpecmldnmnaaDoor.App Go.Proofs.YtggnpecmldnmnaaDoor.Err
set_option linter.unusedVariables false
set_option maxRecDepth 20000
set_option maxHeartbeats 1000000

/-- The function f with blocks a and b answers T of the numbers of l, in every world of K, and draws at most. -/
def Asks (K : World → Prop) (f : FuncId) (a b : Nat) (T : Int → Bool) (l : List Int) : Prop :=
  ∀ W x, K W → x ∈ l → Calls Tryd.prog f #[.int .i64 x, .pointer (some ⟨a, 0, none⟩), .pointer (some ⟨b, 0, none⟩)] W fun e w' => e = .returned (.bool (T x)) ∧ ∃ m, w' = W.drewN m
theorem index_any (K : World → Prop) (f : FuncId) (a b : Nat) (T : Int → Bool) (p : Option Addr) (cap n : Nat) (l : List Int) (w : World) (hE : Enters Tryd.prog f) (hK : ∀ m, K (w.drewN m)) (hA : Asks K f a b T l) (hn : n = l.length) (hi : Ints w p cap l) :
    Calls Tryd.prog 24 #[.slice p n cap, .func (.func f) #[] #[.pointer (some ⟨a, 0, none⟩), .pointer (some ⟨b, 0, none⟩)]] w fun e w' => (∃ r : Int, e = .returned (.int .i64 r) ∧ ((r = -1 ∧ ∀ x ∈ l, T x = false) ∨ ∃ k : Nat, r = (k : Int) ∧ k < n ∧ T (l[k]?.getD 0) = true ∧ ∀ x ∈ l.take k, T x = false)) ∧ ∃ m, w' = w.drewN m := by
  have hlen := hi.len_le
  have HI := Lib.hid (fun m : Nat => (hi.below (bdrewN (brefl w) m) : Ints (w.drewN m) p cap l))
  have HA := Lib.hid hA
  have HK := Lib.hid hK
  have HN := Lib.hid hn
  clear hi hA hK
  rw [← hn] at hlen
  clear hn
  have e199 : ∀ (args : Array Value) (w : World), (callFunc f args).run Tryd.prog w = .ok (.enter f args) w := hE
  go_enter Tryd.func24, Tryd.ntmps24
  go_wp2_with fail
  go_loopw [8] (fun iv wr => ∃ k : Nat, k ≤ n ∧ iv = .int .i64 k ∧ Hid (∃ m, wr = w.drewN m) ∧ Hid (∀ x ∈ l.take k, T x = false)) (fun i _ => n - (intOf i).toNat)
  case atStart => exact ⟨0, Nat.zero_le _, rfl, Lib.hid ⟨0, rfl⟩, Lib.hid (by simp)⟩
  case round =>
    obtain ⟨k, hk, rfl, HW, H⟩ := hrel
    by_cases hlt : k < n
    · have u1 : decide ((k : Int) < (n : Int)) = true := decide_eq_true (by omega)
      have hkl : k < l.length := by rw [← HN.out]; exact hlt
      have hiw : Ints wr p cap l := by obtain ⟨m, e⟩ := HW.out; rw [e]; exact HI.out m
      have HKW := Lib.hid (show K wr by obtain ⟨m, e⟩ := HW.out; rw [e]; exact HK.out m)
      obtain ⟨b0, off, rfl, _, hc⟩ := hiw.2.2.2 (by omega)
      have hck := hc k hkl
      have hmem : l[k]?.getD 0 ∈ l := by rw [List.getElem?_eq_getElem hkl]; exact List.getElem_mem hkl
      have HT := Lib.hid (show l.take (k + 1) = l.take k ++ [l[k]?.getD 0] by rw [List.take_add_one, List.getElem?_eq_getElem hkl]; rfl)
      have C := Lib.hid (HA.out wr (l[k]?.getD 0) HKW.out hmem)
      clear hc hiw hmem hkl
      obtain ⟨x, hx⟩ : ∃ x, l[k]?.getD 0 = x := ⟨_, rfl⟩
      rw [hx] at hck HT C
      have HX := Lib.hid hx
      clear hx
      obtain ⟨R, hR⟩ : ∃ R, T x = R := ⟨_, rfl⟩
      rw [hR] at C
      have HR := Lib.hid hR
      clear hR
      cases R with
      | true =>
        go_wp2_with (go_at_fn f; refine C.out.mono ?_; rintro e w1 ⟨rfl, hw1⟩; have HW1 := Lib.hid hw1; clear hw1)
        go_ret
        exact ⟨⟨k, rfl, .inr ⟨k, rfl, hlt, by rw [HX.out]; exact HR.out, H.out⟩⟩, by obtain ⟨m, e⟩ := HW.out; obtain ⟨m2, e2⟩ := HW1.out; exact ⟨m + m2, by rw [e2, e]; simp [World.drewN_drewN]⟩⟩
      | false =>
        go_wp2_with (go_at_fn f; refine C.out.mono ?_; rintro e w1 ⟨rfl, hw1⟩; have HW1 := Lib.hid hw1; clear hw1)
        go_roundw
        case rel => exact ⟨k + 1, by omega, by first | rfl | go_num, Lib.hid (by obtain ⟨m, e⟩ := HW.out; obtain ⟨m2, e2⟩ := HW1.out; exact ⟨m + m2, by rw [e2, e]; simp [World.drewN_drewN]⟩), Lib.hid (by
          rw [HT.out]
          intro y hy
          rcases List.mem_append.1 hy with h | h
          · exact H.out y h
          · simp at h; rw [h]; exact HR.out)⟩
        case measure => simp [intOf]; omega
    · obtain rfl : k = n := by omega
      have u1 : decide ((k : Int) < (k : Int)) = false := decide_eq_false (by omega)
      go_wp2_with fail
      go_ret
      exact ⟨⟨-1, rfl, .inl ⟨rfl, fun x hx => H.out x (by rw [List.take_of_length_le (by rw [HN.out]; exact Nat.le_refl _)]; exact hx)⟩⟩, HW.out⟩
theorem contains_any (K : World → Prop) (f : FuncId) (a b : Nat) (T : Int → Bool) (p : Option Addr) (cap n : Nat) (l : List Int) (w : World) (hE : Enters Tryd.prog f) (hK : ∀ m, K (w.drewN m)) (hA : Asks K f a b T l) (hn : n = l.length) (hi : Ints w p cap l) (R : Bool) (hR : R = l.any T) :
    Calls Tryd.prog 20 #[.slice p n cap, .func (.func f) #[] #[.pointer (some ⟨a, 0, none⟩), .pointer (some ⟨b, 0, none⟩)]] w fun e w' => e = .returned (.bool R) ∧ ∃ m, w' = w.drewN m := by
  have IX := Lib.hid (index_any K f a b T p cap n l w hE hK hA hn hi)
  have HR := Lib.hid hR
  have HN := Lib.hid hn
  clear hE hK hA hn hi hR
  go_enter Tryd.func20, Tryd.ntmps20
  go_wp2_with fail
  refine IX.out.mono ?_; rintro e w1 ⟨⟨r, rfl, hr⟩, hw1⟩
  have HW1 := Lib.hid hw1
  have hd : decide (r ≥ 0) = R := by
    rw [HR.out]
    rcases hr with ⟨rfl, h⟩ | ⟨k, rfl, hk, ht, _⟩
    · rw [decide_eq_false (by omega)]
      symm
      rw [List.any_eq_false]
      intro x hx
      rw [h x hx]; decide
    · rw [decide_eq_true (by omega)]
      symm
      rw [List.any_eq_true]
      have hk2 : k < l.length := by rw [← HN.out]; exact hk
      rw [List.getElem?_eq_getElem hk2] at ht
      exact ⟨l[k], List.getElem_mem hk2, ht⟩
  have HD := Lib.hid hd
  clear hr hw1 hd IX
  go_wp2_with fail
  go_ret
  exact ⟨by rw [← HD.out]; rfl, HW1.out⟩

/-- The numbers that the test does not hit. -/
def less (T : Int → Bool) (l : List Int) : List Int := l.filter fun x => !T x
theorem less_none {T : Int → Bool} {l : List Int} (h : ∀ x ∈ l, T x = false) : less T l = l := by
  unfold less
  rw [List.filter_eq_self]
  intro x hx
  rw [h x hx]; rfl
theorem less_app (T : Int → Bool) (l m : List Int) : less T (l ++ m) = less T l ++ less T m := List.filter_append _ _
theorem set_take {L : List Int} {k : Nat} (h : k < L.length) (x : Int) : (L.set k x).take (k + 1) = L.take k ++ [x] := by
  rw [List.take_add_one, List.getElem?_set, if_pos rfl, if_pos h, List.take_set_of_le (Nat.le_refl _)]
  rfl
theorem delete_any (f : FuncId) (a b : Nat) (T : Int → Bool) (g n cap : Nat) (l : List Int) (w : World) (hE : Enters Tryd.prog f) (hA : Asks (fun W => w.grownBy W (some g)) f a b T l) (hn : n = l.length) (hr : RowQ w g cap l) :
    Calls Tryd.prog 18 #[.slice (some ⟨g, 0, none⟩) n cap, .func (.func f) #[] #[.pointer (some ⟨a, 0, none⟩), .pointer (some ⟨b, 0, none⟩)]] w fun e w' => (∃ m : Nat, e = .returned (.slice (some ⟨g, 0, none⟩) m cap) ∧ m = (less T l).length) ∧ RowQ w' g cap (less T l) ∧ w.grownBy w' (some g) := by
  have IX := Lib.hid (index_any (fun W => w.grownBy W (some g)) f a b T _ cap n l w hE (fun m => grown_drewN (grefl w (some g)) m) hA hn hr.ints)
  have e199 : ∀ (args : Array Value) (w : World), (callFunc f args).run Tryd.prog w = .ok (.enter f args) w := hE
  have hcap := hr.caps
  have hm : cap ≤ 9223372036854775807 := by have := hcap.2; unfold maxLen at this; omega
  rw [← hn] at hcap
  have hcn := hcap.1
  have HA := Lib.hid hA
  have HR := Lib.hid hr
  have HN := Lib.hid hn
  clear hr hn hA hE
  go_enter Tryd.func18, Tryd.ntmps18
  go_wp2_with fail
  refine IX.out.mono ?_; rintro e w2 ⟨⟨r, rfl, hr⟩, hw2⟩
  have HW2 := Lib.hid hw2
  clear IX hw2
  rcases hr with ⟨rfl, hnone⟩ | ⟨r, rfl, hrn, hri, hrt⟩
  · have HL := Lib.hid (less_none hnone)
    clear hnone
    go_wp2_with fail
    go_ret
    exact ⟨⟨n, rfl, by rw [HL.out]; exact HN.out⟩, by rw [HL.out]; obtain ⟨m, e⟩ := HW2.out; rw [e]; exact HR.out.drewN m, by obtain ⟨m, e⟩ := HW2.out; rw [e]; exact grown_drewN (grefl w (some g)) m⟩
  · have t0 : ((r : Int) == -1) = false := by rw [beq_eq_false_iff_ne]; omega
    have hdr := Lib.hid (less_none hrt)
    have HT := Lib.hid (show less T (l.take (r + 1)) = l.take r by
      rw [List.take_add_one, List.getElem?_eq_getElem (by rw [← HN.out]; omega), less_app, less_none hrt]
      rw [List.getElem?_eq_getElem (by rw [← HN.out]; omega)] at hri
      have h2 : T (l[r]'(by rw [← HN.out]; omega)) = true := hri
      simp [less, h2])
    have HS := Lib.hid (show RowQ w2 g cap l ∧ w.grownBy w2 (some g) by obtain ⟨m, e⟩ := HW2.out; rw [e]; exact ⟨HR.out.drewN m, grown_drewN (grefl w (some g)) m⟩)
    clear hri hrt
    go_wp2_with fail
    go_loopw [5, 6] (fun iv jv wr => ∃ k j : Nat, iv = .int .i64 (k : Int) ∧ jv = .int .i64 (j : Int) ∧ k < j ∧ j ≤ n ∧ Hid (∃ L : List Int, L.length = n ∧ L.take k = less T (l.take j) ∧ (∀ t : Nat, j ≤ t → L[t]? = l[t]?) ∧ RowQ wr g cap L) ∧ Hid (w.grownBy wr (some g))) (fun _ j _ => n - (intOf j).toNat)
    case atStart => exact ⟨r, r + 1, rfl, by first | rfl | go_num, by omega, by omega, Lib.hid ⟨l, HN.out.symm, HT.out.symm, fun _ _ => rfl, HS.out.1⟩, Lib.hid HS.out.2⟩
    case round =>
      obtain ⟨k, j, rfl, rfl, hkj, hj, HL, HG⟩ := hrel
      obtain ⟨L, hL1, hL2, hL3, hL4⟩ := HL.out
      by_cases hjn : j < n
      · have t1 : decide ((j : Int) < (n : Int)) = true := decide_eq_true (by omega)
        have hjL : j < l.length := by rw [← HN.out]; omega
        have hc1 := hL4.cell (j := j) (by omega)
        rw [hL3 j (Nat.le_refl _)] at hc1
        have hc2 := (hL4.room (j := k) (by omega))
        have hf2 := hL4.fz k
        have hx := hL4.1 (l[j]?.getD 0) (by have h := hL3 j (Nat.le_refl _); rw [List.getElem?_eq_getElem hjL] at h ⊢; exact List.mem_of_getElem? h)
        have ht : l.take (j + 1) = l.take j ++ [l[j]?.getD 0] := by rw [List.take_add_one, List.getElem?_eq_getElem hjL]; rfl
        have C := Lib.hid (HA.out wr (l[j]?.getD 0) HG.out (by rw [List.getElem?_eq_getElem hjL]; exact List.getElem_mem hjL))
        generalize l[j]?.getD 0 = y at hc1 hx ht C
        obtain ⟨R, hR⟩ : ∃ R, T y = R := ⟨_, rfl⟩
        rw [hR] at C
        cases R with
        | true =>
          have HREL := Lib.hid (show ∀ m, ∃ L : List Int, L.length = n ∧ L.take k = less T (l.take (j + 1)) ∧ (∀ t : Nat, j + 1 ≤ t → L[t]? = l[t]?) ∧ RowQ (wr.drewN m) g cap L from fun m => ⟨L, hL1, by rw [ht, less_app, hL2]; simp [less, hR], fun t h => hL3 t (by omega), hL4.drewN m⟩)
          clear hL1 hL2 hL3 hL4 hx ht hc2 hf2 hjL hR
          go_wp2_with (go_at_fn f; refine C.out.mono ?_; rintro e w3 ⟨rfl, hw3⟩; have HW3 := Lib.hid hw3; clear hw3)
          go_roundw
          case rel => exact ⟨k, j + 1, rfl, by first | rfl | go_num, by omega, by omega, by obtain ⟨m, e⟩ := HW3.out; rw [e]; exact Lib.hid (HREL.out m), by obtain ⟨m, e⟩ := HW3.out; rw [e]; exact Lib.hid (grown_drewN HG.out m)⟩
          case measure => simp [intOf]; omega
        | false =>
          have HREL := Lib.hid (show ∀ m, ∃ M : List Int, M.length = n ∧ M.take (k + 1) = less T (l.take (j + 1)) ∧ (∀ t : Nat, j + 1 ≤ t → M[t]? = l[t]?) ∧ RowQ ((wr.drewN m).setCell ⟨g, k, none⟩ (.int .i64 y)) g cap M from fun m => ⟨L.set k y, by rw [List.length_set]; exact hL1, by rw [set_take (by omega), ht, less_app, hL2]; simp [less, hR], fun t h => by rw [List.getElem?_set, if_neg (by omega)]; exact hL3 t (by omega), (hL4.drewN m).set k y hx⟩)
          have HG2 := Lib.hid (fun m => gtrans (grown_drewN HG.out m) (set_grown (wr.drewN m) g k (.int .i64 y)))
          obtain ⟨old, hold⟩ := Option.isSome_iff_exists.1 hc2
          have hkn : (k : Int) < (n : Int) := by omega
          clear hL1 hL2 hL3 hL4 hx ht hc2 hjL hR
          have HC2 := Lib.hid (And.intro hold hf2)
          clear hold hf2
          go_wp2_with (go_at_fn f; refine C.out.mono ?_; rintro e w3 ⟨rfl, ⟨m3, rfl⟩⟩; have hold : (wr.drewN m3).cell? ⟨g, k, none⟩ = some old := HC2.out.1; have hf2 : (wr.drewN m3).frozen? ⟨g, k, none⟩ = false := HC2.out.2)
          go_roundw
          case rel => exact ⟨k + 1, j + 1, by first | rfl | go_num, by first | rfl | go_num, by omega, by omega, Lib.hid (HREL.out m3), Lib.hid (HG2.out m3)⟩
          case measure => simp [intOf]; omega
      · obtain rfl : j = n := by omega
        have t1 : decide ((j : Int) < (j : Int)) = false := decide_eq_false (by omega)
        rw [show l.take j = l from List.take_of_length_le (by have := HN.out; omega)] at hL2
        have hk : (less T l).length = k := by rw [← hL2, List.length_take]; omega
        have hcl := (fun ty => Go.Lib.run_clear_slice (P := Tryd.prog) wr 22 3 ty (.int .i64 0) Tryd.underlying22 zeroZ rfl rfl g k (j - k) (cap - k) (by omega) (fun t ht => hL4.room (by omega)) (fun t ht => hL4.fz _))
        have hrow := RowQ.sets (List.replicate (j - k) (.int .i64 0)) wr k (hL4.take k) (by rw [List.length_take]; omega)
        rw [hL2] at hrow
        generalize wr.setCells g k (List.replicate (j - k) (.int .i64 0)) = w9 at hcl hrow
        have HROW := Lib.hid hrow.1
        have HG3 := Lib.hid (gtrans HG.out hrow.2)
        clear hL1 hL2 hL3 hL4 hrow
        have HK := Lib.hid hk
        clear hk
        go_wp2_with fail
        go_ret
        exact ⟨⟨k, rfl, HK.out.symm⟩, HROW.out, HG3.out⟩
end Go.Proofs.YtggnpecmldnmnaaDoor.RowQ
