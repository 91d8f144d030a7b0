/- The contract of abp.Run. No statement is proved here. -/
import Derived.Test.YthiebkkfgegebaaAbp1
import Derived.Test.YthiebkkfgegebaaAbpMath
import Derived.OwnWalk
namespace Go.Proofs.Ythiebkkfgegebaa.Abp
open Go.ChangeShapes Go.WideShapes Go.ChangeAt Go.RowKit Go.Proofs.Ythiebkkfgegebaa.Kit Go.Proofs.Ythiebkkfgegebaa.App Go.Proofs.Ythiebkkfgegebaa.Cells Go.Proofs.Ythiebkkfgegebaa.Fate Go.Proofs.Ythiebkkfgegebaa.AbpMath
set_option linter.unusedVariables false
set_option maxRecDepth 20000

theorem asz (w : World) (o : Obj) : (w.alloc o).heap.size = w.heap.size + 1 := by simp
theorem take_more {l : List Int} {k : Nat} (h : k < l.length) : l.take k ++ [l[k]?.getD 0] = l.take (k + 1) := by
  rw [List.take_add_one, List.getElem?_eq_getElem h]; rfl
theorem bit_same {s r : Bool} (h : (s == r) = true) : (s == (!r)) = false ∧ ((!s) == (!r)) = true := by cases s <;> cases r <;> simp_all
theorem bit_else {s r : Bool} (h : (s == r) = false) : ((!s) == r) = true := by cases s <;> cases r <;> simp_all
theorem run_bad (p q : Option Addr) (cap cq n m : Nat) (l : List Int) (w : World) (hn : n = l.length) (hi : Ints w p cap l) (hm : m ≤ 9223372036854775807) (c : Int) (hc : c = bad l m) (h0 : c ≠ 0) :
    Calls Try.prog 9 #[.slice p n cap, .slice q m cq] w fun e w' => e = .returned (.tuple #[.slice none 0 0, .int .i64 0, er c]) ∧ w' = w := by
  have CK := Lib.hid (fun W (h : Ints W p cap l) => check_any p q cap cq n m l W hn h hm c hc)
  have HI := Lib.hid hi
  have HE := Lib.hid (er_ne h0)
  rw [er_ne h0] at CK
  clear hi hn hm hc h0
  go_enter Try.func9, Try.ntmps9
  go_wp2_with fail
  refine (CK.out _ HI.out).mono ?_; rintro e w1 ⟨rfl, rfl⟩
  go_wp2_with fail
  go_ret3
  exact ⟨by rw [HE.out]; rfl, rfl⟩

set_option maxHeartbeats 4000000 in
theorem run_good (p q : Option Addr) (cap cq n m : Nat) (l : List Int) (fs : List Fat) (w : World) (hn : n = l.length) (hm : m = fs.length) (hi : Ints w p cap l) (hf : CI lay w q cq fs) (h0 : bad l m = 0) (K G : Nat) (hr : (K, G) = AbpMath.run n fs 0 0) :
    Calls Try.prog 9 #[.slice p n cap, .slice q m cq] w fun e w' => ∃ v, e = .returned (.tuple #[v, .int .i64 (K : Nat), .nilIface]) ∧ OwnI w' w.heap.size v (l.take G) ∧ Below w.heap.size w w' := by
  have hlm := hf.len_le
  rw [← hm] at hlm
  have CK := Lib.hid (fun W (h : Ints W p cap l) => check_any p q cap cq n m l W hn h hlm 0 h0.symm)
  rw [er_0] at CK
  obtain ⟨hl20, hm200, hfit⟩ := (bad_zero l m).1 h0
  rw [← hn] at hl20
  have HI := Lib.hid hi
  have HF := Lib.hid hf
  have HN := Lib.hid hn
  have HM := Lib.hid hm
  have HR := Lib.hid hr
  have R0 := Lib.hid (show AbpMath.run n (fs.drop 0) 0 0 = (K, G) from hr.symm)
  clear hi hf hn hm hr h0 hfit
  go_enter Try.func9, Try.ntmps9
  go_wp2_with fail
  refine (CK.out _ HI.out).mono ?_; rintro e w1 ⟨rfl, rfl⟩
  go_wp2_with fail
  go_loopw [4, 5, 8, 9, 20] (fun gv kv sv rv iv wr => ∃ (i k g : Nat) (s r : Bool), i ≤ m ∧ k ≤ n ∧ g ≤ n ∧ g ≤ k + 1 ∧ kv = .int .i64 k ∧ sv = .bool s ∧ rv = .bool r ∧ iv = .int .i64 i ∧ Hid (k ≤ g) ∧ Hid ((s == r) = decide (g = k)) ∧ OwnI wr w1.heap.size gv (l.take g) ∧ Hid (AbpMath.run n (fs.drop i) k g = (K, G)) ∧ Below w1.heap.size w1 wr) (fun _ _ _ _ iv _ => m - (intOf iv).toNat)
  case atStart => exact ⟨0, 0, 0, false, false, Nat.zero_le _, Nat.zero_le _, Nat.zero_le _, by omega, rfl, rfl, rfl, rfl, Nat.le_refl _, rfl, OwnI.nil _ _, R0.out, brefl _⟩
  case round =>
    obtain ⟨i, k, g, s, r, him, hkn, hgn, hgk, rfl, rfl, rfl, rfl, HKG, HB, hown, HRUN, hB⟩ := hrel
    have hBs := hB.size
    by_cases hlt : i < m
    · have hil : i < fs.length := by rw [← HM.out]; exact hlt
      obtain ⟨b, off, rfl, hbw, hcell⟩ := fate_at HF.out (by omega)
      obtain ⟨x, hx⟩ : ∃ x, fs[i]? = some x := ⟨_, List.getElem?_eq_getElem hil⟩
      obtain ⟨e1, e2⟩ := hcell wr hB i x hx
      have HD := Lib.hid (show AbpMath.run n (x :: fs.drop (i + 1)) k g = (K, G) by rw [← drop_at hx]; exact HRUN.out)
      clear hcell hx hil HRUN
      by_cases hk : k = n
      · have HE := Lib.hid (show (n, g) = (K, G) by rw [← HD.out, hk, run_end])
        have t0 : ((k : Int) == (n : Int)) = true := by rw [hk]; simp
        clear HD HKG HB
        obtain ⟨x1, x2⟩ := x
        go_wp2_with fail
        go_ret3
        refine ⟨_, by rw [← (Prod.mk.inj HE.out).1]; rfl, ?_, balloc hB _⟩
        rw [← (Prod.mk.inj HE.out).2]; exact hown.alloc _
      · have t0 : ((k : Int) == (n : Int)) = false := by rw [beq_eq_false_iff_ne]; omega
        have HKN := Lib.hid hk
        have hkn' : k < n := by omega
        clear hk hkn
        obtain ⟨x1, x2⟩ := x
        cases x1 with
        | true =>
          have HD2 := Lib.hid (show AbpMath.run n (fs.drop (i + 1)) k g = (K, G) by rw [← run_lost (f := ⟨true, x2⟩) HKN.out rfl]; exact HD.out)
          clear HD
          go_wp2_with fail
          go_roundw
          case rel => exact ⟨i + 1, k, g, s, r, by omega, by omega, hgn, hgk, rfl, rfl, rfl, by first | rfl | go_num, HKG, HB, hown.alloc _, HD2.out, balloc hB _⟩
          case measure => simp [intOf]; omega
        | false =>
          obtain ⟨b1, off1, rfl, hb1w, hc1⟩ := HI.out.2.2.2 (by rw [← HN.out]; omega)
          have hd := hc1 k (by rw [← HN.out]; exact hkn')
          have hxk := (hB.cell (p := ⟨b1, off1 + k, none⟩) hb1w).trans hd
          have hxw := HI.out.2.2.1 k
          have htm := take_more (l := l) (k := k) (by rw [← HN.out]; exact hkn')
          obtain ⟨y, hy⟩ : ∃ y, l[k]?.getD 0 = y := ⟨_, rfl⟩
          rw [hy] at hxk hxw htm
          have HT := Lib.hid htm
          clear hc1 hd hy htm
          by_cases hg : g = k
          · subst hg
            have t1 : (s == r) = true := by rw [HB.out]; simp
            have hgl : (l.take g).length = g := by rw [List.length_take, ← HN.out]; omega
            have hgl2 : (l.take g).length ≤ 20 := by omega
            obtain ⟨out, ho⟩ : ∃ out, l.take g = out := ⟨_, rfl⟩
            rw [ho] at hown hgl2 HT
            have HS := Lib.hid (bit_same t1)
            clear HB HKG hgl ho
            cases x2 with
            | true =>
              have HD2 := Lib.hid (show AbpMath.run n (fs.drop (i + 1)) g (g + 1) = (K, G) by rw [← run_back (f := ⟨false, true⟩) HKN.out rfl rfl]; exact HD.out)
              clear HD HKN
              have FB : ∀ (v : Value) (wa : World), OwnI wr w1.heap.size v out → ((wr.alloc (.cells #[.bool false, .bool true] 32)).alloc (.cells #[.int .i64 y] 3)).grownBy wa v.ownBlock → wa.cell? ⟨wr.heap.size, 1, none⟩ = some (.bool true) := fun v wa ho hg => by
                have hk := hg.block wr.heap.size (by simp; omega) (fun h => by have := (ho.lt _ h.symm).2; omega)
                refine (World.cell?_of_block (w := (wr.alloc (.cells #[.bool false, .bool true] 32)).alloc (.cells #[.int .i64 y] 3)) (a := ⟨wr.heap.size, 1, none⟩) hk).trans ?_
                have h1 : ((wr.alloc (.cells #[.bool false, .bool true] 32)).alloc (.cells #[.int .i64 y] 3)).heap[wr.heap.size]? = some (.cells #[.bool false, .bool true] 32) := by
                  show (((wr.heap.push _).push _))[wr.heap.size]? = _
                  rw [Array.getElem?_push_lt (by simp), Array.getElem_push_eq]
                unfold World.cell?
                rw [h1]; rfl
              have FBh := Lib.hid FB
              clear FB
              have hxa : (wr.alloc (.cells #[.bool false, .bool true] 32)).cell? ⟨b1, off1 + g, none⟩ = some (.int .i64 y) := ((brefl wr).alloc (Nat.le_refl _) _ |>.cell (p := ⟨b1, off1 + g, none⟩) (Nat.lt_of_lt_of_le hb1w hBs)).trans hxk
              go_wp2_with (at_builtin
                           refine wp_app rfl (.tmp 33) (.tmp 38) rfl w1.heap.size _ out (some ⟨wr.heap.size + 1, 0, none⟩) 1 1 [y] rfl ((hown.alloc _).alloc _) rfl rfl (by
                             have q := Ints.one (wr.alloc (.cells #[.bool false, .bool true] 32)) y hxw
                             rw [asz] at q
                             exact q) (by rw [List.length_singleton]; omega) (Nat.le_trans hBs (by simp; omega)) ?_
                           intro v1 wa hown1 hg1 hat1
                           have hb1 : Below w1.heap.size w1 wa := below_app (balloc (balloc hB _) _) ((hown.alloc _).alloc _) hg1 (Nat.le_trans hBs (by simp; omega))
                           have f2 : wa.cell? ⟨wr.heap.size, 1, none⟩ = some (.bool true) := FBh.out _ wa hown hg1
                           clear hat1 hg1)
              go_roundw
              case rel => exact ⟨i + 1, g, g + 1, s, !r, by omega, by omega, by omega, by omega, by first | rfl | go_num, rfl, by first | rfl | trivial, by first | rfl | go_num, by unfold Hid; omega, Lib.hid (by rw [HS.out.1]; simp), by rw [← HT.out]; exact hown1, HD2.out, hb1⟩
              case measure => simp [intOf]; omega
            | false =>
              have HD2 := Lib.hid (show AbpMath.run n (fs.drop (i + 1)) (g + 1) (g + 1) = (K, G) by rw [← run_fine (f := ⟨false, false⟩) HKN.out rfl rfl]; exact HD.out)
              clear HD HKN
              have FB : ∀ (v : Value) (wa : World), OwnI wr w1.heap.size v out → ((wr.alloc (.cells #[.bool false, .bool false] 32)).alloc (.cells #[.int .i64 y] 3)).grownBy wa v.ownBlock → wa.cell? ⟨wr.heap.size, 1, none⟩ = some (.bool false) := fun v wa ho hg => by
                have hk := hg.block wr.heap.size (by simp; omega) (fun h => by have := (ho.lt _ h.symm).2; omega)
                refine (World.cell?_of_block (w := (wr.alloc (.cells #[.bool false, .bool false] 32)).alloc (.cells #[.int .i64 y] 3)) (a := ⟨wr.heap.size, 1, none⟩) hk).trans ?_
                have h1 : ((wr.alloc (.cells #[.bool false, .bool false] 32)).alloc (.cells #[.int .i64 y] 3)).heap[wr.heap.size]? = some (.cells #[.bool false, .bool false] 32) := by
                  show (((wr.heap.push _).push _))[wr.heap.size]? = _
                  rw [Array.getElem?_push_lt (by simp), Array.getElem_push_eq]
                unfold World.cell?
                rw [h1]; rfl
              have FBh := Lib.hid FB
              clear FB
              have hxa : (wr.alloc (.cells #[.bool false, .bool false] 32)).cell? ⟨b1, off1 + g, none⟩ = some (.int .i64 y) := ((brefl wr).alloc (Nat.le_refl _) _ |>.cell (p := ⟨b1, off1 + g, none⟩) (Nat.lt_of_lt_of_le hb1w hBs)).trans hxk
              go_wp2_with (at_builtin
                           refine wp_app rfl (.tmp 33) (.tmp 38) rfl w1.heap.size _ out (some ⟨wr.heap.size + 1, 0, none⟩) 1 1 [y] rfl ((hown.alloc _).alloc _) rfl rfl (by
                             have q := Ints.one (wr.alloc (.cells #[.bool false, .bool false] 32)) y hxw
                             rw [asz] at q
                             exact q) (by rw [List.length_singleton]; omega) (Nat.le_trans hBs (by simp; omega)) ?_
                           intro v1 wa hown1 hg1 hat1
                           have hb1 : Below w1.heap.size w1 wa := below_app (balloc (balloc hB _) _) ((hown.alloc _).alloc _) hg1 (Nat.le_trans hBs (by simp; omega))
                           have f2 : wa.cell? ⟨wr.heap.size, 1, none⟩ = some (.bool false) := FBh.out _ wa hown hg1
                           clear hat1 hg1)
              go_roundw
              case rel => exact ⟨i + 1, g + 1, g + 1, !s, !r, by omega, by omega, by omega, by omega, by first | rfl | go_num, by first | rfl | trivial, by first | rfl | trivial, by first | rfl | go_num, Nat.le_refl _, Lib.hid (by rw [HS.out.2]; simp), by rw [← HT.out]; exact hown1, HD2.out, hb1⟩
              case measure => simp [intOf]; omega
          · have hgk1 : g = k + 1 := by have := HKG.out; omega
            subst hgk1
            have t1 : (s == r) = false := by rw [HB.out]; simp
            have HS := Lib.hid (bit_else t1)
            clear HB HKG hg
            cases x2 with
            | true =>
              have HD2 := Lib.hid (show AbpMath.run n (fs.drop (i + 1)) k (k + 1) = (K, G) by rw [← run_back (f := ⟨false, true⟩) HKN.out rfl rfl]; exact HD.out)
              clear HD HKN HT
              have HT1 := Lib.hid t1
              go_wp2_with fail
              go_roundw
              case rel => exact ⟨i + 1, k, k + 1, s, r, by omega, by omega, by omega, by omega, rfl, rfl, rfl, by first | rfl | go_num, by unfold Hid; omega, Lib.hid (by rw [HT1.out]; simp), hown.alloc _, HD2.out, balloc hB _⟩
              case measure => simp [intOf]; omega
            | false =>
              have HD2 := Lib.hid (show AbpMath.run n (fs.drop (i + 1)) (k + 1) (k + 1) = (K, G) by rw [← run_fine (f := ⟨false, false⟩) HKN.out rfl rfl]; exact HD.out)
              clear HD HKN HT
              go_wp2_with fail
              go_roundw
              case rel => exact ⟨i + 1, k + 1, k + 1, !s, r, by omega, by omega, by omega, by omega, by first | rfl | go_num, by first | rfl | trivial, rfl, by first | rfl | go_num, Nat.le_refl _, Lib.hid (by rw [HS.out]; simp), hown.alloc _, HD2.out, balloc hB _⟩
              case measure => simp [intOf]; omega
    · obtain rfl : i = m := by omega
      have HE := Lib.hid (show (k, g) = (K, G) by
        have := HRUN.out
        rw [List.drop_eq_nil_of_le (by rw [HM.out]; exact Nat.le_refl _)] at this
        exact this)
      clear HRUN HKG HB
      go_wp2_with fail
      go_ret3
      refine ⟨_, by rw [← (Prod.mk.inj HE.out).1]; rfl, ?_, hB⟩
      rw [← (Prod.mk.inj HE.out).2]; exact hown
end Go.Proofs.Ythiebkkfgegebaa.Abp
