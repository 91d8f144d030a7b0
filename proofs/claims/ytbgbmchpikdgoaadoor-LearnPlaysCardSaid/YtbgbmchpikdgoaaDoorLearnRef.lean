/- Package learn, the document's answer: Find and Out. No statement is proved here. -/
import Derived.Test.YtbgbmchpikdgoaaDoorLearnRefSt
import Derived.BigQuiet
namespace Go.Proofs.YtbgbmchpikdgoaaDoor.Learn
open Go.ChangeShapes Go.WideShapes Go.ChangeAt Go.RowKit Go.Proofs.YtbgbmchpikdgoaaDoor.Kit Go.Proofs.YtbgbmchpikdgoaaDoor.App Go.Proofs.YtbgbmchpikdgoaaDoor.Err
set_option linter.unusedVariables false
set_option maxRecDepth 20000
set_option maxHeartbeats 2000000

theorem rfind_any (pa pp : Option Addr) (n np ca cp : Nat) (l : List E) (a : Int) (w : World) (hn : n = l.length) (hi : Ints w pa ca (l.map Prod.fst)) :
    Calls Tryd.prog 17 #[.agg #[.slice pa n ca, .slice pp np cp], .int .i64 a] w fun e w' => e = .returned (.int .i64 (idx l a)) ∧ Below w.heap.size w w' := by
  have hlen := hi.len_le
  rw [List.length_map, ← hn] at hlen
  have HB := Lib.hid (Blk.new w 39 [.slice pa n ca, .slice pp np cp])
  have HA := Lib.hid (balloc (brefl w) (.cells #[.slice pa n ca, .slice pp np cp] 39))
  have HI := Lib.hid (hi.below HA.out)
  have HN := Lib.hid hn
  have c0 := HB.out.cell 0 _ rfl
  clear hi hn HB
  go_enter Tryd.func17, Tryd.ntmps17
  go_wp2_with fail
  generalize w.alloc (.cells #[.slice pa n ca, .slice pp np cp] 39) = w1 at HA HI c0 ⊢
  generalize w.heap.size = g at c0 ⊢
  go_loopw [5] (fun iv wr => ∃ k : Nat, k ≤ n ∧ iv = .int .i64 (k : Int) ∧ wr = w1 ∧ Hid (∀ y ∈ l.take k, y.1 ≠ a)) (fun i _ => n - (intOf i).toNat)
  case atStart => exact ⟨0, Nat.zero_le _, rfl, rfl, Lib.hid (by simp)⟩
  case round =>
    obtain ⟨k, hk, rfl, rfl, HX⟩ := hrel
    by_cases hlt : k < n
    · have u1 : decide ((k : Int) < (n : Int)) = true := decide_eq_true (by omega)
      have hkl : k < l.length := by rw [← HN.out]; exact hlt
      obtain ⟨x, hx⟩ : ∃ x, l[k]? = some x := ⟨_, List.getElem?_eq_getElem hkl⟩
      obtain ⟨b0, off, rfl, _, hc⟩ := HI.out.2.2.2 (by rw [List.length_map]; omega)
      have hc1 := hc k (by rw [List.length_map]; exact hkl)
      rw [fst_at hx] at hc1
      have HT := Lib.hid (take_at hx)
      have HAT := Lib.hid hx
      obtain ⟨x1, x2⟩ := x
      simp only at hc1
      clear hc hkl hx
      by_cases hxa : x1 = a
      · have u2 : (x1 == a) = true := by rw [beq_iff_eq]; exact hxa
        have HF := Lib.hid (idx_at HAT.out hxa HX.out)
        clear hxa
        go_wp2_with fail
        go_ret
        exact ⟨by rw [HF.out]; rfl, HA.out⟩
      · have u2 : (x1 == a) = false := by rw [beq_eq_false_iff_ne]; exact hxa
        have HXA := Lib.hid hxa
        clear hxa
        go_wp2_with fail
        go_roundw
        case rel => exact ⟨k + 1, by omega, by first | rfl | go_num, by first | trivial | rfl, Lib.hid (by
          rw [HT.out]
          intro y hy
          rcases List.mem_append.1 hy with h | h
          · exact HX.out y h
          · simp at h; rw [h]; exact HXA.out)⟩
        case measure => simp [intOf]; omega
    · obtain rfl : k = n := by omega
      have u1 : decide ((k : Int) < (k : Int)) = false := decide_eq_false (by omega)
      have HF := Lib.hid (idx_none (l := l) (a := a) (fun x hx => HX.out x (by rw [List.take_of_length_le (by rw [HN.out]; exact Nat.le_refl _)]; exact hx)))
      go_wp2_with fail
      go_ret
      exact ⟨by rw [HF.out]; rfl, HA.out⟩

theorem w4r {k : Nat} (h : k ≤ 4) : (Lit.int .i64 (k : Int)).wf = true := by simp [Lit.wf, IntKind.min, IntKind.max, IntKind.signed, IntKind.bits]; omega
theorem rout_any (pa pp : Option Addr) (n m ca cp : Nat) (l : List E) (t q : Int) (w : World) (hn : n = l.length) (hm : m = l.length) (hi : Ints w pa ca (l.map Prod.fst)) (hj : Ints w pp cp (l.map Prod.snd)) (hok : Ok l) (hq : isP q) :
    Calls Tryd.prog 14 #[.agg #[.slice pa n ca, .slice pp m cp], .int .i64 t, .int .i64 q] w fun e w' => ∃ v, e = .returned v ∧ OwnI w' w.heap.size v (out l t q) ∧ Below w.heap.size w w' := by
  have hl8 := hok.len
  have HB := Lib.hid (Blk.new w 39 [.slice pa n ca, .slice pp m cp])
  have HA := Lib.hid (balloc (brefl w) (.cells #[.slice pa n ca, .slice pp m cp] 39))
  have HJ := Lib.hid (hj.below HA.out)
  have HF := Lib.hid (fun W (hW : Below w.heap.size w W) => rfind_any pa pp n m ca cp l t W hn (hi.below hW))
  have HO := Lib.hid (acc_out hok (t := t) hq)
  have HRNG := Lib.hid (fun e (he : e ∈ l) => (hok.rng e he).2.1)
  have c0 := HB.out.cell 0 _ rfl
  have c1 := HB.out.cell 1 _ rfl
  have hgw : w.heap.size < (w.alloc (.cells #[.slice pa n ca, .slice pp m cp] 39)).heap.size := by simp
  have hic := idx_cases l t
  rw [← hm] at hl8
  have HM := Lib.hid hm
  clear hi hj hok hn hm
  generalize find l t = y at HO hic
  have HC : Hid ((idx l t = -1 ∧ y = -1) ∨ ∃ (k : Nat) (x : E), idx l t = (k : Int) ∧ l[k]? = some x ∧ y = x.2) := Lib.hid hic
  generalize idx l t = r at HF HC
  clear hic
  go_enter Tryd.func14, Tryd.ntmps14
  go_wp2_with fail
  refine (HF.out _ HA.out).mono ?_; rintro e w2 ⟨rfl, hb2⟩
  have HA2 := Lib.hid (bcall HA.out hb2)
  have HJ2 := Lib.hid (HJ.out.below hb2)
  have HB2 := Lib.hid (HB.out.below hb2)
  clear hb2 HA HJ HF HB c0 c1
  have hsz : w.heap.size ≤ w2.heap.size := HA2.out.size
  have hgz : w.heap.size < w2.heap.size := HB2.out.lt
  generalize hg : w.heap.size = g at HB2 hgz hsz ⊢
  have HG := Lib.hid hg
  clear hg hgw
  go_wp2_with fail
  go_loopw [8, 9] (fun lv iv wr => ∃ k : Nat, k ≤ 4 ∧ iv = .int .i64 (k : Int) ∧ OwnI wr w2.heap.size lv (acc (decide (y = -1)) y q k) ∧ Below w2.heap.size w2 wr) (fun _ i _ => 4 - (intOf i).toNat)
  case atStart => exact ⟨0, Nat.zero_le _, rfl, OwnI.nil _ _, brefl _⟩
  case round =>
    obtain ⟨k, hk, rfl, hown, hB⟩ := hrel
    by_cases hlt : k < 4
    · have u1 : decide ((k : Int) < 4) = true := decide_eq_true (by omega)
      have hBs := hB.size
      have hol := acc_len (decide (y = -1)) y q k
      have hbk := HB2.out.below hB
      have d0 := hbk.cell 0 _ rfl
      have d1 := hbk.cell 1 _ rfl
      have HJ3 := Lib.hid (HJ2.out.below hB)
      have HYES := Lib.hid (fun h => acc_yes (no := decide (y = -1)) (y := y) (port := q) (k := k) h)
      have HNO := Lib.hid (fun h => acc_no (no := decide (y = -1)) (y := y) (port := q) (k := k) h)
      clear hbk
      by_cases hp : (k : Int) = q
      · have u2 : ((k : Int) != q) = false := by rw [bne_eq_false_iff_eq]; exact hp
        have HE := Lib.hid (HNO.out (by rw [u2]; rfl))
        clear hp HYES HNO
        go_wp2_with fail
        go_roundw
        case rel => exact ⟨k + 1, by omega, by first | rfl | go_num, by rw [HE.out]; exact hown, hB⟩
        case measure => simp [intOf]; omega
      · have u2 : ((k : Int) != q) = true := by rw [bne_iff_ne]; exact hp
        clear hp
        rcases HC.out with ⟨rfl, hy⟩ | ⟨k2, x, rfl, hx, hy⟩
        · have u3 : decide ((-1 : Int) < 0) = true := rfl
          have HE := Lib.hid (HYES.out (by rw [u2, decide_eq_true hy]; rfl))
          clear HYES HNO
          go_wp2_with (at_builtin
                       refine wp_app rfl (.tmp 33) (.tmp 35) rfl w2.heap.size _ (acc (decide (y = -1)) y q k) (some ⟨wr.heap.size, 0, none⟩) 1 1 [(k : Int)] rfl (hown.alloc _) rfl rfl (Ints.one wr (k : Int) (w4r hk)) (by rw [List.length_singleton]; omega) (Nat.le_trans hBs (by simp)) ?_
                       intro v1 wa hown1 hg1 hat1
                       have hb1 : Below w2.heap.size w2 wa := below_one hB hBs _ hown hg1
                       clear hat1 hg1)
          go_roundw
          case rel => exact ⟨k + 1, by omega, by first | rfl | go_num, by rw [HE.out]; exact hown1, hb1⟩
          case measure => simp [intOf]; omega
        · have u3 : decide ((k2 : Int) < 0) = false := decide_eq_false (by omega)
          have hk2 := lt_of_at hx
          rw [← HM.out] at hk2
          have hk2z : (k2 : Int) < (m : Int) := by omega
          obtain ⟨b0, off, rfl, _, hc⟩ := HJ3.out.2.2.2 (by rw [List.length_map, ← HM.out]; omega)
          have hc1 := hc k2 (by rw [List.length_map, ← HM.out]; exact hk2)
          rw [snd_at hx, ← hy] at hc1
          have hyn : decide (y = -1) = false ∨ decide (y = -1) = true := by cases decide (y = -1) <;> simp
          have HPOS := Lib.hid (show 0 ≤ y by rw [hy]; exact HRNG.out x (List.mem_of_getElem? hx))
          clear hc hx
          by_cases hyk : y = (k : Int)
          · have u4 : (y == (k : Int)) = true := by rw [beq_iff_eq]; exact hyk
            have HE := Lib.hid (HYES.out (by rw [u2, u4]; simp))
            clear HYES HNO hyn
            clear hyk
            go_wp2_with (at_builtin
                         refine wp_app rfl (.tmp 33) (.tmp 35) rfl w2.heap.size _ (acc (decide (y = -1)) y q k) (some ⟨wr.heap.size, 0, none⟩) 1 1 [(k : Int)] rfl (hown.alloc _) rfl rfl (Ints.one wr (k : Int) (w4r hk)) (by rw [List.length_singleton]; omega) (Nat.le_trans hBs (by simp)) ?_
                         intro v1 wa hown1 hg1 hat1
                         have hb1 : Below w2.heap.size w2 wa := below_one hB hBs _ hown hg1
                         clear hat1 hg1)
            go_roundw
            case rel => exact ⟨k + 1, by omega, by first | rfl | go_num, by rw [HE.out]; exact hown1, hb1⟩
            case measure => simp [intOf]; omega
          · have u4 : (y == (k : Int)) = false := by rw [beq_eq_false_iff_ne]; exact hyk
            by_cases hy1 : y = -1
            · exact absurd HPOS.out (by omega)
            · have HE := Lib.hid (HNO.out (by rw [u2, u4, decide_eq_false hy1]; rfl))
              clear HYES HNO hyn hyk hy1 hy
              go_wp2_with fail
              go_roundw
              case rel => exact ⟨k + 1, by omega, by first | rfl | go_num, by rw [HE.out]; exact hown, hB⟩
              case measure => simp [intOf]; omega
    · obtain rfl : k = 4 := by omega
      have u1 : decide (((4 : Nat) : Int) < 4) = false := rfl
      rw [HO.out] at hown
      obtain ⟨p, c, rfl, hI⟩ := hown.form
      have HOW := Lib.hid (own_mono hown (show g ≤ w2.heap.size by omega))
      have HBE := Lib.hid (bcall HA2.out hB)
      generalize (out l t q).length = z at HOW ⊢
      clear hown hI hB HC
      go_wp2_with fail
      go_ret
      exact ⟨_, rfl, by rw [← HG.out] at HOW; exact HOW.out, HBE.out⟩
end Go.Proofs.YtbgbmchpikdgoaaDoor.Learn
