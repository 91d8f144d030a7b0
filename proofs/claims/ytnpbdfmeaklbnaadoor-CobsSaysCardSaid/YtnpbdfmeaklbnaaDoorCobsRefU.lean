/- The contract of the document's reading of what is written without noughts. No statement is proved here. -/
import Derived.Test.YtnpbdfmeaklbnaaDoorCobsRef
namespace Go.Proofs.YtnpbdfmeaklbnaaDoor.Cobs
open Go.ChangeShapes Go.WideShapes Go.ChangeAt Go.RowKit
open Go.Proofs.YtnpbdfmeaklbnaaDoor.Kit Go.Proofs.YtnpbdfmeaklbnaaDoor.App Go.Proofs.YtnpbdfmeaklbnaaDoor.CobsMath
set_option linter.unusedVariables false
set_option maxRecDepth 20000

theorem runcobs_bad (p : Option Addr) (cap n : Nat) (l : List Int) (w : World) (hn : n = l.length) (h : Ints w p cap l) (m : Int) (hm : bad 1200 l = m) (h0 : m ≠ 0) :
    Calls Tryd.prog 9 #[.slice p n cap] w fun e w' => e = .returned (.tuple #[.slice none 0 0, .int .i64 m]) ∧ w = w' := by
  have C := Lib.hid (bytes_any 1200 p cap n l w hn h (by omega) m hm)
  have t1 : (m != 0) = true := by rw [bne_iff_ne]; exact h0
  clear h hn hm h0
  go_enter Tryd.func9, Tryd.ntmps9
  go_wp2_with fail
  refine C.out.mono ?_; rintro e w' ⟨rfl, rfl⟩
  go_wp2_with fail
  go_ret2
  exact ⟨rfl, rfl⟩
theorem runcobs_none (p : Option Addr) (cap n : Nat) (l : List Int) (w : World) (hn : n = l.length) (h : Ints w p cap l) (hl : l = []) :
    Calls Tryd.prog 9 #[.slice p n cap] w fun e w' => e = .returned (.tuple #[.slice none 0 0, .int .i64 5]) ∧ w = w' := by
  subst hn
  subst hl
  have C := Lib.hid (bytes_any 1200 p cap _ [] w rfl h (by omega) 0 (bad_of (by simp) rfl))
  clear h
  go_enter Tryd.func9, Tryd.ntmps9
  go_wp2_with fail
  refine C.out.mono ?_; rintro e w' ⟨rfl, rfl⟩
  go_wp2_with fail
  go_ret2
  exact ⟨rfl, rfl⟩

/-- What is told of a reading. -/
def told (R : Option (List Int)) : Int :=
  match R with
  | none => 2
  | some x => if 600 < x.length then 4 else 0
def Gives (R : Option (List Int)) (base : Nat) (w' : World) (v : Value) : Prop :=
  (∀ x, R = some x → x.length ≤ 600 → OwnI w' base v x) ∧ (told R ≠ 0 → v = .slice none 0 0)

set_option maxHeartbeats 4000000 in
theorem runcobs_any (p : Option Addr) (cap n : Nat) (l : List Int) (w : World) (hn : n = l.length) (h : Ints w p cap l) (h0 : bad 1200 l = 0) (hne : l ≠ []) (R : Option (List Int)) (hR : R = dec l) :
    Calls Tryd.prog 9 #[.slice p n cap] w fun e w' => ∃ v, e = .returned (.tuple #[v, .int .i64 (told R)]) ∧ Gives R w.heap.size w' v ∧ Below w.heap.size w w' := by
  have C := Lib.hid (bytes_any 1200 p cap n l w hn h (by omega) 0 h0)
  subst hn
  have hl := (bad_zero h0).1
  have hb := Lib.hid (bad_zero h0).2
  have hlen : 0 < l.length := by
    rcases Nat.eq_zero_or_pos l.length with e | e
    · exact absurd (List.eq_nil_of_length_eq_zero e) hne
    · exact e
  have t1 : ((l.length : Int) == 0) = false := by rw [beq_eq_false_iff_ne]; omega
  have hR0 : Hid (R = (dec (l.drop 0)).map ([] ++ ·)) := by
    show R = _
    rw [hR, List.drop_zero]
    cases dec l <;> rfl
  have hnone : R = none → told R = 2 ∧ ∀ w', Gives R w.heap.size w' (.slice none 0 0) := by
    intro e
    subst e
    exact ⟨rfl, fun w' => ⟨fun x hx => (by cases hx), fun _ => rfl⟩⟩
  have HN := Lib.hid hnone
  have hsome : ∀ x, R = some x → (600 < x.length → told R = 4 ∧ ∀ w', Gives R w.heap.size w' (.slice none 0 0)) ∧ (¬ 600 < x.length → told R = 0 ∧ ∀ w' v, OwnI w' w.heap.size v x → Gives R w.heap.size w' v) := by
    intro x e
    subst e
    refine ⟨fun hx => ⟨by simp [told, hx], fun w' => ⟨fun y hy hy2 => ?_, fun _ => rfl⟩⟩, fun hx => ⟨by simp [told, hx], fun w' v hv => ⟨fun y hy _ => ?_, fun ht => absurd (by simp [told, hx]) ht⟩⟩⟩
    · injection hy with hy
      subst hy
      omega
    · injection hy with hy
      subst hy
      exact hv
  have HSM := Lib.hid hsome
  clear hnone hsome h0 hR hne
  obtain ⟨T, hT⟩ : ∃ T, told R = T := ⟨_, rfl⟩
  rw [hT] at HN HSM ⊢
  clear hT
  obtain ⟨b, off, rfl, hbw, hc⟩ := h.2.2.2 hlen
  go_enter Tryd.func9, Tryd.ntmps9
  go_wp2_with fail
  refine C.out.mono ?_; rintro e w' ⟨rfl, rfl⟩
  have HC := Lib.hid hc
  clear hc C
  go_wp2_with fail
  go_loopw [5, 6] (fun v i wr => ∃ (k : Nat) (out : List Int), i = .int .i64 k ∧ k ≤ l.length ∧ out.length ≤ k ∧ OwnI wr w.heap.size v out ∧ Below w.heap.size w wr ∧ Hid (R = (dec (l.drop k)).map (out ++ ·))) (fun _ i _ => l.length - (intOf i).toNat)
  case atStart => exact ⟨0, [], rfl, Nat.zero_le _, Nat.le_refl _, OwnI.nil _ _, brefl _, hR0⟩
  case round =>
    obtain ⟨k, out, rfl, hk, hol, hown, hB, HE⟩ := hrel
    by_cases hlt : k < l.length
    · have s1 : decide ((k : Int) < (l.length : Int)) = true := decide_eq_true (by omega)
      have hck := (hB.cell (p := ⟨b, off + k, none⟩) hbw).trans (HC.out k hlt)
      have hbx := byt_get hb.out k
      have hld : (l.drop k).length = l.length - k := List.length_drop
      have hfirst : (l.drop k)[0]?.getD 0 = l[k]?.getD 0 := by rw [List.getElem?_drop]; rfl
      obtain ⟨x, hx⟩ : ∃ x, l[k]?.getD 0 = x := ⟨_, rfl⟩
      rw [hx] at hck hbx hfirst
      obtain ⟨nn, rfl⟩ : ∃ nn : Nat, x = (nn : Int) := ⟨x.toNat, by omega⟩
      have HS := Lib.hid (dec_round HE.out (by omega) hfirst)
      clear hx hfirst
      have hn255 : nn ≤ 255 := by omega
      by_cases hn0 : nn = 0
      · have E := Lib.hid (HN.out (HS.out.1 hn0))
        subst hn0
        go_wp2_with fail
        go_ret2
        exact ⟨.slice none 0 0, by rw [E.out.1]; rfl, E.out.2 _, hB⟩
      · have s2 : ((nn : Int) == 0) = false := by rw [beq_eq_false_iff_ne]; omega
        by_cases hbig : l.length < k + nn
        · have E := Lib.hid (HN.out (HS.out.2.1 (by omega)))
          have s3 : decide ((k : Int) + (nn : Int) > (l.length : Int)) = true := decide_eq_true (by omega)
          go_wp2_with fail
          go_ret2
          exact ⟨.slice none 0 0, by rw [E.out.1]; rfl, E.out.2 _, hB⟩
        · have s3 : decide ((k : Int) + (nn : Int) > (l.length : Int)) = false := decide_eq_false (by omega)
          have HS2 := HS.out.2.2 hn0 (by omega)
          rw [List.drop_drop, List.drop_drop] at HS2
          obtain ⟨blk, hbe⟩ : ∃ blk, (l.drop (k + 1)).take (nn - 1) = blk := ⟨_, rfl⟩
          have hbl : blk.length = nn - 1 := by rw [← hbe, List.length_take, List.length_drop]; omega
          have hbg : ∀ j : Nat, j < nn - 1 → blk[j]?.getD 0 = l[k + 1 + j]?.getD 0 := fun j hj => by rw [← hbe, List.getElem?_take, if_pos hj, List.getElem?_drop]
          rw [hbe] at HS2
          have HS3 := Lib.hid HS2
          have HBG := Lib.hid hbg
          have hwx := h.2.2.1
          have HWX := Lib.hid hwx
          clear HS2 hbg hbe hwx
          go_wp2_with fail
          go_loopw [5, 8] (fun v i wi => ∃ (j : Nat), i = .int .i64 j ∧ k + 1 ≤ j ∧ j ≤ k + nn ∧ OwnI wi w.heap.size v (out ++ blk.take (j - (k + 1))) ∧ Below w.heap.size w wi ∧ Hid (∀ t : Nat, t < j - (k + 1) → blk[t]?.getD 0 ≠ 0)) (fun _ i _ => k + nn - (intOf i).toNat)
          case atStart => exact ⟨k + 1, by go_num, Nat.le_refl _, by omega, by simpa using hown, hB, fun t ht => absurd ht (by omega)⟩
          case round =>
            obtain ⟨j, rfl, hj1, hj2, hown2, hBi, HZ⟩ := hrel
            have hBsi := hBi.size
            by_cases hjl : j < k + nn
            · have u1 : decide ((j : Int) < (k : Int) + (nn : Int)) = true := decide_eq_true (by omega)
              have hcj := (hBi.cell (p := ⟨b, off + j, none⟩) hbw).trans (HC.out j (by omega))
              have hbj := HBG.out (j - (k + 1)) (by omega)
              rw [show k + 1 + (j - (k + 1)) = j by omega] at hbj
              have hjw := HWX.out j
              obtain ⟨y, hy⟩ : ∃ y, l[j]?.getD 0 = y := ⟨_, rfl⟩
              rw [hy] at hcj hbj hjw
              have hjl2 : j < l.length := by omega
              clear hy
              by_cases hy0 : y = 0
              · subst hy0
                have hlt2 : run blk < nn - 1 := by
                  rcases Nat.lt_or_ge (run blk) (nn - 1) with hh | hh
                  · exact hh
                  · exact absurd hbj (run_get (by omega))
                have E := Lib.hid (HN.out (HS3.out.1 hlt2))
                go_wp2_with fail
                go_ret2
                exact ⟨.slice none 0 0, by rw [E.out.1]; rfl, E.out.2 _, hBi⟩
              · have u2 : (y == 0) = false := by rw [beq_eq_false_iff_ne]; exact hy0
                have hnext : out ++ blk.take (j - (k + 1)) ++ [y] = out ++ blk.take (j + 1 - (k + 1)) := by
                  have e : j + 1 - (k + 1) = (j - (k + 1)) + 1 := by omega
                  rw [e, List.append_assoc, List.take_add_one]
                  rw [List.getElem?_eq_getElem (by omega)] at hbj ⊢
                  have hbj : blk[j - (k + 1)] = y := hbj
                  rw [hbj]
                  rfl
                have HX := Lib.hid hnext
                have HBJ := Lib.hid hbj
                have hwl : (out ++ blk.take (j - (k + 1))).length ≤ 3000 := by rw [List.length_append, List.length_take]; omega
                obtain ⟨o3, ho3⟩ : ∃ o3, out ++ blk.take (j - (k + 1)) = o3 := ⟨_, rfl⟩
                rw [ho3] at hown2 hwl HX
                clear hnext ho3 hbj
                go_wp2_with (first
                  | (at_builtin
                     refine wp_app rfl (.tmp 49) (.tmp 54) rfl w.heap.size _ o3 (some ⟨wr.heap.size, 0, none⟩) 1 1 [y] rfl (hown2.alloc _) rfl rfl (Ints.one wr y hjw) (by simp; omega) (Nat.le_trans hBsi (by simp)) ?_
                     intro va wa howna hga hata
                     have hBa : Below w.heap.size w wa := below_one hBi hBsi _ hown2 hga
                     clear hata hga))
                go_roundw
                case rel => exact ⟨j + 1, by go_num, by omega, by omega, by rw [← HX.out]; exact howna, hBa, fun t ht => by
                  by_cases e : t = j - (k + 1)
                  · rw [e, HBJ.out]; exact hy0
                  · exact HZ.out t (by omega)⟩
                case measure => simp [intOf]; omega
            · have hjk : j = k + nn := by omega
              have u1 : decide ((j : Int) < (k : Int) + (nn : Int)) = false := decide_eq_false (by omega)
              have htk : blk.take (j - (k + 1)) = blk := List.take_of_length_le (by omega)
              rw [htk] at hown2
              have hrun : ¬ run blk < nn - 1 := fun hh => HZ.out (run blk) (by omega) (run_at (by omega))
              have HS4 := Lib.hid (HS3.out.2 hrun)
              have hjn : ¬ j < k + nn := hjl
              clear htk hrun hjk
              have hl3 : (out ++ blk).length ≤ 3000 := by rw [List.length_append]; omega
              have hl4 : (out ++ blk).length ≤ k + nn - 1 := by rw [List.length_append]; omega
              obtain ⟨o3, ho3⟩ : ∃ o3, out ++ blk = o3 := ⟨_, rfl⟩
              rw [ho3] at hown2 hl3 hl4 HS4
              clear ho3
              by_cases h255 : nn < 255
              · have u2 : decide ((nn : Int) < 255) = true := decide_eq_true (by omega)
                by_cases hmore : k + nn < l.length
                · have u3 : decide ((k : Int) + (nn : Int) < (l.length : Int)) = true := decide_eq_true (by omega)
                  go_wp2_with (first
                    | (at_builtin
                       refine wp_app rfl (.tmp 67) (.tmp 68) rfl w.heap.size _ o3 (some ⟨wr.heap.size, 0, none⟩) 1 1 [0] rfl (hown2.alloc _) rfl rfl (Ints.one wr 0 wf_zero) (by simp; omega) (Nat.le_trans hBsi (by simp)) ?_
                       intro va wa howna hga hata
                       have hBa : Below w.heap.size w wa := below_one hBi hBsi _ hown2 hga
                       clear hata hga))
                  go_roundw
                  case rel => exact ⟨k + nn, o3 ++ [0], by go_num, by omega, by rw [List.length_append]; simp; omega, howna, hBa, HS4.out.2 (by omega) (by omega)⟩
                  case measure => simp [intOf]; omega
                · have u3 : decide ((k : Int) + (nn : Int) < (l.length : Int)) = false := decide_eq_false (by omega)
                  go_wp2_with fail
                  go_roundw
                  case rel => exact ⟨k + nn, o3, by go_num, by omega, by omega, hown2, hBi, HS4.out.1 (by omega)⟩
                  case measure => simp [intOf]; omega
              · have u2 : decide ((nn : Int) < 255) = false := decide_eq_false (by omega)
                go_wp2_with fail
                go_roundw
                case rel => exact ⟨k + nn, o3, by go_num, by omega, by omega, hown2, hBi, HS4.out.1 (by omega)⟩
                case measure => simp [intOf]; omega
    · have s1 : decide ((k : Int) < (l.length : Int)) = false := decide_eq_false (by omega)
      have hE : R = some out := by rw [HE.out, List.drop_eq_nil_of_le (by omega), dec_nil]; simp
      have HF := Lib.hid (HSM.out out hE)
      clear hE HE
      obtain ⟨q, c, rfl, _⟩ := hown.form
      by_cases hbig : 600 < out.length
      · have s2 : decide ((out.length : Int) > 600) = true := decide_eq_true (by omega)
        go_wp2_with fail
        go_ret2
        exact ⟨.slice none 0 0, by rw [(HF.out.1 hbig).1]; rfl, (HF.out.1 hbig).2 _, hB⟩
      · have s2 : decide ((out.length : Int) > 600) = false := decide_eq_false (by omega)
        go_wp2_with fail
        go_ret2
        exact ⟨_, by rw [(HF.out.2 hbig).1]; rfl, (HF.out.2 hbig).2 _ _ hown, hB⟩
end Go.Proofs.YtnpbdfmeaklbnaaDoor.Cobs
