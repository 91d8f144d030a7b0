/- Package drr: start. No statement is proved here. -/
import Derived.Test.YtckfobkkjiiheaaDrr2
import Derived.Test.YtckfobkkjiiheaaRowsAt
import Derived.Deep.LoopGhost
namespace Go.Proofs.Ytckfobkkjiiheaa.Drr
open Go.ChangeShapes Go.WideShapes Go.ChangeAt Go.RowKit Go.Proofs.Ytckfobkkjiiheaa.Kit Go.Proofs.Ytckfobkkjiiheaa.App Go.Proofs.Ytckfobkkjiiheaa.Err Go.Proofs.Ytckfobkkjiiheaa.Cells Go.Proofs.Ytckfobkkjiiheaa.Queue
set_option linter.unusedVariables false
set_option maxRecDepth 20000
set_option maxHeartbeats 1000000

theorem len_fl {qs : List Fl} {fs : List F} (h : qs.map Fl.f = fs) : qs.length = fs.length := by rw [← h, List.length_map]
theorem startFrom_len : ∀ (ls : List (List Int)) (k : Nat), (startFrom k ls).length ≤ ls.length
  | [], k => by simp [startFrom]
  | l :: ls, k => by
    have := startFrom_len ls (k + 1)
    unfold startFrom
    split <;> simp <;> omega
theorem startTo_len (ls : List (List Int)) (k : Nat) : (startTo ls k).length ≤ ls.length := Nat.le_trans (startFrom_len _ 0) (by rw [List.length_take]; omega)

theorem nodup_rot {x : Nat} {l : List Nat} (h : (x :: l).Nodup) : (l ++ [x]).Nodup := by
  rw [List.nodup_cons] at h
  refine List.nodup_append.2 ⟨h.2, by simp, fun a ha b hb e => ?_⟩
  rw [List.mem_singleton] at hb
  exact h.1 (by rw [← hb, ← e]; exact ha)

theorem start_any (p : Option Addr) (cap n : Nat) (ls : List (List Int)) (w : World) (hn : n = ls.length) (hi : RowsI w p cap ls) (hg : Good ls) :
    Calls Try.prog 23 #[.slice p n cap] w fun e w' => e = .returned (.pointer (some ⟨w.heap.size, 0, none⟩)) ∧ ∃ q qs, St w w' w.heap.size q (.slice none 0 0) [] qs [] ∧ qs.map Fl.f = start ls := by
  have hlen := hi.len_le
  rw [← hn] at hlen
  have HI := Lib.hid (rows_at hi)
  have HN := Lib.hid hn
  have HG := Lib.hid hg
  have hn5 : n ≤ 5 := by rw [hn]; exact hg.1
  clear hn hi hg
  go_enter Try.func23, Try.ntmps23
  go_wp2_with fail
  have HS0 := Lib.hid (St.start w)
  generalize w.alloc (.cells #[.slice none 0 0] 64) = w1 at HS0 ⊢
  go_loopw [11] (fun iv wr => ∃ (k : Nat) (q : Value) (qs : List Fl), k ≤ n ∧ iv = .int .i64 k ∧ Hid (St w wr w.heap.size q (.slice none 0 0) [] qs []) ∧ Hid (qs.map Fl.f = startTo ls k)) (fun i _ => n - (intOf i).toNat)
  case atStart => exact ⟨0, _, [], Nat.zero_le _, rfl, HS0, Lib.hid rfl⟩
  case round =>
    obtain ⟨k, q, qs, hk, rfl, HS, HQ⟩ := hrel
    clear HS0
    by_cases hlt : k < n
    · have u1 : decide ((k : Int) < (n : Int)) = true := decide_eq_true (by omega)
      have hkl : k < ls.length := by rw [← HN.out]; exact hlt
      obtain ⟨b, off, rfl, hcc⟩ := HI.out (by omega)
      obtain ⟨qq, c, hck, hik⟩ := hcc wr HS.out.bel k hkl
      clear hcc
      have hfine := HG.out.row k
      have HL := Lib.hid (startTo_succ hkl)
      have HLN := Lib.hid (len_fl HQ.out)
      have HLT := Lib.hid (startTo_len ls k)
      obtain ⟨l, hl⟩ : ∃ l, row ls k = l := ⟨_, rfl⟩
      rw [hl] at hck hik hfine HL
      obtain ⟨m, hm⟩ : ∃ m, l.length = m := ⟨_, rfl⟩
      rw [hm] at hck
      have hm8 : l.length ≤ 8 := hfine.1
      have hm8' : m ≤ 8 := by omega
      have HS1 := Lib.hid (HS.out.new k)
      have hsz := HS.out.siz
      have PU := Lib.hid (put_any wr.heap.size (.int .i64 (k : Int)) (.int .i64 0) qq c m l (wr.alloc (.cells #[.int .i64 (k : Int), .slice none 0 0, .int .i64 0] 54)) w.heap.size (HS1.out.fl ⟨wr.heap.size, .slice none 0 0, ⟨k, [], 0⟩⟩ (by simp)).blk (hik.below (balloc (brefl _) _)) hm.symm hm8 (by simp; omega))
      have HM := Lib.hid hm
      clear hik hfine hl hm hkl hm8
      go_wp2_with fail
      refine PU.out.mono ?_; rintro e w3 ⟨rfl, v, hb3, ho3, hg3, hk3⟩
      have HS3 := Lib.hid (HS1.out.flow (x' := ⟨wr.heap.size, v, ⟨k, l, 0⟩⟩) hg3 ⟨hb3, ho3, hsz⟩ rfl (fun j hj => .inr (hk3 j hj)))
      obtain ⟨pv, cv, hv, _⟩ := ho3.form
      rw [HM.out] at hv
      subst hv
      clear PU HS1 hb3 ho3 hg3 hk3 hck
      obtain ⟨g, hg⟩ : ∃ g, wr.heap.size = g := ⟨_, rfl⟩
      rw [hg] at HS3 ⊢
      have b1 := (HS3.out.fl ⟨g, .slice pv m cv, ⟨k, l, 0⟩⟩ (by simp)).blk.cell 1 (.slice pv m cv) rfl
      simp only at b1
      clear HS hsz hg
      by_cases h0 : l = []
      · have hm0 : m = 0 := by rw [← HM.out, h0]; rfl
        subst hm0
        have EM := Lib.hid (empty_any g 1 0 cv pv w3 b1 true rfl)
        rw [if_pos h0] at HL
        clear h0
        go_wp2_with fail
        refine EM.out.mono ?_; rintro e w4 ⟨rfl, rfl⟩
        go_wp2_with fail
        go_roundw
        case rel => exact ⟨k + 1, q, qs, by omega, by first | rfl | go_num, Lib.hid HS3.out.drop, Lib.hid (by rw [HL.out]; exact HQ.out)⟩
        case measure => simp [intOf]; omega
      · have hm0 : m ≠ 0 := by rw [← HM.out]; intro h; exact h0 (List.eq_nil_of_length_eq_zero h)
        have t0 : ((m : Int) == 0) = false := by rw [beq_eq_false_iff_ne]; omega
        have EM := Lib.hid (empty_any g 1 m cv pv w3 b1 false t0)
        rw [if_neg h0] at HL
        have HS4 := Lib.hid (HS3.out.alloc (.cells #[.pointer (some ⟨g, 0, none⟩)] 48))
        have PP := Lib.hid (pput_any w.heap.size w3.heap.size g q (w3.alloc (.cells #[.pointer (some ⟨g, 0, none⟩)] 48)) w.heap.size (qs.map Fl.b) HS4.out.blk HS4.out.que HS4.out.ne (CI.one layP w3 g _) (by rw [List.length_map]; have := HLN.out; have := HLT.out; have := HN.out; omega) HS4.out.siz)
        clear h0 hm0
        go_wp2_with fail
        refine EM.out.mono ?_; rintro e w4 ⟨rfl, rfl⟩
        go_wp2_with fail
        refine PP.out.mono ?_; rintro e w5 ⟨rfl, q', hb5, hq5, hc5, hk5⟩
        have HS5 := Lib.hid (HS4.out.round (ex' := []) (qs' := qs ++ [⟨g, .slice pv m cv, ⟨k, l, 0⟩⟩]) hc5 hb5 (by rw [List.map_append]; exact hq5) hk5 (fun y hy => by
          simp at hy ⊢
          exact hy.symm) (by
          rw [List.nil_append, List.map_append]
          exact nodup_rot HS4.out.nd))
        clear PP EM HS4 HS3 hb5 hq5 hc5 hk5
        go_wp2_with fail
        go_roundw
        case rel => exact ⟨k + 1, q', _, by omega, by first | rfl | go_num, HS5, Lib.hid (by rw [HL.out, List.map_append, HQ.out]; rfl)⟩
        case measure => simp [intOf]; omega
    · obtain rfl : k = n := by omega
      have u1 : decide ((k : Int) < (k : Int)) = false := decide_eq_false (by omega)
      have HE := Lib.hid (show qs.map Fl.f = start ls by rw [HQ.out, HN.out, startTo_end])
      go_wp2_with fail
      go_ret
      exact ⟨rfl, q, qs, HS.out, HE.out⟩
end Go.Proofs.Ytckfobkkjiiheaa.Drr
