/- Contracts of Write, decode and Read of package cobs. No statement is proved here. -/
import Derived.Test.YtooicigocljomaaDoorCobs1
namespace Go.Proofs.YtooicigocljomaaDoor.Cobs
open Go.ChangeShapes Go.WideShapes Go.ChangeAt Go.RowKit
open Go.Proofs.YtooicigocljomaaDoor.Kit Go.Proofs.YtooicigocljomaaDoor.App Go.Proofs.YtooicigocljomaaDoor.CobsMath
set_option linter.unusedVariables false
set_option maxRecDepth 20000

def slen : Value → Nat
  | .slice _ n _ => n
  | _ => 0
def yes : Value → Nat
  | .bool true => 1
  | _ => 0
theorem wf_small {x : Int} (h0 : 0 ≤ x) (h1 : x ≤ 1000000) : (Lit.int .i64 x).wf = true := by
  simp [Lit.wf, IntKind.min, IntKind.max, IntKind.signed, IntKind.bits]; omega

theorem write_bad (p : Option Addr) (cap n : Nat) (l : List Int) (w : World) (hn : n = l.length) (h : Ints w p cap l) (m : Int) (hm : bad 600 l = m) (h0 : m ≠ 0) :
    Calls Tryd.prog 22 #[.slice p n cap] w fun e w' => e = .returned (.tuple #[.slice none 0 0, .iface 45 (.int .i64 m)]) ∧ w = w' := by
  have C := Lib.hid (check_bad 600 p cap n l w hn h (by omega) m hm h0)
  clear h hn hm h0
  go_enter Tryd.func22, Tryd.ntmps22
  go_wp2_with fail
  refine C.out.mono ?_; rintro e w' ⟨rfl, rfl⟩
  go_wp2_with fail
  go_ret2
  exact ⟨rfl, rfl⟩
theorem read_bad (p : Option Addr) (cap n : Nat) (l : List Int) (w : World) (hn : n = l.length) (h : Ints w p cap l) (m : Int) (hm : bad 1200 l = m) (h0 : m ≠ 0) :
    Calls Tryd.prog 23 #[.slice p n cap] w fun e w' => e = .returned (.tuple #[.slice none 0 0, .iface 45 (.int .i64 m)]) ∧ w = w' := by
  have C := Lib.hid (check_bad 1200 p cap n l w hn h (by omega) m hm h0)
  clear h hn hm h0
  go_enter Tryd.func23, Tryd.ntmps23
  go_wp2_with fail
  refine C.out.mono ?_; rintro e w' ⟨rfl, rfl⟩
  go_wp2_with fail
  go_ret2
  exact ⟨rfl, rfl⟩

theorem enc_step {out m l : List Int} {e : Nat} (he : cut m = e) (h : out ++ enc m = enc l) :
    (m.length ≤ e → (out ++ [(e : Int) + 1]) ++ m.take e = enc l) ∧ (¬ m.length ≤ e → ((out ++ [(e : Int) + 1]) ++ m.take e) ++ enc (nxt m) = enc l) := by
  subst he
  constructor
  · intro h1
    rw [enc_end h1] at h
    rw [← h]; simp
  · intro h1
    rw [enc_more h1] at h
    rw [← h]; simp

set_option maxHeartbeats 1000000 in
theorem write_ok (p : Option Addr) (cap n : Nat) (l : List Int) (w : World) (hn : n = l.length) (h : Ints w p cap l) (h0 : bad 600 l = 0) :
    Calls Tryd.prog 22 #[.slice p n cap] w fun e w' => ∃ v, e = .returned (.tuple #[v, .nilIface]) ∧ OwnI w' w.heap.size v (enc l) ∧ Below w.heap.size w w' := by
  have C := Lib.hid (check_good 600 p cap n l w hn h (by omega) h0)
  subst hn
  have hl := (bad_zero h0).1
  have HL := Lib.hid (enc_len l).2
  clear h0
  go_enter Tryd.func22, Tryd.ntmps22
  go_wp2_with fail
  refine C.out.mono ?_; rintro e w' ⟨rfl, rfl⟩
  go_wp2_with fail
  go_loopw [5, 6, 7] (fun v r q wr => ∃ (out : List Int) (more : Bool), q = .bool more ∧ OwnI wr w.heap.size v out ∧ Below w.heap.size w wr ∧
      ((more = true ∧ ∃ p2 c2 m, r = .slice p2 m.length c2 ∧ Ints w p2 c2 m ∧ m.length ≤ l.length ∧ Hid (out ++ enc m = enc l)) ∨ (more = false ∧ out = enc l))) (fun v r q _ => yes q * (slen r + 1))
  case atStart => exact ⟨[], true, rfl, OwnI.nil _ _, brefl _, .inl ⟨rfl, p, cap, l, rfl, h, Nat.le_refl _, rfl⟩⟩
  case round =>
    obtain ⟨out, more, rfl, hown, hB, ⟨rfl, p2, c2, m, rfl, hm, hml, HE⟩ | ⟨rfl, rfl⟩⟩ := hrel
    · have hBs := hB.size
      have CT := Lib.hid (cut_any p2 c2 m.length m wr rfl (hm.below hB) (by omega))
      have hol : out.length ≤ 603 := by
        have h1 := congrArg List.length HE.out
        rw [List.length_append] at h1
        have := HL.out
        omega
      go_wp2_with fail
      refine CT.out.mono ?_
      rintro e w1 ⟨p1, c1, v2, more2, rfl, hblk, hrest, hb1⟩
      have hce := cut_le m
      have hcl := cut_len m
      unfold Rest at hrest
      obtain ⟨ec, hec⟩ : ∃ ec, cut m = ec := ⟨_, rfl⟩
      have HS := Lib.hid (enc_step hec HE.out)
      rw [hec] at hblk hrest hce hcl
      rw [hec]
      have hnl := Lib.hid (fun hh : ¬ m.length ≤ cut m => nxt_lt hh)
      rw [hec] at hnl
      clear hec CT C
      have hown1 := hown.below hb1
      have hB1 := bcall hB hb1
      have hBs1 := hB1.size
      have hxw : (Lit.int .i64 ((ec : Int) + 1)).wf = true := wf_small (by omega) (by omega)
      have htl : (m.take ec).length = ec := by rw [List.length_take]; omega
      go_wp2_with (first
        | (at_builtin
           refine wp_app rfl (.tmp 22) (.tmp 26) rfl w.heap.size _ out (some ⟨w1.heap.size, 0, none⟩) 1 1 [(ec : Int) + 1] rfl (hown1.alloc _) rfl rfl (Ints.one w1 _ hxw) (by simp; omega) (Nat.le_trans hBs1 (by simp)) ?_
           intro va wa howna hga hata
           have hBa : Below w.heap.size w wa := below_one hB1 hBs1 _ hown1 hga
           clear hata hga)
        | (at_builtin
           refine wp_app rfl (.tmp 28) (.tmp 29) rfl w.heap.size va _ p1 c1 ec (m.take ec) rfl howna rfl htl.symm (hblk _ (hm.below hBa)) (by simp; omega) hBa.size ?_
           intro vb wb hownb hgb hatb
           have hBb : Below w.heap.size w wb := below_app hBa howna hgb hBa.size
           clear hatb hgb))
      go_roundw
      case rel =>
        rcases hrest with ⟨h1, rfl, rfl⟩ | ⟨h1, rfl, p3, c3, rfl, hI⟩
        · exact ⟨_, false, rfl, hownb, hBb, .inr ⟨rfl, HS.out.1 h1⟩⟩
        · exact ⟨_, true, rfl, hownb, hBb, .inl ⟨rfl, p3, c3, nxt m, rfl, hI _ hm, by have := hnl.out h1; omega, HS.out.2 h1⟩⟩
      case measure =>
        rcases hrest with ⟨h1, rfl, rfl⟩ | ⟨h1, rfl, p3, c3, rfl, hI⟩
        · simp [yes, slen]
        · have := hnl.out h1
          simp [yes, slen]; omega
    · go_wp2_with fail
      go_ret2
      exact ⟨_, rfl, hown, hB⟩

theorem dec_step {l : List Int} {k : Nat} (h0 : 0 < l.length) (hk : l[0]?.getD 0 = (k : Int)) :
    (k = 0 → dec l = none) ∧ (l.length < k → dec l = none) ∧
    (k ≠ 0 → k ≤ l.length → (run ((l.drop 1).take (k - 1)) < k - 1 → dec l = none) ∧
      (¬ run ((l.drop 1).take (k - 1)) < k - 1 → dec l = (dec (l.drop k)).map ((((l.drop 1).take (k - 1)) ++ gap k (l.length - k)) ++ ·))) := by
  cases l with
  | nil => simp at h0
  | cons x m =>
    have hx : x = (k : Int) := by simpa using hk
    subst hx
    have htn : ((k : Nat) : Int).toNat = k := by simp
    refine ⟨fun h => dec_bad (by rw [htn]; exact .inl h), fun h => dec_bad (by rw [htn]; exact .inr (by rw [List.length_cons] at h; omega)), fun hk0 hkl => ?_⟩
    rw [List.length_cons] at hkl
    have hg : ¬ (((k : Nat) : Int).toNat = 0 ∨ m.length + 1 < ((k : Nat) : Int).toNat) := by rw [htn]; omega
    have hln : (m.take (k - 1)).length = k - 1 := by rw [List.length_take]; omega
    have hd : ((k : Int) :: m).drop k = m.drop (k - 1) := by
      obtain ⟨j, rfl⟩ : ∃ j, k = j + 1 := ⟨k - 1, by omega⟩
      simp
    refine ⟨fun h => dec_nought hg (by rw [htn, hln]; exact h), fun h => ?_⟩
    rw [dec_more hg (by rw [htn, hln]; exact h), htn, hd]
    rfl

theorem dec_round {l out : List Int} {k : Nat} {R : Option (List Int)} (h : R = (dec l).map (out ++ ·)) (h0 : 0 < l.length) (hk : l[0]?.getD 0 = (k : Int)) :
    (k = 0 → R = none) ∧ (l.length < k → R = none) ∧
    (k ≠ 0 → k ≤ l.length → (run ((l.drop 1).take (k - 1)) < k - 1 → R = none) ∧
      (¬ run ((l.drop 1).take (k - 1)) < k - 1 →
        (k = 255 ∨ l.length ≤ k → R = (dec (l.drop k)).map ((out ++ (l.drop 1).take (k - 1)) ++ ·)) ∧
        (k ≠ 255 → k < l.length → R = (dec (l.drop k)).map ((out ++ (l.drop 1).take (k - 1) ++ [0]) ++ ·)))) := by
  have hs := dec_step h0 hk
  refine ⟨fun h1 => by rw [h, hs.1 h1]; rfl, fun h1 => by rw [h, hs.2.1 h1]; rfl, fun h1 h2 => ⟨fun h3 => by rw [h, (hs.2.2 h1 h2).1 h3]; rfl, fun h3 => ⟨fun h4 => ?_, fun h4 h5 => ?_⟩⟩⟩
  · have hg : gap k (l.length - k) = [] := by unfold gap; rw [if_neg (by omega)]
    rw [h, (hs.2.2 h1 h2).2 h3, hg, Option.map_map]
    congr 1
    funext y
    simp
  · have hg : gap k (l.length - k) = [0] := by unfold gap; rw [if_pos (by omega)]
    rw [h, (hs.2.2 h1 h2).2 h3, hg, Option.map_map]
    congr 1
    funext y
    simp
end Go.Proofs.YtooicigocljomaaDoor.Cobs
