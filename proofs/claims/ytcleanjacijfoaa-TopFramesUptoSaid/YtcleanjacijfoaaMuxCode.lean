/- Package mux: what its operations answer, and what is there behind them. No statement is proved here. -/
import Derived.Test.YtcleanjacijfoaaMuxMath
import Derived.Test.YtcleanjacijfoaaFrame
import Derived.Test.YtcleanjacijfoaaErr
namespace Go.Proofs.Ytcleanjacijfoaa.Mux
open Go.ChangeShapes Go.WideShapes Go.ChangeAt Go.RowKit Go.Proofs.Ytcleanjacijfoaa.Kit Go.Proofs.Ytcleanjacijfoaa.App Go.Proofs.Ytcleanjacijfoaa.Cells Go.Proofs.Ytcleanjacijfoaa.Err
set_option linter.unusedVariables false
set_option maxRecDepth 20000

/-- The bytes of a text. -/
def bl (s : ByteArray) : List Nat := s.data.toList.map UInt8.toNat
theorem bl_len (s : ByteArray) : (bl s).length = s.size := by unfold bl; rw [List.length_map]; rfl
theorem bl_at (s : ByteArray) {i : Nat} (hi : i < s.size) : (bl s)[i]?.getD 0 = (s[i]'hi).toNat := by
  unfold bl
  have h : i < s.data.toList.length := hi
  rw [List.getElem?_map, List.getElem?_eq_getElem h]
  rfl
theorem bl_lt (s : ByteArray) : ∀ x ∈ bl s, x < 256 := fun x hx => by
  obtain ⟨b, _, rfl⟩ := List.mem_map.1 hx
  exact b.toNat_lt
theorem bl_get_lt (s : ByteArray) (i : Nat) : (bl s)[i]?.getD 0 < 256 := by
  cases h : (bl s)[i]? with
  | none => decide
  | some x => exact bl_lt s x (List.mem_of_getElem? h)
/-- The text of some bytes. -/
def txt (l : List Nat) : ByteArray := ⟨(l.map UInt8.ofNat).toArray⟩
theorem txt_nil : txt [] = ByteArray.empty := rfl
theorem txt_bl (s : ByteArray) : txt (bl s) = s := by
  unfold txt bl
  rw [List.map_map]
  have : (UInt8.ofNat ∘ UInt8.toNat) = id := by funext x; simp
  rw [this, List.map_id]
theorem txt_size (l : List Nat) : (txt l).size = l.length := by
  show (l.map UInt8.ofNat).toArray.size = _
  simp
theorem txt_append (a b : List Nat) : txt (a ++ b) = txt a ++ txt b := by
  refine ByteArray.ext ?_
  unfold txt
  rw [ByteArray.data_append, List.map_append]
  simp
/-- A stream. -/
def isS (n : Int) : Prop := 0 ≤ n ∧ n ≤ 3
instance (n : Int) : Decidable (isS n) := by unfold isS; infer_instance
def isAt (n : Int) : Prop := 0 ≤ n ∧ n ≤ 200
instance (n : Int) : Decidable (isAt n) := by unfold isAt; infer_instance
/-- Where a frame begins. -/
def beg (f : Frm) : Nat := 200 * f.st.toNat + f.pos.toNat
/-- What is wrong with a frame. -/
def codeM (d : Nat → Nat) (f : Frm) : Int := if isS f.st ∧ isAt f.pos then (if 200 - f.pos < (f.dat.size : Int) then 4 else if clash d (beg f) (bl f.dat) then 6 else 0) else 1
def putM (d : Nat → Nat) (f : Frm) : Nat → Nat := if codeM d f = 0 then put d (beg f) (bl f.dat) else d
/-- What is read of a stream, and where it ends. -/
def endM (d : Nat → Nat) (r : Nat → Nat) (n : Int) : Nat := fin d (200 * n.toNat) (r n.toNat)
def textM (d : Nat → Nat) (r : Nat → Nat) (n : Int) : ByteArray := if isS n then txt (said d (200 * n.toNat) (r n.toNat) (endM d r n)) else ByteArray.empty
def codeR (n : Int) : Int := if isS n then 0 else 1
def readR (d : Nat → Nat) (r : Nat → Nat) (n : Int) : Nat → Nat := if isS n then (fun k => if k = n.toNat then endM d r n else r k) else r
def waitM (d : Nat → Nat) (r : Nat → Nat) (n : Int) : Int := if isS n then (wait d (200 * n.toNat) (r n.toNat) : Int) else 0
/-- What came, and how far it was read. -/
structure Okm (d : Nat → Nat) (r : Nat → Nat) : Prop where
  byte : ∀ k, d k ≤ 256
  rd : ∀ n, r n ≤ 200
  got : ∀ n j, j < r n → d (200 * n + j) ≠ 0
theorem Okm.zero : Okm (fun _ => 0) (fun _ => 0) := ⟨fun _ => Nat.zero_le _, fun _ => Nat.zero_le _, fun n j h => by omega⟩
theorem codeM_ok {d : Nat → Nat} {f : Frm} (h : codeM d f = 0) : isS f.st ∧ isAt f.pos ∧ f.pos + (f.dat.size : Int) ≤ 200 ∧ ¬ clash d (beg f) (bl f.dat) := by
  unfold codeM at h
  by_cases h1 : isS f.st ∧ isAt f.pos
  · rw [if_pos h1] at h
    by_cases h2 : 200 - f.pos < (f.dat.size : Int)
    · rw [if_pos h2] at h; simp at h
    · rw [if_neg h2] at h
      by_cases h3 : clash d (beg f) (bl f.dat)
      · rw [if_pos h3] at h; simp at h
      · exact ⟨h1.1, h1.2, by omega, h3⟩
  · rw [if_neg h1] at h; simp at h
theorem codeM_is {d : Nat → Nat} {f : Frm} (h1 : isS f.st) (h2 : isAt f.pos) (h3 : f.pos + (f.dat.size : Int) ≤ 200) (h4 : ¬ clash d (beg f) (bl f.dat)) : codeM d f = 0 := by
  unfold codeM
  rw [if_pos ⟨h1, h2⟩, if_neg (by omega), if_neg h4]
theorem codeM_cases (d : Nat → Nat) (f : Frm) : codeM d f = 0 ∨ codeM d f = 1 ∨ codeM d f = 4 ∨ codeM d f = 6 := by
  unfold codeM
  split
  · split
    · exact .inr (.inr (.inl rfl))
    · split
      · exact .inr (.inr (.inr rfl))
      · exact .inl rfl
  · exact .inr (.inl rfl)
theorem putM_keeps (d : Nat → Nat) (f : Frm) {j : Nat} (hj : d j ≠ 0) : putM d f j = d j := by
  unfold putM
  split
  · rename_i h
    exact put_keeps (codeM_ok h).2.2.2 hj
  · rfl
theorem Okm.put {d r : Nat → Nat} (H : Okm d r) (f : Frm) : Okm (putM d f) r := by
  refine ⟨fun k => ?_, H.rd, fun n j hj => ?_⟩
  · unfold putM
    split
    · unfold Mux.put
      split
      · have := bl_get_lt f.dat (k - beg f); omega
      · exact H.byte k
    · exact H.byte k
  · rw [putM_keeps d f (H.got n j hj)]
    exact H.got n j hj
theorem Okm.read {d r : Nat → Nat} (H : Okm d r) (n : Int) : Okm d (readR d r n) := by
  unfold readR
  split
  · obtain ⟨h1, h2, h3, _⟩ := fin_spec d (200 * n.toNat) (H.rd n.toNat)
    refine ⟨H.byte, fun k => ?_, fun k j hj => ?_⟩
    · show (if k = n.toNat then endM d r n else r k) ≤ 200
      split
      · exact h2
      · exact H.rd k
    · have hj : j < (if k = n.toNat then endM d r n else r k) := hj
      split at hj
      · rename_i e
        rw [e]
        by_cases h : j < r n.toNat
        · exact H.got _ j h
        · exact h3 j (by omega) hj
      · exact H.got k j hj
  · exact H
/-- What lies in other streams stays. -/
theorem putM_other (d : Nat → Nat) (f : Frm) {n j : Nat} (hn : f.st ≠ (n : Int)) (hj : j < 200) : putM d f (200 * n + j) = d (200 * n + j) := by
  unfold putM
  split
  · rename_i h
    obtain ⟨h1, h2, h3, _⟩ := codeM_ok h
    have h4 := h1.1
    have h5 := h2.1
    have h6 := bl_len f.dat
    refine put_out _ _ _ ?_
    rw [h6]
    unfold beg
    have hs : f.st.toNat ≠ n := fun e => hn (by omega)
    rcases Nat.lt_or_gt_of_ne hs with h7 | h7
    · exact .inr (by omega)
    · exact .inl (by omega)
  · rfl
end Go.Proofs.Ytcleanjacijfoaa.Mux
