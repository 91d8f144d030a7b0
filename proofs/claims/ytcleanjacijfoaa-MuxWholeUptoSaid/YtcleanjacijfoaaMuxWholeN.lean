/- Package mux: what holds while the pieces of a text come and are read, beside another text. No statement is proved here. -/
import Derived.Test.YtcleanjacijfoaaMuxLawM
namespace Go.Proofs.Ytcleanjacijfoaa.Mux
open Go.ChangeShapes Go.WideShapes Go.ChangeAt Go.RowKit Go.Proofs.Ytcleanjacijfoaa.Kit Go.Proofs.Ytcleanjacijfoaa.App Go.Proofs.Ytcleanjacijfoaa.Cells Go.Proofs.Ytcleanjacijfoaa.Err
set_option linter.unusedVariables false
set_option maxRecDepth 20000

theorem ext_eq (s : ByteArray) (a e : Nat) : s.extract a e = txt (piece (bl s) a e) := by rw [← bl_part, txt_bl]
theorem ext_all (s : ByteArray) : s.extract 0 s.size = s := by rw [ext_eq, ← bl_len, piece_all, txt_bl]
theorem piece_zero (T : List Nat) (e : Nat) : piece T 0 e = T.take e := by unfold piece; rw [List.drop_zero, Nat.sub_zero]
theorem ext_join (s : ByteArray) {q e : Nat} (h : q ≤ e) : s.extract 0 q ++ txt (piece (bl s) q e) = s.extract 0 e := by
  rw [ext_eq s 0 q, ext_eq s 0 e, ← txt_append, piece_zero, piece_zero, piece_join h]
theorem ext_size (s : ByteArray) {e : Nat} (h : e ≤ s.size) : (s.extract 0 e).size = e := by
  rw [ext_eq, txt_size, piece_len (Nat.zero_le _) (by rw [bl_len]; exact h)]
  omega
theorem ext_none (s : ByteArray) : s.extract 0 0 = ByteArray.empty := by rw [ext_eq, piece_zero, List.take_zero]; rfl
/-- While pieces of s come on stream 1 and are read, t being whole on stream 2. -/
structure Wh (s t : ByteArray) (d r : Nat → Nat) (q : Nat) : Prop where
  okm : Okm d r
  so : Some_ d 200 (bl s)
  at1 : r 1 = q
  le : q ≤ s.size
  en : fin d 200 q = q
  oth : Some_ d 400 (bl t)
  full : ∀ j, j < t.size → d (400 + j) ≠ 0
  at2 : r 2 = 0
  tl : t.size ≤ 200
def zz : Nat → Nat := fun _ => 0
theorem Wh.start (s t : ByteArray) (ht : t.size ≤ 200) : codeM zz ⟨2, 0, t⟩ = 0 ∧ Wh s t (putM zz ⟨2, 0, t⟩) zz 0 := by
  have hs : isS 2 := ⟨by decide, by decide⟩
  obtain ⟨h1, _, _, _⟩ := at_once (d := zz) (r := zz) hs t ht (fun _ _ => rfl) rfl
  have hl : (bl t).length ≤ 200 := by rw [bl_len]; exact ht
  obtain ⟨g1, g2, g3⟩ := put_text (d := zz) (b := 400) (T := bl t) (fun _ _ => rfl) hl
  have e : putM zz ⟨2, 0, t⟩ = put zz 400 (bl t) := by unfold putM; rw [if_pos h1]; rfl
  have hz : ∀ j, j < 200 → putM zz ⟨2, 0, t⟩ (200 + j) = 0 := fun j hj => putM_other zz ⟨2, 0, t⟩ (n := 1) (by show (2 : Int) ≠ ((1 : Nat) : Int); decide) hj
  refine ⟨h1, Okm.zero.put _, fun j hj => .inl (hz j hj), rfl, Nat.zero_le _, ?_, by rw [e]; exact g2, fun j hj => by rw [e]; exact g3 j (by rw [bl_len]; exact hj), rfl, ht⟩
  exact fin_uniq (Nat.zero_le _) (Nat.le_refl _) (Nat.zero_le _) (fun j h1 h2 => by omega) (.inr (hz 0 (by omega)))
theorem Wh.step {s t : ByteArray} {d r : Nat → Nat} {q : Nat} (H : Wh s t d r q) (hs : s.size ≤ 200) {a e : Nat} (h1 : a ≤ e) (h2 : e ≤ s.size) :
    codeM d ⟨1, (a : Int), s.extract a e⟩ = 0 ∧ ∃ q', q ≤ q' ∧ q' ≤ s.size ∧ s.extract 0 q ++ textM (putM d ⟨1, (a : Int), s.extract a e⟩) r 1 = s.extract 0 q' ∧
      Wh s t (putM d ⟨1, (a : Int), s.extract a e⟩) (readR (putM d ⟨1, (a : Int), s.extract a e⟩) r 1) q' ∧
      ∀ j, (a ≤ j ∧ j < e) ∨ d (200 + j) ≠ 0 → putM d ⟨1, (a : Int), s.extract a e⟩ (200 + j) ≠ 0 := by
  have hS : isS 1 := ⟨by decide, by decide⟩
  have hl : (bl s).length = s.size := bl_len s
  obtain ⟨hc, hp⟩ := piece_put (d := d) (n := 1) (T := s) hS H.so hs h1 h2
  have hp : putM d ⟨1, (a : Int), s.extract a e⟩ = put d (200 + a) (piece (bl s) a e) := hp
  have hso : Some_ (putM d ⟨1, (a : Int), s.extract a e⟩) 200 (bl s) := by rw [hp]; exact some_put H.so (by omega) h1 (by omega)
  have hth : ∀ j, (a ≤ j ∧ j < e) ∨ d (200 + j) ≠ 0 → putM d ⟨1, (a : Int), s.extract a e⟩ (200 + j) ≠ 0 := fun j hj => by rw [hp]; exact put_there d 200 h1 (by omega) hj
  have ho : ∀ j, j < 200 → putM d ⟨1, (a : Int), s.extract a e⟩ (400 + j) = d (400 + j) := fun j hj => putM_other d ⟨1, (a : Int), s.extract a e⟩ (n := 2) (by show (1 : Int) ≠ ((2 : Nat) : Int); decide) hj
  have hok := H.okm.put ⟨1, (a : Int), s.extract a e⟩
  generalize putM d ⟨1, (a : Int), s.extract a e⟩ = D at hso hth ho hok ⊢
  have hq : q ≤ 200 := by have := H.le; omega
  obtain ⟨g1, g2, g3, _⟩ := fin_spec D 200 hq
  have g4 := some_end hso (r := q) (by have := H.le; omega) hq
  obtain ⟨_, g5⟩ := some_said hso g1 g2 g3
  have hend : endM D r 1 = fin D 200 q := by show fin D 200 (r 1) = _; rw [H.at1]
  refine ⟨hc, fin D 200 q, g1, by omega, ?_, ⟨hok.read 1, hso, ?_, by omega, fin_again D 200 hq, ?_, ?_, ?_, H.tl⟩, hth⟩
  · unfold textM
    rw [if_pos hS, hend]
    show _ ++ txt (said D 200 (r 1) _) = _
    rw [H.at1, g5, ext_join s g1]
  · rw [readR_at D r hS, if_pos (by rfl), hend]
  · intro j hj
    have hj2 := H.oth j hj
    rw [ho j hj]
    exact hj2
  · intro j hj
    rw [ho j (by have := H.tl; omega)]
    exact H.full j hj
  · rw [readR_at D r hS, if_neg (by decide)]
    exact H.at2
theorem Wh.ends {s t : ByteArray} {d r : Nat → Nat} {q : Nat} (H : Wh s t d r q) (hs : s.size ≤ 200) (ht : t.size ≤ 200) (hall : ∀ j, j < s.size → d (200 + j) ≠ 0) :
    q = s.size ∧ textM d r 2 = t ∧ waitM d (readR d r 2) 1 = 0 ∧ waitM d (readR d r 2) 2 = 0 := by
  have hS : isS 2 := ⟨by decide, by decide⟩
  have hS1 : isS 1 := ⟨by decide, by decide⟩
  have hl : (bl s).length = s.size := bl_len s
  have hlt : (bl t).length = t.size := bl_len t
  have hq : q = s.size := by rw [← H.en, some_fin H.so (by omega) (by have := H.le; omega) (fun j hj => hall j (by omega)), hl]
  have hf : endM d r 2 = t.size := by
    show fin d 400 (r 2) = _
    rw [H.at2, some_fin H.oth (by omega) (Nat.zero_le _) (fun j hj => H.full j (by omega)), hlt]
  refine ⟨hq, ?_, ?_, ?_⟩
  · unfold textM
    rw [if_pos hS, hf]
    show txt (said d 400 (r 2) _) = _
    rw [H.at2, (some_said H.oth (Nat.zero_le _) ht (fun j _ hj => H.full j hj)).2, ← hlt, piece_all, txt_bl]
  · unfold waitM
    rw [if_pos hS1, readR_at d r hS, if_neg (by decide)]
    show ((wait d 200 (r 1) : Nat) : Int) = 0
    rw [H.at1, hq, ← hl, some_wait H.so (by omega)]
    rfl
  · unfold waitM
    rw [if_pos hS, readR_at d r hS, if_pos rfl, hf]
    show ((wait d 400 t.size : Nat) : Int) = 0
    rw [← hlt, some_wait H.oth (by omega)]
    rfl
/-- So many of the pieces came. -/
def Cov (d : Nat → Nat) (z T m : Nat) : Prop := ∀ k, k < m → ∀ j, k * z ≤ j → j < min (k * z + z) T → d (200 + j) ≠ 0
theorem Cov.none (d : Nat → Nat) (z T : Nat) : Cov d z T 0 := fun k hk => by omega
theorem Cov.all {d : Nat → Nat} {z T : Nat} (hz : 1 ≤ z) (H : Cov d z T ((T + z - 1) / z)) : ∀ j, j < T → d (200 + j) ≠ 0 := fun j hj => by
  obtain ⟨k, h1, h2, h3⟩ := covers hz hj
  exact H k h1 j h2 h3
theorem Cov.next {d D : Nat → Nat} {z T m : Nat} (H : Cov d z T m) (hD : ∀ j, (m * z ≤ j ∧ j < min (m * z + z) T) ∨ d (200 + j) ≠ 0 → D (200 + j) ≠ 0) : Cov D z T (m + 1) := fun k hk j h1 h2 => by
  by_cases e : k = m
  · subst e; exact hD j (.inl ⟨h1, h2⟩)
  · exact hD j (.inr (H k (by omega) j h1 h2))
end Go.Proofs.Ytcleanjacijfoaa.Mux
