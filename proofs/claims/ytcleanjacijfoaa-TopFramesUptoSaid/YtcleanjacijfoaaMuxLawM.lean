/- Package mux: what the laws say of its operations, as mathematics. No statement is proved here. -/
import Derived.Test.YtcleanjacijfoaaMuxCode
import Derived.Test.YtcleanjacijfoaaMuxWholeM
namespace Go.Proofs.Ytcleanjacijfoaa.Mux
open Go.ChangeShapes Go.WideShapes Go.ChangeAt Go.RowKit Go.Proofs.Ytcleanjacijfoaa.Kit Go.Proofs.Ytcleanjacijfoaa.App Go.Proofs.Ytcleanjacijfoaa.Cells Go.Proofs.Ytcleanjacijfoaa.Err
set_option linter.unusedVariables false
set_option maxRecDepth 20000

theorem piece_all (T : List Nat) : piece T 0 T.length = T := by unfold piece; rw [List.drop_zero, Nat.sub_zero, List.take_length]
theorem some_zero {d : Nat → Nat} {b : Nat} (T : List Nat) (h : ∀ j, j < 200 → d (b + j) = 0) : Some_ d b T := fun j hj => .inl (h j hj)
/-- A whole text comes at once, where nothing came. -/
theorem put_text {d : Nat → Nat} {b : Nat} {T : List Nat} (h : ∀ j, j < 200 → d (b + j) = 0) (hT : T.length ≤ 200) : ¬ clash d b T ∧ Some_ (put d b T) b T ∧ ∀ j, j < T.length → put d b T (b + j) ≠ 0 := by
  have h1 := some_clash (some_zero T h) hT (Nat.zero_le _) (Nat.le_refl _)
  have h2 := some_put (some_zero T h) hT (Nat.zero_le _) (Nat.le_refl _)
  rw [piece_all, Nat.add_zero] at h1 h2
  refine ⟨h1, h2, fun j hj => ?_⟩
  rw [put_in _ _ _ hj]
  omega
/-- One byte more, where it is already. -/
theorem one_same {d : Nat → Nat} {k c : Nat} (h : d k = c + 1) : ¬ clash d k [c] ∧ put d k [c] = d := by
  refine ⟨fun ⟨i, hi, _, h2⟩ => ?_, ?_⟩
  · have : i = 0 := by simp at hi; exact hi
    subst this
    exact h2 (by rw [Nat.add_zero, h]; rfl)
  · funext j
    by_cases e : j = k
    · rw [e]
      have := put_in d k [c] (i := 0) (by simp)
      rw [Nat.add_zero] at this
      rw [this, h]
      rfl
    · exact put_out _ _ _ (by simp; omega)
/-- One byte more, where another one is. -/
theorem one_other {d : Nat → Nat} {k c x : Nat} (h : d k = x + 1) (hx : x ≠ c) : clash d k [c] :=
  ⟨0, by simp, by rw [Nat.add_zero, h]; omega, by rw [Nat.add_zero, h]; show x + 1 ≠ c + 1; omega⟩
/-- A frame that was taken is taken again, and nothing turns. -/
theorem put_twice {d : Nat → Nat} {f : Frm} (h : codeM d f = 0) : codeM (putM d f) f = 0 ∧ putM (putM d f) f = putM d f := by
  obtain ⟨h1, h2, h3, h4⟩ := codeM_ok h
  have e : putM d f = put d (beg f) (bl f.dat) := by unfold putM; rw [if_pos h]
  have h5 := put_again d (beg f) (bl f.dat)
  have hc : codeM (putM d f) f = 0 := codeM_is h1 h2 h3 (by rw [e]; exact h5.1)
  refine ⟨hc, ?_⟩
  rw [show putM (putM d f) f = put (putM d f) (beg f) (bl f.dat) by unfold putM; rw [if_pos (show codeM (if codeM d f = 0 then _ else _) f = 0 from hc)], e, h5.2]
/-- A frame's byte lies where it should. -/
theorem putM_at {d : Nat → Nat} {f : Frm} (h : codeM d f = 0) {i : Nat} (hi : i < f.dat.size) : putM d f (beg f + i) = (f.dat[i]'hi).toNat + 1 := by
  unfold putM
  rw [if_pos h, put_in _ _ _ (by rw [bl_len]; exact hi), bl_at _ hi]
/-- A frame of one byte of another frame's. -/
theorem beg_one (st pos : Int) (s t : ByteArray) (i : Nat) (h : 0 ≤ pos) : beg ⟨st, pos + (i : Int), t⟩ = beg ⟨st, pos, s⟩ + i := by
  unfold beg
  show 200 * st.toNat + (pos + (i : Int)).toNat = 200 * st.toNat + pos.toNat + i
  omega
theorem frame_one {d : Nat → Nat} {f : Frm} (h : codeM d f = 0) {i : Nat} (hi : i < f.dat.size) (t : ByteArray) (c : Nat) (ht : bl t = [c]) :
    (c = (f.dat[i]'hi).toNat → codeM (putM d f) ⟨f.st, f.pos + (i : Int), t⟩ = 0 ∧ putM (putM d f) ⟨f.st, f.pos + (i : Int), t⟩ = putM d f) ∧ (c ≠ (f.dat[i]'hi).toNat → codeM (putM d f) ⟨f.st, f.pos + (i : Int), t⟩ = 6 ∧ putM (putM d f) ⟨f.st, f.pos + (i : Int), t⟩ = putM d f) := by
  obtain ⟨h1, h2, h3, _⟩ := codeM_ok h
  have hb : beg ⟨f.st, f.pos + (i : Int), t⟩ = beg f + i := beg_one f.st f.pos f.dat t i h2.1
  have hd := putM_at h hi
  have hs : t.size = 1 := by rw [← bl_len, ht]; rfl
  have hp : isAt (f.pos + (i : Int)) := ⟨by have := h2.1; omega, by omega⟩
  have hsz : f.pos + (i : Int) + (t.size : Int) ≤ 200 := by rw [hs]; omega
  refine ⟨fun e => ?_, fun e => ?_⟩
  · have ho := one_same (c := c) (by rw [hd, e] : putM d f (beg f + i) = c + 1)
    have hc : codeM (putM d f) ⟨f.st, f.pos + (i : Int), t⟩ = 0 := codeM_is h1 hp hsz (by show ¬ clash _ (beg ⟨f.st, f.pos + (i : Int), t⟩) (bl t); rw [hb, ht]; exact ho.1)
    refine ⟨hc, ?_⟩
    generalize putM d f = D at hc ho
    unfold putM
    rw [if_pos hc, hb, ht, ho.2]
  · have ho := one_other (c := c) hd (fun h9 => e h9.symm)
    have hc : codeM (putM d f) ⟨f.st, f.pos + (i : Int), t⟩ = 6 := by
      unfold codeM
      rw [if_pos ⟨h1, hp⟩, if_neg (by show ¬ 200 - (f.pos + (i : Int)) < (t.size : Int); omega), if_pos (by show clash _ (beg ⟨f.st, f.pos + (i : Int), t⟩) (bl t); rw [hb, ht]; exact ho)]
    refine ⟨hc, ?_⟩
    generalize putM d f = D at hc
    unfold putM
    rw [hc, if_neg (by decide)]
theorem readR_at (d r : Nat → Nat) {n : Int} (hn : isS n) (k : Nat) : readR d r n k = if k = n.toNat then endM d r n else r k := by unfold readR; rw [if_pos hn]
/-- Read once: what is left waits; read again: nothing. -/
theorem read_twice {d r : Nat → Nat} (H : Okm d r) {n : Int} (hn : isS n) : endM d (readR d r n) n = endM d r n ∧ textM d (readR d r n) n = ByteArray.empty ∧ readR d (readR d r n) n = readR d r n ∧ waitM d r n = ((textM d r n).size : Int) + waitM d (readR d r n) n := by
  have h0 : readR d r n n.toNat = endM d r n := by unfold readR; rw [if_pos hn]; simp
  have h1 : endM d (readR d r n) n = endM d r n := by
    show fin d (200 * n.toNat) (readR d r n n.toNat) = _
    rw [h0]
    exact fin_again d _ (H.rd _)
  obtain ⟨g1, g2, g3, _⟩ := fin_spec d (200 * n.toNat) (H.rd n.toNat)
  refine ⟨h1, ?_, ?_, ?_⟩
  · unfold textM
    rw [if_pos hn, h1, h0, said_none]
    rfl
  · funext k
    rw [readR_at d (readR d r n) hn]
    split
    · rename_i e
      rw [h1, e, h0]
    · rfl
  · unfold waitM textM
    rw [if_pos hn, if_pos hn, if_pos hn, h0, txt_size, said_len]
    have := wait_read (d := d) (b := 200 * n.toNat) (endM d r n - r n.toNat) (at_ := r n.toNat) (by have : endM d r n ≤ 200 := g2; omega) (fun j hj1 hj2 => g3 j hj1 (by have : r n.toNat ≤ endM d r n := g1; show j < endM d r n; omega))
    rw [this, show r n.toNat + (endM d r n - r n.toNat) = endM d r n from Nat.add_sub_cancel' g1]
    omega
/-- A text that comes at once, where nothing came: it is read whole. -/
theorem at_once {d r : Nat → Nat} {n : Int} (hn : isS n) (s : ByteArray) (hs : s.size ≤ 200) (h0 : ∀ j, j < 200 → d (200 * n.toNat + j) = 0) (hr : r n.toNat = 0) :
    codeM d ⟨n, 0, s⟩ = 0 ∧ textM (putM d ⟨n, 0, s⟩) r n = s ∧ endM (putM d ⟨n, 0, s⟩) r n = s.size ∧ waitM (putM d ⟨n, 0, s⟩) (readR (putM d ⟨n, 0, s⟩) r n) n = 0 := by
  have hl : (bl s).length ≤ 200 := by rw [bl_len]; exact hs
  obtain ⟨h1, h2, h3⟩ := put_text (T := bl s) h0 hl
  have hb : beg ⟨n, 0, s⟩ = 200 * n.toNat := rfl
  have hc : codeM d ⟨n, 0, s⟩ = 0 := codeM_is hn (show isAt 0 from ⟨by decide, by decide⟩) (by show (0 : Int) + (s.size : Int) ≤ 200; omega) (by rw [hb]; exact h1)
  have e : putM d ⟨n, 0, s⟩ = put d (200 * n.toNat) (bl s) := by unfold putM; rw [if_pos hc]; rfl
  have hf : endM (putM d ⟨n, 0, s⟩) r n = s.size := by
    unfold endM
    rw [e, hr, some_fin h2 hl (Nat.zero_le _) h3, bl_len]
  refine ⟨hc, ?_, hf, ?_⟩
  · unfold textM
    rw [if_pos hn, hf, hr, e, (some_said h2 (Nat.zero_le _) hs (fun j _ hj => h3 j (by rw [bl_len]; exact hj))).2, ← bl_len, piece_all, txt_bl]
  · unfold waitM
    rw [if_pos hn, readR_at _ _ hn, if_pos rfl, hf, e, ← bl_len, some_wait h2 hl]
    rfl
theorem bl_part (s : ByteArray) (a e : Nat) : bl (s.extract a e) = piece (bl s) a e := by
  unfold bl piece
  rw [← List.map_drop, ← List.map_take]
  congr 1
  simp [List.extract_eq_take_drop]
/-- A piece of a text comes, of which some came: it is taken. -/
theorem piece_put {d : Nat → Nat} {n : Int} {T : ByteArray} (hn : isS n) (H : Some_ d (200 * n.toNat) (bl T)) (hT : T.size ≤ 200) {a e : Nat} (h1 : a ≤ e) (h2 : e ≤ T.size) :
    codeM d ⟨n, (a : Int), T.extract a e⟩ = 0 ∧ putM d ⟨n, (a : Int), T.extract a e⟩ = put d (200 * n.toNat + a) (piece (bl T) a e) := by
  have hl : (bl T).length = T.size := bl_len T
  have hb : beg ⟨n, (a : Int), T.extract a e⟩ = 200 * n.toNat + a := by show 200 * n.toNat + (a : Int).toNat = _; rw [Int.toNat_natCast]
  have hz : (T.extract a e).size = e - a := by rw [← bl_len, bl_part, piece_len h1 (by omega)]
  have hc : codeM d ⟨n, (a : Int), T.extract a e⟩ = 0 := codeM_is hn ⟨by show 0 ≤ (a : Int); omega, by show (a : Int) ≤ 200; omega⟩ (by show (a : Int) + ((T.extract a e).size : Int) ≤ 200; rw [hz]; omega) (by rw [hb]; show ¬ clash d _ (bl (T.extract a e)); rw [bl_part]; exact some_clash H (by omega) h1 (by omega))
  refine ⟨hc, ?_⟩
  unfold putM
  rw [if_pos hc, hb]
  show put d _ (bl (T.extract a e)) = _
  rw [bl_part]
end Go.Proofs.Ytcleanjacijfoaa.Mux
