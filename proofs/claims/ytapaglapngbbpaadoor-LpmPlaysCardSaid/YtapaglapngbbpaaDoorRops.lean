/- What the document's Set, Drop and Find of routes answer, each in one contract. No statement is proved here. -/
import Derived.Test.YtapaglapngbbpaaDoorLpmRoutes
import Derived.Test.YtapaglapngbbpaaDoorLpmOps
import Derived.Test.YtapaglapngbbpaaDoorRset1
import Derived.Test.YtapaglapngbbpaaDoorRdrop
import Derived.Test.YtapaglapngbbpaaDoorRfind
import Derived.Test.YtapaglapngbbpaaDoorRouteSame
import Derived.Test.YtapaglapngbbpaaDoorAs
namespace Go.Proofs.YtapaglapngbbpaaDoor.Lpm
open Go.ChangeShapes Go.WideShapes Go.ChangeAt Go.RowKit Go.Sort Go.Proofs.YtapaglapngbbpaaDoor.Kit Go.Proofs.YtapaglapngbbpaaDoor.App Go.Proofs.YtapaglapngbbpaaDoor.Cells Go.Proofs.YtapaglapngbbpaaDoor.Cidr Go.Proofs.YtapaglapngbbpaaDoor.CidrMath Go.Proofs.YtapaglapngbbpaaDoor.RouteMath Go.Proofs.YtapaglapngbbpaaDoor.Route Go.Proofs.YtapaglapngbbpaaDoor.As
set_option linter.unusedVariables false
set_option maxRecDepth 20000

theorem form3 {w : World} {base : Nat} {v : Value} {ls : List Rt} (h : OC layR 38 w base v ls) : ∃ p cap, v = .slice p ls.length cap ∧ CI layR w p cap ls ∧ ∀ a, p = some a → base ≤ a.block := by
  have h0 := h
  obtain ⟨p, cap, rfl, hc⟩ := OC.form h0
  refine ⟨p, cap, rfl, hc, fun a ha => ?_⟩
  subst ha
  obtain ⟨hl, ⟨e, _⟩ | ⟨g, c, cur, e, hb, _⟩⟩ := h
  · simp at e
  · simp only [Value.slice.injEq, Option.some.injEq] at e
    rw [e.1]; exact hb
/-- A list of the document's that is as it was or in new memory. -/
structure New (w w' : World) (q q' : Option Addr) (c' : Nat) (l' : List Rt) : Prop where
  ci : CI layR w' q' c' l'
  far : ∀ a, q' = some a → q = some a ∨ w.heap.size ≤ a.block
  below : Below w.heap.size w w'
theorem New.same {w w' : World} {q : Option Addr} {c : Nat} {l : List Rt} (hc : CI layR w q c l) (hb : Below w.heap.size w w') : New w w' q q c l := ⟨hc.below hb, fun a h => .inl h, hb⟩
theorem rset_any (q : Option Addr) (cap n : Nat) (l : List Rt) (r : Rt) (w : World) (hn : n = l.length) (hc : CI layR w q cap l) (hG : GT l) :
    Calls Tryd.prog 18 #[.agg #[.slice q n cap], .agg #[.int .i64 r.adr, .int .i64 r.len, .int .i64 r.hop]] w fun e w' => ∃ q' c', e = .returned (.tuple #[.agg #[.slice q' (setN l r).length c'], .int .i64 (setC l r)]) ∧ New w w' q q' c' (setN l r) := by
  have h32 : n ≤ 32 := hn ▸ hG.len
  by_cases h1 : code (key r) = 0
  · by_cases h2 : 0 ≤ r.hop ∧ r.hop ≤ 9
    · by_cases h3 : Is l (key r)
      · have e : setC l r = 0 := by unfold setC; rw [if_neg (by simpa using h1), if_pos h2, if_pos h3]
        have e2 : setN l r = setR l r true := by unfold setN; rw [if_pos e, decide_eq_true h3]
        rw [e, e2]
        refine (rset_old q cap n l r w hn hc h32 h1 h2 h3).mono ?_
        rintro _ w' ⟨v, rfl, hO, hb⟩
        obtain ⟨p, c, rfl, hC, hf⟩ := form3 hO
        exact ⟨p, c, rfl, hC, fun a ha => .inr (hf a ha), hb⟩
      · by_cases h4 : l.length = 32
        · have e : setC l r = 4 := by unfold setC; rw [if_neg (by simpa using h1), if_pos h2, if_neg h3, if_pos h4]
          have e2 : setN l r = l := by unfold setN; rw [if_neg (by rw [e]; decide)]
          rw [e, e2, ← hn]
          exact (rset_full q cap n l r w hn hc h32 h1 h2 h3 (by omega)).mono fun e w' ⟨h5, h6⟩ => ⟨q, cap, h5, New.same hc h6⟩
        · have e : setC l r = 0 := by unfold setC; rw [if_neg (by simpa using h1), if_pos h2, if_neg h3, if_neg h4]
          have e2 : setN l r = setR l r false := by unfold setN; rw [if_pos e, decide_eq_false h3]
          rw [e, e2]
          refine (rset_new q cap n l r w hn hc h32 h1 h2 h3 (by omega)).mono ?_
          rintro _ w' ⟨v, rfl, hO, hb⟩
          obtain ⟨p, c, rfl, hC, hf⟩ := form3 hO
          exact ⟨p, c, rfl, hC, fun a ha => .inr (hf a ha), hb⟩
    · have e : setC l r = 1 := by unfold setC; rw [if_neg (by simpa using h1), if_neg h2]
      have e2 : setN l r = l := by unfold setN; rw [if_neg (by rw [e]; decide)]
      rw [e, e2, ← hn]
      exact (rset_hop q cap n l r w hn hc h32 h1 h2).mono fun e w' ⟨h5, h6⟩ => ⟨q, cap, h5, New.same hc h6⟩
  · have e : setC l r = code (key r) := by unfold setC; rw [if_pos (by simpa using h1)]
    have e2 : setN l r = l := by unfold setN; rw [if_neg (by rw [e]; exact h1)]
    rw [e, e2, ← hn]
    exact (rset_bad q cap n r w _ rfl h1).mono fun e w' ⟨h5, h6⟩ => ⟨q, cap, h5, New.same hc h6⟩
theorem rdrop_any (q : Option Addr) (cap n : Nat) (l : List Rt) (p : Pfx) (w : World) (hn : n = l.length) (hc : CI layR w q cap l) (hG : GT l) :
    Calls Tryd.prog 19 #[.agg #[.slice q n cap], .agg #[.int .i64 p.adr, .int .i64 p.len]] w fun e w' => ∃ q' c', e = .returned (.tuple #[.agg #[.slice q' (dropN l p).length c'], .int .i64 (dropC l p)]) ∧ New w w' q q' c' (dropN l p) := by
  have h32 : n ≤ 32 := hn ▸ hG.len
  by_cases h1 : code p = 0
  · by_cases h3 : Is l p
    · have e : dropC l p = 0 := by unfold dropC; rw [if_neg (by simpa using h1), if_pos h3]
      have e2 : dropN l p = dropR l p := by unfold dropN; rw [if_pos e]
      rw [e, e2]
      refine (rdrop_ok q cap n l p w hn hc h32 h1 h3).mono ?_
      rintro _ w' ⟨v, rfl, hO, hb⟩
      obtain ⟨p, c, rfl, hC, hf⟩ := form3 hO
      exact ⟨p, c, rfl, hC, fun a ha => .inr (hf a ha), hb⟩
    · have e : dropC l p = 5 := by unfold dropC; rw [if_neg (by simpa using h1), if_neg h3]
      have e2 : dropN l p = l := by unfold dropN; rw [if_neg (by rw [e]; decide)]
      rw [e, e2, ← hn]
      exact (rdrop_none q cap n l p w hn hc h32 h1 h3).mono fun e w' ⟨h5, h6⟩ => ⟨q, cap, h5, New.same hc h6⟩
  · have e : dropC l p = code p := by unfold dropC; rw [if_pos (by simpa using h1)]
    have e2 : dropN l p = l := by unfold dropN; rw [if_neg (by rw [e]; exact h1)]
    rw [e, e2, ← hn]
    exact (rdrop_bad q cap n l p w hn hc h32 _ rfl h1).mono fun e w' ⟨h5, h6⟩ => ⟨q, cap, h5, New.same hc h6⟩
theorem rfind_all (q : Option Addr) (cap n : Nat) (l : List Rt) (a : Int) (w : World) (hn : n = l.length) (hc : CI layR w q cap l) (hG : GT l) :
    Calls Tryd.prog 20 #[.agg #[.slice q n cap], .int .i64 a] w fun e w' => e = .returned (.tuple #[.int .i64 (foundH (fnd l a)), .int .i64 (foundL (fnd l a)), .int .i64 (fndE l a)]) ∧ Gr w w' := by
  unfold fnd fndE
  by_cases h : 0 ≤ a ∧ a ≤ 65535
  · rw [if_pos h, if_pos h]
    obtain ⟨z, rfl⟩ : ∃ z : Nat, a = (z : Int) := ⟨a.toNat, by omega⟩
    rw [Int.toNat_natCast]
    exact rfind_in q cap n l z w hn hc hG.good (by omega) _ _ _ (by cases findR l z <;> exact ⟨rfl, rfl, rfl⟩)
  · rw [if_neg h, if_neg h]
    exact rfind_out q cap n a w h
theorem error_same (c : Int) (w : World) (hg : Handle w) : Calls Tryd.prog 11 #[er c, .int .i64 c] w fun e w' => e = .returned (.bool true) ∧ Below w.heap.size w w' :=
  (error_any c c w hg).mono fun e w' ⟨h1, h2⟩ => ⟨by rw [h1]; simp, h2⟩
end Go.Proofs.YtapaglapngbbpaaDoor.Lpm
