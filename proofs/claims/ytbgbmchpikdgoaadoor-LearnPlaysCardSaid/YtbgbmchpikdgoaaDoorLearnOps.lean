/- Package learn: one contract for each of Frame and Down. No statement is proved here. -/
import Derived.Test.YtbgbmchpikdgoaaDoorLearn2
namespace Go.Proofs.YtbgbmchpikdgoaaDoor.Learn
open Go.ChangeShapes Go.WideShapes Go.ChangeAt Go.RowKit Go.Proofs.YtbgbmchpikdgoaaDoor.Kit Go.Proofs.YtbgbmchpikdgoaaDoor.App Go.Proofs.YtbgbmchpikdgoaaDoor.Cells Go.Proofs.YtbgbmchpikdgoaaDoor.Err
set_option linter.unusedVariables false
set_option maxRecDepth 20000

/-- A frame that is processed. -/
def Fine (f t p : Int) : Prop := isA f ∧ isA t ∧ isP p
instance (f t p : Int) : Decidable (Fine f t p) := by unfold Fine; exact inferInstance
def code (f t p : Int) : Int := if Fine f t p then 0 else 1
def tabF (l : List E) (f t p : Int) : List E := if Fine f t p then hear l f p else l
def outF (l : List E) (f t p : Int) : List Int := if Fine f t p then out (hear l f p) t p else []
def codeP (p : Int) : Int := if isP p then 0 else 1
def tabD (l : List E) (p : Int) : List E := if isP p then down l p else l
def outD (l : List E) (p : Int) : Int := if isP p then (l.length : Int) - ((down l p).length : Int) else 0
theorem frame_any (X : Nat → Prop) (s : Nat) (l : List E) (f t p : Int) (w : World) (H : Sw X w s l) :
    Calls Tryd.prog 10 #[.pointer (some ⟨s, 0, none⟩), .int .i64 f, .int .i64 t, .int .i64 p] w fun e w' => ∃ v, e = .returned (.tuple #[v, er (code f t p)]) ∧ OwnI w' w.heap.size v (outF l f t p) ∧ Sw (fun k => X k ∨ v.ownBlock = some k) w' s (tabF l f t p) ∧ Keep X w w' := by
  unfold code tabF outF
  by_cases h : Fine f t p
  · rw [if_pos h, if_pos h, if_pos h]
    exact frame_good X s l f t p w H h.1 h.2.1 h.2.2
  · rw [if_neg h, if_neg h, if_neg h]
    refine (frame_bad s f t p w h).mono ?_
    rintro e w' ⟨rfl, rfl⟩
    exact ⟨_, rfl, OwnI.nil _ _, H.res (v := .slice none 0 0) (L := []) (brefl w') (OwnI.nil _ _), Keep.refl _ _⟩
theorem down_any (X : Nat → Prop) (s : Nat) (l : List E) (p : Int) (w : World) (H : Sw X w s l) :
    Calls Tryd.prog 8 #[.pointer (some ⟨s, 0, none⟩), .int .i64 p] w fun e w' => e = .returned (.tuple #[.int .i64 (outD l p), er (codeP p)]) ∧ Sw X w' s (tabD l p) ∧ Keep X w w' := by
  unfold codeP tabD outD
  by_cases h : isP p
  · rw [if_pos h, if_pos h, if_pos h]
    exact down_good X s l p w H h
  · rw [if_neg h, if_neg h, if_neg h]
    refine (down_bad s p w h).mono ?_
    rintro e w' ⟨rfl, hb⟩
    exact ⟨rfl, H.below hb, Keep.of_below hb H.xl⟩
end Go.Proofs.YtbgbmchpikdgoaaDoor.Learn
