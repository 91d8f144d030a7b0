/- Bytes in memory, and the text made of them. No statement is proved here. -/
import Derived.Test.YtcleanjacijfoaaSub
import Derived.Test.YtcleanjacijfoaaCells
import Derived.ChangeMaps5
import Derived.BigQuiet
import Derived.RegionTactic
import Derived.Laws.OwnMore
import Derived.Laws.IdiomStrings
import Derived.Laws.BytesArg
namespace Go.Proofs.Ytcleanjacijfoaa.Part
open Go.ChangeShapes Go.WideShapes Go.ChangeAt Go.RowKit Go.Proofs.Ytcleanjacijfoaa.Kit Go.Proofs.Ytcleanjacijfoaa.App Go.Proofs.Ytcleanjacijfoaa.Cells
set_option linter.unusedVariables false
set_option maxRecDepth 20000

/-- Bytes in memory. -/
def layB : Lay UInt8 := ⟨fun x => [.int .u8 (x.toNat : Int)], 1, by decide, fun _ => rfl, fun x v hv => by
  simp only [List.mem_singleton] at hv
  subst hv; rfl⟩
theorem tyB : Ty layB 67 5 1 := ⟨Try.underlying67, by
  have h : (Try.prog.info? 5).map (fun i => (i.zero, i.size, i.bytes)) = some (some (.int .u8 0), 1, 1) := by kernel_rfl
  obtain ⟨i, hi, hz⟩ := Option.map_eq_some_iff.1 h
  simp only [Prod.mk.injEq] at hz
  exact ⟨i, _, hi, hz.1, hz.2.1, hz.2.2, rfl⟩, by decide⟩
theorem to_text {w : World} {p : Option Addr} {cap : Nat} {l : List UInt8} (h : CI layB w p cap l) : (convert 67 9 (.slice p l.length cap)).run Try.prog w = .ok (.string ⟨l.toArray⟩) w := by
  cases p with
  | none =>
    have : l = [] := by
      by_cases h0 : 0 < l.length
      · obtain ⟨b, off, ea, _⟩ := h.2.2 h0; cases ea
      · exact List.eq_nil_of_length_eq_zero (by omega)
    subst this
    exact run_convert_bytes_nil w 67 5 Try.underlying67 Try.underlying5 _ _ _ Try.underlying9
  | some a =>
    refine run_convert_bytes_back w 67 9 5 a cap l Try.underlying67 Try.underlying5 Try.underlying9 (fun j hj => ?_)
    obtain ⟨b, off, ea, _, hc⟩ := h.2.2 (by omega)
    injection ea with ea
    subst ea
    have := hc j l[j] (List.getElem?_eq_getElem hj) 0 _ rfl
    rw [add_plain]
    have e : off + (j * layB.k + 0) = off + j := by show off + (j * 1 + 0) = off + j; omega
    rw [e] at this
    exact this
end Go.Proofs.Ytcleanjacijfoaa.Part
