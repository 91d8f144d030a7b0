/-
  No cell of these rows narrows 'for every input' (looked for: loops, veiled, ifaces, maps, wideKeys, modest, calm, conditions, laid).
  DERIVED. THE GIVEN ROWS OF THIS SEAT. 4 by the template 'for every input the law returns true; each argument reads behind the call as it read before'; 0 by the template 'total and deterministic' (their statements: YtbgbmchpikdgoaaTotals.lean).
  GIVEN WITH THE SEED: the statements are not yours to turn. If you find one false, say at which input.
  Laid BY PROGRAM, IN A SANDBOX (cutbox-rows.mjs): the forced cells as the released guide's own fill.sh prints them over the translation 355d42abda0ae459… (all of the seat's roots in one cut). By AI agents, Wed Nov 11 2026. No macro, syntax, notation, axiom, sorry.
-/
import Derived.Test.YtbgbmchpikdgoaaChecked
import GoSem.Claim
import GoSem.ClaimJoined
import GoSem.ClaimMapViews
import Derived.JoinedTies
import Derived.KernelRfl
namespace Go.Proofs.Ytbgbmchpikdgoaa
/- THE CELL 'sum', in the pinned program and in every row, IS THE sha256 OF THE DUMP (.gsa) THAT YtbgbmchpikdgoaaProg.lean LOADS. Nothing in Lean hashes anything: it is a label: what it is worth is what the hold of that sum in a sandbox is worth. -/
noncomputable def Try.pinned : Pinned := { name := "ytbgbmchpikdgoaa", sum := "355d42abda0ae4591aefe6c1d74e573a64cba23a0c0ad561ab90023f62f1d6fb", checked := Try.checked }
namespace Rows
def none {H : Type} : Left H := { results := [], args := [] }

/-- 'ferryhythelaw3.LearnAnswer': WHATEVER THE INPUT: true; the input reads as it did. -/
def learnAnswerSpec : ChangeSpec := { name := "learnAnswer", fn := fun _ => fun
  | [d1, d2, d3, d4, d5] => { results := [.lit (.bool true)], args := [d1, d2, d3, d4, d5] }
  | _ => none }
def learnAnswerRow : OpenClaim := { program := "ytbgbmchpikdgoaa", sum := "355d42abda0ae4591aefe6c1d74e573a64cba23a0c0ad561ab90023f62f1d6fb", func := "ferryhythe/ferryhythelaw3.LearnAnswer", spec := "learnAnswer", unfollowed := true, recurses := true, apart := false }
def LearnAnswerSaid : Prop := learnAnswerRow.holds Try.pinned (OpenSpec.ofChange learnAnswerSpec)

/-- ITS FALSE NEIGHBOUR: 'it returns false'. Refute it at one input. -/
def learnAnswerWrong : ChangeSpec := { name := "learnAnswer", fn := fun _ => fun
  | [d1, d2, d3, d4, d5] => { results := [.lit (.bool false)], args := [d1, d2, d3, d4, d5] }
  | _ => none }
def LearnAnswerWrongFalsely : Prop := learnAnswerRow.holds Try.pinned (OpenSpec.ofChange learnAnswerWrong)

/-- 'ferryhythelaw3.LearnFlood': WHATEVER THE INPUT: true; the input reads as it did. -/
def learnFloodSpec : ChangeSpec := { name := "learnFlood", fn := fun _ => fun
  | [d1, d2, d3, d4] => { results := [.lit (.bool true)], args := [d1, d2, d3, d4] }
  | _ => none }
def learnFloodRow : OpenClaim := { program := "ytbgbmchpikdgoaa", sum := "355d42abda0ae4591aefe6c1d74e573a64cba23a0c0ad561ab90023f62f1d6fb", func := "ferryhythe/ferryhythelaw3.LearnFlood", spec := "learnFlood", unfollowed := true, recurses := true, apart := false }
def LearnFloodSaid : Prop := learnFloodRow.holds Try.pinned (OpenSpec.ofChange learnFloodSpec)

/-- ITS FALSE NEIGHBOUR: 'it returns false'. Refute it at one input. -/
def learnFloodWrong : ChangeSpec := { name := "learnFlood", fn := fun _ => fun
  | [d1, d2, d3, d4] => { results := [.lit (.bool false)], args := [d1, d2, d3, d4] }
  | _ => none }
def LearnFloodWrongFalsely : Prop := learnFloodRow.holds Try.pinned (OpenSpec.ofChange learnFloodWrong)

/-- 'ferryhythelaw3.LearnDown': WHATEVER THE INPUT: true; the input reads as it did. -/
def learnDownSpec : ChangeSpec := { name := "learnDown", fn := fun _ => fun
  | [d1, d2, d3, d4] => { results := [.lit (.bool true)], args := [d1, d2, d3, d4] }
  | _ => none }
def learnDownRow : OpenClaim := { program := "ytbgbmchpikdgoaa", sum := "355d42abda0ae4591aefe6c1d74e573a64cba23a0c0ad561ab90023f62f1d6fb", func := "ferryhythe/ferryhythelaw3.LearnDown", spec := "learnDown", unfollowed := true, recurses := true, apart := false }
def LearnDownSaid : Prop := learnDownRow.holds Try.pinned (OpenSpec.ofChange learnDownSpec)

/-- ITS FALSE NEIGHBOUR: 'it returns false'. Refute it at one input. -/
def learnDownWrong : ChangeSpec := { name := "learnDown", fn := fun _ => fun
  | [d1, d2, d3, d4] => { results := [.lit (.bool false)], args := [d1, d2, d3, d4] }
  | _ => none }
def LearnDownWrongFalsely : Prop := learnDownRow.holds Try.pinned (OpenSpec.ofChange learnDownWrong)

/-- 'ferryhythetop.TopSwitch': WHATEVER THE INPUT: true; the input reads as it did. -/
def topSwitchSpec : ChangeSpec := { name := "topSwitch", fn := fun _ => fun
  | [d1, d2, d3, d4, d5] => { results := [.lit (.bool true)], args := [d1, d2, d3, d4, d5] }
  | _ => none }
def topSwitchRow : OpenClaim := { program := "ytbgbmchpikdgoaa", sum := "355d42abda0ae4591aefe6c1d74e573a64cba23a0c0ad561ab90023f62f1d6fb", func := "ferryhythe/ferryhythetop.TopSwitch", spec := "topSwitch", unfollowed := true, recurses := true, apart := false }
def TopSwitchSaid : Prop := topSwitchRow.holds Try.pinned (OpenSpec.ofChange topSwitchSpec)

/-- ITS FALSE NEIGHBOUR: 'it returns false'. Refute it at one input. -/
def topSwitchWrong : ChangeSpec := { name := "topSwitch", fn := fun _ => fun
  | [d1, d2, d3, d4, d5] => { results := [.lit (.bool false)], args := [d1, d2, d3, d4, d5] }
  | _ => none }
def TopSwitchWrongFalsely : Prop := topSwitchRow.holds Try.pinned (OpenSpec.ofChange topSwitchWrong)

/- THE SECOND FORM. 'bulk': how many values and letters a reading holds, each counted each time it is reached (what is shared counts as often as it is met; a slice's spare places count too). A statement '..UptoSaid' is the law's where the arguments, and the package variables that the reading takes, are together of bulk at most 1048576: NARROWER than '..Said'. Prove '..Said' where nothing that the law and all that it calls make is longer than what came in: it says more and counts as full. Else prove '..UptoSaid'. A law counts once. -/
mutual
def uptoBulk {H : Type} : DataW H → Nat
  | .lit (.string bytes) => bytes.length + 1
  | .lit _ => 1
  | .nil => 1
  | .ptr d => uptoBulk d + 1
  | .slice elems spare => uptoBulkAll elems + uptoBulkAll spare + 1
  | .agg parts => uptoBulkAll parts + 1
  | .iface _ d => uptoBulk d + 1
  | .map entries => uptoBulkEntries entries + 1
  | .held _ => 1
def uptoBulkAll {H : Type} : List (DataW H) → Nat
  | [] => 0
  | d :: r => uptoBulk d + uptoBulkAll r
def uptoBulkEntries {H : Type} : List (Lit × DataW H) → Nat
  | [] => 0
  | x :: r => uptoBulkEntry x + uptoBulkEntries r
def uptoBulkEntry {H : Type} : Lit × DataW H → Nat
  | (.string bytes, d) => bytes.length + uptoBulk d + 1
  | (_, d) => uptoBulk d + 1
 end
def uptoSmall : (H : Type) → List (DataW H) → Bool := fun _ ds => decide (uptoBulkAll ds ≤ 1048576)
def OpenSpec.upto (s : _root_.Go.ChangeSpec) : _root_.Go.OpenSpec := { _root_.Go.OpenSpec.ofChange s with cond := some uptoSmall }

/-- 'ferryhythelaw3.LearnAnswer', WHERE WHAT IT READS IS OF BULK AT MOST 1048576: true; the input reads as it did. -/
def learnAnswerUptoRow : OpenClaim := { program := "ytbgbmchpikdgoaa", sum := "355d42abda0ae4591aefe6c1d74e573a64cba23a0c0ad561ab90023f62f1d6fb", func := "ferryhythe/ferryhythelaw3.LearnAnswer", spec := "learnAnswer", unfollowed := true, recurses := true, apart := false, narrowed := true }
def LearnAnswerUptoSaid : Prop := learnAnswerUptoRow.holds Try.pinned (OpenSpec.upto learnAnswerSpec)

/-- 'ferryhythelaw3.LearnFlood', WHERE WHAT IT READS IS OF BULK AT MOST 1048576: true; the input reads as it did. -/
def learnFloodUptoRow : OpenClaim := { program := "ytbgbmchpikdgoaa", sum := "355d42abda0ae4591aefe6c1d74e573a64cba23a0c0ad561ab90023f62f1d6fb", func := "ferryhythe/ferryhythelaw3.LearnFlood", spec := "learnFlood", unfollowed := true, recurses := true, apart := false, narrowed := true }
def LearnFloodUptoSaid : Prop := learnFloodUptoRow.holds Try.pinned (OpenSpec.upto learnFloodSpec)

/-- 'ferryhythelaw3.LearnDown', WHERE WHAT IT READS IS OF BULK AT MOST 1048576: true; the input reads as it did. -/
def learnDownUptoRow : OpenClaim := { program := "ytbgbmchpikdgoaa", sum := "355d42abda0ae4591aefe6c1d74e573a64cba23a0c0ad561ab90023f62f1d6fb", func := "ferryhythe/ferryhythelaw3.LearnDown", spec := "learnDown", unfollowed := true, recurses := true, apart := false, narrowed := true }
def LearnDownUptoSaid : Prop := learnDownUptoRow.holds Try.pinned (OpenSpec.upto learnDownSpec)

/-- 'ferryhythetop.TopSwitch', WHERE WHAT IT READS IS OF BULK AT MOST 1048576: true; the input reads as it did. -/
def topSwitchUptoRow : OpenClaim := { program := "ytbgbmchpikdgoaa", sum := "355d42abda0ae4591aefe6c1d74e573a64cba23a0c0ad561ab90023f62f1d6fb", func := "ferryhythe/ferryhythetop.TopSwitch", spec := "topSwitch", unfollowed := true, recurses := true, apart := false, narrowed := true }
def TopSwitchUptoSaid : Prop := topSwitchUptoRow.holds Try.pinned (OpenSpec.upto topSwitchSpec)

end Rows
end Go.Proofs.Ytbgbmchpikdgoaa
