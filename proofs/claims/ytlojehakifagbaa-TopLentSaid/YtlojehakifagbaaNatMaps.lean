/- The two maps of package nat: ports by places, places by ports; the keys of the second as a list. No statement is proved here. -/
import Derived.Test.YtlojehakifagbaaPlace
import Derived.Test.YtlojehakifagbaaMapG
import Derived.DeepKeys4
import Derived.Lib.SlKeysI
namespace Go.Proofs.Ytlojehakifagbaa.Nat_
open Go.ChangeShapes Go.WideShapes Go.ChangeAt Go.RowKit Go.ChangeMaps Go.MapKept
open Go.Proofs.Ytlojehakifagbaa.Kit Go.Proofs.Ytlojehakifagbaa.App Go.Proofs.Ytlojehakifagbaa.Cells Go.Proofs.Ytlojehakifagbaa.MapG
set_option linter.unusedVariables false
set_option maxRecDepth 20000

theorem laidOutB_n : laidOutB Try.prog = true := by kernel_rfl
theorem rowPl : (40 : TypeId) < Try.prog.types.size := of_decide_eq_true (by kernel_rfl)
theorem widePl : (match Try.prog.underlying 40 with | some (.array _ _) | some (.struct _) => true | _ => false) = true := by rw [Try.underlying40]
theorem keyedPl : Maps.Keyed Try.prog 40 := Maps.Keyed.of_law (deep_law_laid laidOutB_n (m := 2) (by omega) rowPl (by kernel_rfl) widePl)
theorem keyTypePl : Try.prog.keyType 40 = true := by kernel_rfl
theorem cellsPl : Try.prog.cellsOf 40 = 2 := by kernel_rfl
theorem cellsI : Try.prog.cellsOf 3 = 1 := by kernel_rfl
theorem sizeT : ∃ d, Try.prog.types.size + 1 = d + 2 := ⟨Try.prog.types.size - 1, by have h : 0 < Try.prog.types.size := Nat.lt_of_le_of_lt (Nat.zero_le _) rowPl; omega⟩
theorem litI {d : Nat} {a : Int} (ha : (Lit.int .i64 a).wf = true) : Try.prog.keyLits (d + 1) 3 [.int .i64 a] = some [.int .i64 a] := by
  simp [Program.keyLits, Try.underlying3, ha]
def litPl (x : Plc) : Lit := .string (keyBytes [.int .i64 x.adr, .int .i64 x.prt])
theorem keyPl (x : Plc) (hx : Fits x) : keyOf Try.prog 40 (val x) = some (litPl x) := by
  have hf : (val x).formed Try.prog 40 = true := by simp [val, Value.formed, Try.underlying40, cellsPl]
  have hl : Try.prog.keyLits (Try.prog.types.size + 1) 40 (val x).cells.toList = some [.int .i64 x.adr, .int .i64 x.prt] := by
    obtain ⟨d, hd⟩ := sizeT
    rw [hd]
    unfold Program.keyLits
    simp only [Try.underlying40]
    have h1 := litI (d := d) hx.1
    have h2 := litI (d := d) hx.2
    simp [val, Value.cells, cellsPl, cellsI, h1, h2]
  unfold keyOf
  rw [Try.underlying40]
  simp only [keyTypePl, hf, Bool.and_self, if_true, hl]
  rfl
/-- A place as a value of a map. -/
def rdPl : Value → Option (DataW Unit × List MemPlace)
  | .agg cs => match cs.toList with
    | [.int .i64 a, .int .i64 b] => some (.agg [.lit (.int .i64 a), .lit (.int .i64 b)], [])
    | _ => none
  | _ => none
def vdPl (x : Plc) : DataW Unit := .agg [.lit (.int .i64 x.adr), .lit (.int .i64 x.prt)]
theorem rdPl_inv (v : Plc) (x : Value) (ps : List MemPlace) (h : rdPl x = some (vdPl v, ps)) : x = val v := by
  unfold rdPl at h
  split at h
  · rename_i cs
    split at h
    · rename_i a b e
      injection h with h
      injection h with h _
      have h' : DataW.agg [.lit (.int .i64 a), .lit (.int .i64 b)] = DataW.agg (H := Unit) [.lit (.int .i64 v.adr), .lit (.int .i64 v.prt)] := h
      simp at h'
      obtain ⟨rfl, rfl⟩ := h'
      have : cs = #[.int .i64 v.adr, .int .i64 v.prt] := Array.toList_inj.1 e
      rw [this]; rfl
    · cases h
  · cases h
/-- Ports by places. -/
noncomputable def kP : Kind Plc Int where
  tk := 40
  tv := 3
  tm := 51
  kv := val
  kl := litPl
  okK := Fits
  vv := .int .i64
  vd x := .lit (.int .i64 x)
  okV x := (Lit.int .i64 x).wf = true
  rd := plainElem Try.prog 3
  z := 0
theorem kP_ok : kP.Ok where
  keyed := keyedPl
  und := Try.underlying51
  key := keyPl
  isKey _ := trivial
  ne j k hj hk hne e := hne (by
    have h1 := keyPl j hj
    have h2 := keyPl k hk
    have e' : litPl j = litPl k := e
    rw [← e'] at h2
    have h3 := keyedPl.inj h1 h2
    cases j; cases k
    simp [val] at h3
    obtain ⟨rfl, rfl⟩ := h3
    rfl)
  zero w := by kernel_rfl
  okz := show (Lit.int .i64 0).wf = true by decide
  read v hv := plainElem_int Try.underlying3 hv
  inv v x ps hv hx := by
    obtain ⟨y, rfl, e, _⟩ := plainElem_int_inv Try.underlying3 hx
    have e := (Prod.mk.inj e).1
    injection e with e
    injection e with _ e
    rw [← e]; rfl
/-- Places by ports. -/
noncomputable def kQ : Kind Int Plc where
  tk := 3
  tv := 40
  tm := 52
  kv := .int .i64
  kl := .int .i64
  okK x := (Lit.int .i64 x).wf = true
  vv := val
  vd := vdPl
  okV _ := True
  rd := rdPl
  z := ⟨0, 0⟩
theorem kQ_ok : kQ.Ok where
  keyed := Maps.int_keyed Try.underlying3
  und := Try.underlying52
  key k hk := Maps.keyOf_int_mk Try.underlying3 hk
  isKey k := by first | trivial | simp [WideAt.IsKeyLit, kQ] | exact ⟨_, rfl⟩
  ne j k _ _ hne e := hne (by
    have e' : Lit.int .i64 j = Lit.int .i64 k := e
    injection e')
  zero w := by kernel_rfl
  okz := trivial
  read v _ := rfl
  inv v x ps _ hx := rdPl_inv v x ps hx
/-- The keys of such a map as a list. -/
theorem keys_of {w : World} {b n : Nat} {h : Int → Option Plc} {D : DataW Unit} (h1 : w.ownsMap Try.prog 3 rdPl b n D) (h2 : ∀ j : Int, (Lit.int .i64 j).wf = true → Maps.has D (.int .i64 j) = (h j).isSome) {ss : List Int} (hp : ss.Perm (intKeys D)) :
    ss.Nodup ∧ (∀ x ∈ ss, (Lit.int .i64 x).wf = true) ∧ ∀ x, (Lit.int .i64 x).wf = true → (x ∈ ss ↔ (h x).isSome = true) := by
  have K := kQ_ok.keyed
  obtain ⟨es, rfl, hpw, _⟩ := h1.entries K
  have hk : ∀ p ∈ es, ∃ x, p.1 = .int .i64 x ∧ (Lit.int .i64 x).wf = true := by
    obtain ⟨es0, clock, _, F, _, hD⟩ := h1
    injection hD with hD
    subst hD
    intro p hp
    obtain ⟨x, hx, rfl⟩ := List.mem_map.1 (mem_sorted.1 hp)
    obtain ⟨y, hy⟩ := F.reads x hx
    rw [WideElems.rg_of hy]
    obtain ⟨a, _, ha, hw⟩ := Maps.keyOf_i64 Try.underlying3 (WideElems.rd_key hy)
    exact ⟨a, ha, hw⟩
  refine ⟨(hp.nodup_iff).2 ?_, fun x hx => ?_, fun x hw => ?_⟩
  · show (es.map fun p => intOf p.1).Nodup
    refine List.pairwise_map.2 (hpw.imp_of_mem fun {p q} hp' hq' hne e => hne ?_)
    obtain ⟨a, ha, _⟩ := hk p hp'
    obtain ⟨c, hc, _⟩ := hk q hq'
    rw [ha, hc] at e ⊢
    exact congrArg _ e
  · have : x ∈ es.map fun p => intOf p.1 := hp.mem_iff.1 hx
    obtain ⟨p, hp', rfl⟩ := List.mem_map.1 this
    obtain ⟨a, ha, hw⟩ := hk p hp'
    rw [ha]; exact hw
  · rw [← h2 x hw, hp.mem_iff, Maps.has_eq, List.any_eq_true]
    show x ∈ es.map (fun p => intOf p.1) ↔ _
    rw [List.mem_map]
    constructor
    · rintro ⟨p, hp', rfl⟩
      obtain ⟨a, ha, _⟩ := hk p hp'
      exact ⟨p, hp', by rw [ha]; simp [Lit.sameKey, intOf]⟩
    · rintro ⟨p, hp', hs⟩
      obtain ⟨a, ha, _⟩ := hk p hp'
      rw [ha] at hs
      exact ⟨p, hp', by rw [ha]; simpa [Lit.sameKey, intOf] using hs⟩
end Go.Proofs.Ytlojehakifagbaa.Nat_
