/- Package nat: Lent. No statement is proved here. -/
import Derived.Test.YtlojehakifagbaaNatSt
import Derived.Test.YtlojehakifagbaaSortI
import Derived.Test.YtlojehakifagbaaLayKeys
import Derived.Shelf.SlIterI.Nil
import Derived.Shelf.Sort.Plain
import Derived.Shelf.Slices.In.SortNone
namespace Go.Proofs.Ytlojehakifagbaa.Nat_
open Go.ChangeShapes Go.WideShapes Go.ChangeAt Go.RowKit Go.Maps Go.Sort Go.Shelf Go.Proofs.Ytlojehakifagbaa.Kit Go.Proofs.Ytlojehakifagbaa.App Go.Proofs.Ytlojehakifagbaa.Cells Go.Proofs.Ytlojehakifagbaa.Err Go.Proofs.Ytlojehakifagbaa.MapG
set_option linter.unusedVariables false
set_option maxRecDepth 100000
set_option maxHeartbeats 1000000

theorem sortsN (m : Nat) : AnyZI.SortsIn Try.prog Try.sortedL_ren Fence.wide m :=
  ⟨fun blk off cap ss W hH hblk hsz => callsIn_wide.2 (Any.slices_Sort_int Try.sortI blk off cap ss W hH hblk hsz),
   fun p cap W => callsIn_wide.2 (Any.slices_Sort_int_none Try.sortI p cap W)⟩
theorem lent_any (X : Nat → Prop) (b n low many : Nat) (h : Int → Option Plc) (w : World) (H : Tab X w b n low many h) (hn : n ≤ 100000) :
    Calls Try.prog 5 #[.pointer (some ⟨b, 0, none⟩)] w fun e w' => ∃ v, e = .returned v ∧ OwnI w' w.heap.size v (lentL low many h) ∧ Below w.heap.size w w' := by
  obtain ⟨bp, bq, g, S⟩ := H
  have c3 := S.blk.cell 3 _ rfl
  have hTb := S.tb
  obtain ⟨D0, hown, hD⟩ := S.mq
  clear S
  have hown : w.ownsMap Try.prog 3 rdPl bq n D0 := hown
  have hk := @keys_of w bq n h D0 hown (fun j hj => (hD j hj).1)
  have hsz := hown.size_le
  have hmax : Maps.size D0 ≤ maxLen := by unfold maxLen; omega
  have hbytes : Maps.size D0 * 8 ≤ 140737488355328 := by omega
  have hfin : ∀ ss : List Int, ss.Perm (intKeys D0) → ss.mergeSort (fun a b => decide (a ≤ b)) = lentL low many h ∧ ss.length = (lentL low many h).length ∧ ∀ x ∈ lentL low many h, (Lit.int .i64 x).wf = true := fun ss hs => by
    obtain ⟨k1, k2, k3⟩ := hk hs
    have e := sorted_lentL hTb k1 (fun q => by
      by_cases hw : (Lit.int .i64 q).wf = true
      · exact k3 q hw
      · refine ⟨fun hq => absurd (k2 q hq) hw, fun hq => ?_⟩
        obtain ⟨x, hx⟩ := Option.isSome_iff_exists.1 hq
        have := hTb.rng q x hx
        have := hTb.lo
        exact absurd (wf_in (by omega)) hw)
    refine ⟨e, by rw [← e, List.length_mergeSort], fun x hx => k2 x ?_⟩
    rw [← e] at hx
    exact List.mem_mergeSort.1 hx
  have HF := Lib.hid hfin
  clear hfin hk hTb hD
  refine (callsIn_wide (n := 6)).1 ?_
  have hbl := hown.lt
  have hseq : SeqGives Fence.wide 2 Try.prog 25 #[.pointer (some ⟨w.heap.size, 0, none⟩)] encZ (fun ss => ss.Perm (intKeys D0)) (Maps.size D0) (w.alloc (.cells #[.map (some bq)] 52)) :=
    AnyZI.keys_gives (ρ := Try.keysL_ren) { Try.keysL with } Fence.wide _ trivial rfl (by omega) w.heap.size bq n D0 _ (by simp) (by simp) (by
      obtain ⟨es, clock, hb, Ft, hs, hD⟩ := hown
      exact ⟨es, clock, (Below.heap_alloc _ _ bq hbl).trans hb, Ft, hs, hD⟩)
  have cK : ∀ mb W, CallsIn Fence.wide 5 Try.prog 15 #[.map mb] W fun e w' => e = .returned (.func (.func 25) #[] #[.pointer (some ⟨W.heap.size, 0, none⟩)]) ∧ w' = W.alloc (.cells #[.map mb] 52) := fun mb W => AnyZI.keys_in Try.keysL Fence.wide 5 trivial rfl mb W
  have cS := AnyZI.sorted_in Try.sortedL Fence.wide 5 trivial trivial trivial trivial rfl (by omega) (sortsN _) (enters_of Try.func24 (by kernel_rfl) rfl) 25 #[.pointer (some ⟨w.heap.size, 0, none⟩)] trivial (enters_of Try.func25 (by kernel_rfl) rfl) _ _ hmax hbytes _ hseq
  change CallsIn _ _ Try.prog 14 _ _ _ at cS
  have hfK : Fence.wide.fn 15 := trivial
  have hfS : Fence.wide.fn 14 := trivial
  refine callsIn_of_wp Try.func5 rfl trivial ?_ rfl
  simp only [Try.ntmps5, List.size_toArray, List.length_cons, List.length_nil, Nat.reduceAdd, Nat.reduceSub, Array.replicate_succ, Array.replicate_zero, List.push_toArray, List.append_toArray, List.nil_append, List.cons_append]
  gi_wp2_with (first
    | (gi_at_call 15; refine (cK _ _).mono ?_; rintro e w' ⟨rfl, rfl⟩)
    | (gi_at_call 14; refine cS.mono ?_; rintro e w' ⟨v, ss, rfl, hS, hrow, hnil, hb⟩))
  go_ret
  obtain ⟨e1, e2, e3⟩ := HF.out ss hS
  have hrow1 : w'.ownsRow w.heap.size 3 1 v (lentL low many h).length ((lentL low many h).map (Value.int .i64)) := by
    have h1 := ownsRow_base_a (base' := w.heap.size) hrow (by simp)
    rw [e1, e2] at h1
    exact h1
  exact ⟨v, rfl, ⟨hrow1, e3⟩, ((Below.refl _ w).alloc (Nat.le_refl _) _).trans (hb.mono (by simp))⟩
end Go.Proofs.Ytlojehakifagbaa.Nat_
