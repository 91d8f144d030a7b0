/- Contracts of the document's Set of routes, where it refuses. No statement is proved here. -/
import Derived.Test.YtapaglapngbbpaaDoorRat
import Derived.Test.YtapaglapngbbpaaDoorCidrRef1
namespace Go.Proofs.YtapaglapngbbpaaDoor.Route
open Go.ChangeShapes Go.WideShapes Go.ChangeAt Go.RowKit Go.Sort Go.Proofs.YtapaglapngbbpaaDoor.Kit Go.Proofs.YtapaglapngbbpaaDoor.App Go.Proofs.YtapaglapngbbpaaDoor.Cells Go.Proofs.YtapaglapngbbpaaDoor.Cidr Go.Proofs.YtapaglapngbbpaaDoor.CidrMath Go.Proofs.YtapaglapngbbpaaDoor.RouteMath
set_option linter.unusedVariables false
set_option maxRecDepth 20000

/-- A table's value and a number as results: the first lies in a cell. -/
theorem results_ct {fn : Func} {p q : Tmp} {t : TypeId} (h : fn.results = #[.cell p t, .tmp q]) (ha : ∀ w, (isAgg t).run Tryd.prog w = .ok true w) (hs : ∀ w, (Go.sizeOf t).run Tryd.prog w = .ok 1 w) (tmps : Array Value) (w : World) (a : Addr)
    (hp : tmps.getD p undef = .pointer (some a)) (v : Value) (hc : w.cell? a = some v) :
    (results fn tmps).run Tryd.prog w = .ok (.tuple #[.agg #[v], tmps.getD q undef]) w := by
  have e1 : (loadVar t a).run Tryd.prog w = .ok (.agg #[v]) w := by
    unfold loadVar
    rw [Sem.run_bind, ha w]
    simp only [Result.andThen_ok, if_true]
    rw [Sem.run_bind, hs w]
    simp only [Result.andThen_ok]
    have e2 : (loadCells a 1).run Tryd.prog w = .ok #[v] w := by
      go_simp
      try simp [hc]
    rw [Sem.run_bind, e2]
    rfl
  have hp' : tmps[p]?.getD undef = .pointer (some a) := by simpa using hp
  simp [results, h, hp', asAddr, e1, Result.andThen]
set_option maxHeartbeats 1000000 in
theorem rset_bad (q : Option Addr) (cap n : Nat) (r : Rt) (w : World) (c : Int) (hcc : c = code (key r)) (h0 : c ≠ 0) :
    Calls Tryd.prog 18 #[.agg #[.slice q n cap], .agg #[.int .i64 r.adr, .int .i64 r.len, .int .i64 r.hop]] w fun e w' => e = .returned (.tuple #[.agg #[.slice q n cap], .int .i64 c]) ∧ Below w.heap.size w w' := by
  obtain ⟨a, b, hop⟩ := r
  have PX := Lib.hid (fun W => rprefix_any ⟨a, b⟩ W c hcc)
  unfold val at PX
  unfold Cidr.val at PX
  simp only at PX ⊢
  have t9 : (c != 0) = true := by simpa using h0
  clear hcc h0
  go_enter Tryd.func18, Tryd.ntmps18
  go_wp2_with fail
  obtain ⟨T, hT⟩ : ∃ T, T = ((w.alloc (.cells #[.slice q n cap] 47)).alloc (.cells #[.int .i64 a, .int .i64 b, .int .i64 hop] 38)).alloc (.cells #[.slice none 0 0] 47) := ⟨_, rfl⟩
  have hBT : Below w.heap.size w T := by rw [hT]; exact balloc (balloc (balloc (brefl w) _) _) _
  have c0 : T.cell? ⟨w.heap.size, 0, none⟩ = some (.slice q n cap) := by
    rw [hT]
    exact ((balloc (balloc (brefl _) _) _).cell (p := ⟨w.heap.size, 0, none⟩) (by simp)).trans (new_slice w q n cap _)
  have h4 : T.heap.size = w.heap.size + 3 := by rw [hT]; simp
  have c4 : T.cell? ⟨w.heap.size + 1 + 1, 0, none⟩ = some (.slice none 0 0) ∧ T.frozen? ⟨w.heap.size + 1 + 1, 0, none⟩ = false := by
    rw [hT]
    constructor
    · go_simp
    · go_simp
  rw [← hT]
  clear hT
  refine (PX.out _).mono ?_; rintro e w1 ⟨rfl, hg1⟩
  have hB1 : Below w.heap.size w w1 := hBT.trans (hg1.below.mono (by omega))
  have d0 := (hg1.below.cell (p := ⟨w.heap.size, 0, none⟩) (by show w.heap.size < T.heap.size; omega)).trans c0
  have d4 := (hg1.below.cell (p := ⟨w.heap.size + 1 + 1, 0, none⟩) (by show w.heap.size + 1 + 1 < T.heap.size; omega)).trans c4.1
  have hs1 := hg1.below.size
  have hbk := hg1.below.block (w.heap.size + 1 + 1) (by omega)
  have f4 : w1.frozen? ⟨w.heap.size + 1 + 1, 0, none⟩ = false := by
    have e : w1.frozen? ⟨w.heap.size + 1 + 1, 0, none⟩ = T.frozen? ⟨w.heap.size + 1 + 1, 0, none⟩ := by unfold World.frozen?; rw [hbk]
    rw [e]; exact c4.2
  clear hBT c0 PX c4 hbk hg1
  go_wp2_with fail
  refine bodyPost_ret (results_ct rfl Tryd.isAgg47 Tryd.sizeOf47 _ _ _ rfl _ (World.cell?_setCell_same' _ _ _ (by rw [d4]; rfl))) rfl ?_
  refine ⟨rfl, hB1.trans ⟨rfl, rfl, rfl, by simp, fun k hk => ?_⟩⟩
  have hne : ¬ w.heap.size + 1 + 1 = k := by omega
  unfold World.setCell
  simp only
  rw [Array.getElem?_modify, if_neg hne]
end Go.Proofs.YtapaglapngbbpaaDoor.Route
