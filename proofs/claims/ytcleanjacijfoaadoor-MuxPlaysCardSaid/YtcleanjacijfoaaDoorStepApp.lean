/- append as a step of a drawn region; a struct of two cells as the one result of a function. General. No statement is proved here. -/
import Derived.Test.YtcleanjacijfoaaDoorSub
import Derived.Deep.AppendLies
namespace Go.Proofs.YtcleanjacijfoaaDoor.App
open Go.ChangeShapes Go.WideShapes Go.ChangeAt Go.RowKit Go.Proofs.YtcleanjacijfoaaDoor.Kit
set_option linter.unusedVariables false
set_option maxRecDepth 20000

theorem step_app_i {w : World} {ops : Array Oper} {o : Oper} {a : Act} {K : Act → World → Prop} {Q : Exit → Act → World → Prop} {E : Prop} (hgd : o.guard = none) (s x : Operand)
    (ho : o.op = .call { callee := .builtin .append, args := #[s, x], argTypes := #[37, 37] })
    (base : Nat) (v : Value) (xs : List Int) (p : Option Addr) (cap n : Nat) (l : List Int) (hs : a.eval s = v) (hown : OwnI w base v xs) (hx : a.eval x = .slice p n cap) (hn : n = l.length) (hl : Ints w p cap l)
    (hlen : xs.length + l.length ≤ 1000000000) (hbase : base ≤ w.heap.size)
    (h : ∀ v' w', OwnI w' base v' (xs ++ l) → w.grownBy w' v.ownBlock → (v'.ownBlock = v.ownBlock ∨ v'.ownBlock = some w.heap.size) → K (a.put o.dst v') w') :
    if Region.wanted o (yielded ops a.tmps) = true then Oper.wp Tryd.prog o a w K Q else E := by
  have hw : Region.wanted o (yielded ops a.tmps) = true := by simp [Region.wanted, hgd]
  rw [if_pos hw]
  obtain ⟨v', w', hrun, h2, h3, h4⟩ := run_app w o.type base v xs p cap l hown hl hlen hbase
  unfold Oper.wp execOp
  rw [hn] at hx
  simp only [ho, resolve, invoke, builtin, Sem.run_bind, Sem.run_pure, Result.andThen_ok, List.map_toArray, List.map_cons, List.map_nil, hs, hx, hrun]
  exact h v' w' h2 h3 h4
/-- A struct of two cells as the one result: it lies in a cell. -/
theorem results_two {fn : Func} {p : Tmp} {t : TypeId} (h : fn.results = #[.cell p t]) (ha : ∀ w, (isAgg t).run Tryd.prog w = .ok true w) (hs : ∀ w, (Go.sizeOf t).run Tryd.prog w = .ok 2 w) (tmps : Array Value) (w : World) (a : Addr)
    (hp : tmps.getD p undef = .pointer (some a)) (h0 : a.spot = none) (ho : a.off = 0) (u v : Value) (c0 : w.cell? ⟨a.block, 0, none⟩ = some u) (c1 : w.cell? ⟨a.block, 1, none⟩ = some v) :
    (results fn tmps).run Tryd.prog w = .ok (.agg #[u, v]) w := by
  obtain ⟨bl, off, sp⟩ := a
  subst h0 ho
  have e1 : (loadVar t ⟨bl, 0, none⟩).run Tryd.prog w = .ok (.agg #[u, v]) w := by
    unfold loadVar
    rw [Sem.run_bind, ha w]
    simp only [Result.andThen_ok, if_true]
    rw [Sem.run_bind, hs w]
    simp only [Result.andThen_ok]
    have e2 : (loadCells ⟨bl, 0, none⟩ 2).run Tryd.prog w = .ok #[u, v] w := by
      go_simp
      try simp [c0, c1]
    rw [Sem.run_bind, e2]
    rfl
  have hp' : tmps[p]?.getD undef = .pointer (some ⟨bl, 0, none⟩) := by simpa using hp
  simp [results, h, hp', asAddr, e1]
theorem ints_set {w : World} {p : Option Addr} {c : Nat} {l : List Int} (h : Ints w p c l) (g k : Nat) (v : Value) (hne : ∀ a, p = some a → a.block ≠ g) : Ints (w.setCell ⟨g, k, none⟩ v) p c l :=
  h.keep (by simp [World.setCell]) (fun a e _ => by
    simp only [World.setCell, Array.getElem?_modify]
    rw [if_neg (fun e2 => hne a e e2.symm)])
end Go.Proofs.YtcleanjacijfoaaDoor.App
