/- The program and the document cut alike, cut again alike, and join alike. No statement is proved here. -/
import Derived.Test.YtaflpdagehocfaaDoorRjoin
import Derived.Test.YtaflpdagehocfaaDoorParts
import Derived.Test.YtaflpdagehocfaaDoorAs
import Derived.Test.YtaflpdagehocfaaDoorFOrder
import Derived.Test.YtaflpdagehocfaaDoorFJoin5
namespace Go.Proofs.YtaflpdagehocfaaDoor.fragSaysP
open Go.ChangeShapes Go.WideShapes Go.ChangeAt Go.RowKit
open Go.Proofs.YtaflpdagehocfaaDoor.Kit Go.Proofs.YtaflpdagehocfaaDoor.App Go.Proofs.YtaflpdagehocfaaDoor.Cells Go.Proofs.YtaflpdagehocfaaDoor.Part Go.Proofs.YtaflpdagehocfaaDoor.As
set_option linter.unusedVariables false
set_option maxRecDepth 20000

theorem err_hit (m : Int) (W : World) (hg : Handle W) : Calls Tryd.prog 7 #[.iface 44 (.int .i64 m), .int .i64 m] W fun e w' => e = .returned (.bool true) ∧ Below W.heap.size W w' :=
  (error_hit m m W hg).mono fun e w' ⟨he, hb⟩ => ⟨by rw [he, beq_self_eq_true], hb⟩
theorem err_nil (W : World) : Calls Tryd.prog 7 #[.nilIface, .int .i64 0] W fun e w' => e = .returned (.bool true) ∧ Below W.heap.size W w' :=
  (error_nil 0 W).mono fun e w' ⟨he, hw⟩ => ⟨by rw [he]; rfl, hw ▸ brefl W⟩
theorem fail_both {ref pro : FuncId} {args : Array Value} (m : Int) (h1 : ∀ W, Calls Tryd.prog ref args W fun e w' => e = .returned (.tuple #[.slice none 0 0, .int .i64 m]) ∧ Below W.heap.size W w') (h2 : ∀ W, Calls Tryd.prog pro args W fun e w' => e = .returned (.tuple #[.slice none 0 0, .iface 44 (.int .i64 m)]) ∧ Below W.heap.size W w') :
    ∃ (V : Value) (c : Int) (L : List Prt), (∀ W, Calls Tryd.prog ref args W fun e w' => ∃ p cap, e = .returned (.tuple #[.slice p L.length cap, .int .i64 c]) ∧ CI lay w' p cap L ∧ Below W.heap.size W w') ∧ (∀ W, Calls Tryd.prog pro args W fun e w' => ∃ p cap, e = .returned (.tuple #[.slice p L.length cap, V]) ∧ CI lay w' p cap L ∧ Below W.heap.size W w') ∧ (∀ W, Handle W → Calls Tryd.prog 7 #[V, .int .i64 c] W fun e w' => e = .returned (.bool true) ∧ Below W.heap.size W w') :=
  ⟨_, m, [], fun W => (h1 W).mono fun e w' ⟨he, hb⟩ => ⟨none, 0, he, CI.nil _ _, hb⟩, fun W => (h2 W).mono fun e w' ⟨he, hb⟩ => ⟨none, 0, he, CI.nil _ _, hb⟩, fun W hg => err_hit m W hg⟩
theorem fine_both {ref pro : FuncId} {args : Array Value} (L : List Prt) (h1 : ∀ W, Calls Tryd.prog ref args W fun e w' => ∃ v, e = .returned (.tuple #[v, .int .i64 0]) ∧ OC lay 23 w' W.heap.size v L ∧ Below W.heap.size W w') (h2 : ∀ W, Calls Tryd.prog pro args W fun e w' => ∃ v, e = .returned (.tuple #[v, .nilIface]) ∧ OC lay 23 w' W.heap.size v L ∧ Below W.heap.size W w') :
    ∃ (V : Value) (c : Int) (L : List Prt), (∀ W, Calls Tryd.prog ref args W fun e w' => ∃ p cap, e = .returned (.tuple #[.slice p L.length cap, .int .i64 c]) ∧ CI lay w' p cap L ∧ Below W.heap.size W w') ∧ (∀ W, Calls Tryd.prog pro args W fun e w' => ∃ p cap, e = .returned (.tuple #[.slice p L.length cap, V]) ∧ CI lay w' p cap L ∧ Below W.heap.size W w') ∧ (∀ W, Handle W → Calls Tryd.prog 7 #[V, .int .i64 c] W fun e w' => e = .returned (.bool true) ∧ Below W.heap.size W w') :=
  ⟨_, 0, L, fun W => (h1 W).mono fun e w' ⟨v, he, ho, hb⟩ => by
    obtain ⟨p, c, rfl, hc⟩ := ho.form
    exact ⟨p, c, he, hc, hb⟩, fun W => (h2 W).mono fun e w' ⟨v, he, ho, hb⟩ => by
    obtain ⟨p, c, rfl, hc⟩ := ho.form
    exact ⟨p, c, he, hc, hb⟩, fun W hg => err_nil W⟩
theorem same_below {f : FuncId} {args : Array Value} {W : World} {v : Value} (h : Calls Tryd.prog f args W fun e w' => e = .returned v ∧ w' = W) : Calls Tryd.prog f args W fun e w' => e = .returned v ∧ Below W.heap.size W w' :=
  h.mono fun e w' ⟨he, hw⟩ => ⟨he, by rw [hw]; exact brefl W⟩
theorem both_cut (s : ByteArray) (a : Int) : ∃ (V : Value) (c : Int) (L : List Prt), (∀ W, Calls Tryd.prog 5 #[.string s, .int .i64 a] W fun e w' => ∃ p cap, e = .returned (.tuple #[.slice p L.length cap, .int .i64 c]) ∧ CI lay w' p cap L ∧ Below W.heap.size W w') ∧ (∀ W, Calls Tryd.prog 6 #[.string s, .int .i64 a] W fun e w' => ∃ p cap, e = .returned (.tuple #[.slice p L.length cap, V]) ∧ CI lay w' p cap L ∧ Below W.heap.size W w') ∧ (∀ W, Handle W → Calls Tryd.prog 7 #[V, .int .i64 c] W fun e w' => e = .returned (.bool true) ∧ Below W.heap.size W w') := by
  by_cases h1 : 200 < s.size
  · exact fail_both 4 (fun W => same_below (rcut_big s a W h1)) (fun W => same_below (fcut_big s a W h1))
  · by_cases h2 : a < 1 ∨ 200 < a
    · exact fail_both 1 (fun W => same_below (rcut_range s a W (by omega) h2)) (fun W => same_below (fcut_range s a W (by omega) h2))
    · obtain ⟨k, rfl⟩ : ∃ k : Nat, a = (k : Int) := ⟨a.toNat, by omega⟩
      by_cases h3 : 40 ≤ more s k
      · exact fail_both 4 (fun W => rcut_many s k W (by omega) (by omega) (by omega) h3) (fun W => same_below (fcut_many s k W (by omega) (by omega) (by omega) h3))
      · exact fine_both (parts s k) (fun W => rcut_some s k W (by omega) (by omega) (by omega) (by omega)) (fun W => fcut_some s k W (by omega) (by omega) (by omega) (by omega))
theorem rcut_bad (s : ByteArray) (a : Int) (h : cutBad s a ≠ 0) : ∀ W, Calls Tryd.prog 5 #[.string s, .int .i64 a] W fun e w' => e = .returned (.tuple #[.slice none 0 0, .int .i64 (cutBad s a)]) ∧ Below W.heap.size W w' := by
  intro W
  unfold cutBad at h ⊢
  by_cases h1 : 200 < s.size
  · rw [if_pos h1]; exact same_below (rcut_big s a W h1)
  · rw [if_neg h1] at h ⊢
    by_cases h2 : a < 1 ∨ 200 < a
    · rw [if_pos h2]; exact same_below (rcut_range s a W (by omega) h2)
    · rw [if_neg h2] at h ⊢
      by_cases h3 : 40 < more s a.toNat + 1
      · rw [if_pos h3]
        obtain ⟨k, rfl⟩ : ∃ k : Nat, a = (k : Int) := ⟨a.toNat, by omega⟩
        exact rcut_many s k W (by omega) (by omega) (by omega) (by rw [Int.toNat_natCast] at h3; omega)
      · rw [if_neg h3] at h; exact absurd rfl h
theorem both_again (x : Prt) (a : Int) (hF : Fits x) : ∃ (V : Value) (c : Int) (L : List Prt), (∀ W, Calls Tryd.prog 9 #[val x, .int .i64 a] W fun e w' => ∃ p cap, e = .returned (.tuple #[.slice p L.length cap, .int .i64 c]) ∧ CI lay w' p cap L ∧ Below W.heap.size W w') ∧ (∀ W, Calls Tryd.prog 10 #[val x, .int .i64 a] W fun e w' => ∃ p cap, e = .returned (.tuple #[.slice p L.length cap, V]) ∧ CI lay w' p cap L ∧ Below W.heap.size W w') ∧ (∀ W, Handle W → Calls Tryd.prog 7 #[V, .int .i64 c] W fun e w' => e = .returned (.bool true) ∧ Below W.heap.size W w') := by
  cases hr : right x with
  | false => exact fail_both 1 (fun W => ragain_wrong x a W hF hr) (fun W => fagain_wrong x a W hF hr)
  | true =>
    by_cases h0 : cutBad x.dat a = 0
    · obtain ⟨hs, k, rfl, h1, h2, h3⟩ := cutBad_zero h0
      exact fine_both ((parts x.dat k).map (moved x)) (fun W => ragain_some x k W hF hr h1 h2 h3) (fun W => fagain_some x k W hF hr h1 h2 h3)
    · exact fail_both (cutBad x.dat a) (fun W => ragain_bad x a _ W hF hr (rcut_bad x.dat a h0)) (fun W => fagain_bad x a _ W hF hr rfl h0)
theorem both_join (p : Option Addr) (cap : Nat) (l : List Prt) (hF : ∀ x ∈ l, Fits x) : ∃ (V : Value) (c : Int) (rs : ByteArray), (∀ W, CI lay W p cap l → Calls Tryd.prog 11 #[.slice p l.length cap] W fun e w' => e = .returned (.tuple #[.string rs, .int .i64 c]) ∧ Below W.heap.size W w') ∧ (∀ W, CI lay W p cap l → Calls Tryd.prog 12 #[.slice p l.length cap] W fun e w' => e = .returned (.tuple #[.string rs, V]) ∧ Below W.heap.size W w') ∧ (∀ W, Handle W → Calls Tryd.prog 7 #[V, .int .i64 c] W fun e w' => e = .returned (.bool true) ∧ Below W.heap.size W w') := by
  cases hj : joinM l with
  | ok t => exact ⟨.nilIface, 0, ⟨t.toArray⟩, fun W h => rjoin_any p cap _ l W rfl h hF _ 0 (by rw [hj]; exact ⟨rfl, rfl⟩), fun W h => fjoin_any p cap _ l W rfl h hF _ _ (by rw [hj]; exact ⟨rfl, rfl⟩), fun W _ => err_nil W⟩
  | error m => exact ⟨.iface 44 (.int .i64 m), m, .empty, fun W h => rjoin_any p cap _ l W rfl h hF _ m (by rw [hj]; exact ⟨rfl, rfl⟩), fun W h => fjoin_any p cap _ l W rfl h hF _ _ (by rw [hj]; exact ⟨rfl, rfl⟩), fun W hg => err_hit m W hg⟩
end Go.Proofs.YtaflpdagehocfaaDoor.fragSaysP
