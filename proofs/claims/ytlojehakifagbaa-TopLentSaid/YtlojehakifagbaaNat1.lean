/- Package nat: isNumber, New, In. No statement is proved here. -/
import Derived.Test.YtlojehakifagbaaNatSt
import Derived.Test.YtlojehakifagbaaOnce
import Derived.Test.YtlojehakifagbaaCell2T
import Derived.Deep.RegionLaw
import Derived.OwnWalk
import Derived.Deep.RegionWith
namespace Go.Proofs.Ytlojehakifagbaa.Nat_
open Go.ChangeShapes Go.WideShapes Go.ChangeAt Go.RowKit Go.Proofs.Ytlojehakifagbaa.Kit Go.Proofs.Ytlojehakifagbaa.App Go.Proofs.Ytlojehakifagbaa.Cells Go.Proofs.Ytlojehakifagbaa.Err Go.Proofs.Ytlojehakifagbaa.MapG
set_option linter.unusedVariables false
set_option maxRecDepth 20000
set_option maxHeartbeats 1000000

theorem isNum_any (n : Int) (t : Bool) (ht : t = decide (num n)) (w : World) : Calls Try.prog 13 #[.int .i64 n] w fun e w' => e = .returned (.bool t) ∧ w' = w := by
  have ht : t = (decide (0 ≤ n) && decide (n ≤ 65535)) := by rw [ht]; unfold num; exact Bool.decide_and _ _
  by_cases h0 : 0 ≤ n
  · by_cases h1 : n ≤ 65535
    · have t1 : decide (0 ≤ n) = true := decide_eq_true h0
      have t2 : decide (n ≤ 65535) = true := decide_eq_true h1
      rw [t1, t2] at ht
      subst ht
      clear h0 h1
      go_enter Try.func13, Try.ntmps13
      go_wp2_with fail
      go_ret
      exact ⟨by first | rfl | simp [t1, t2], rfl⟩
    · have t1 : decide (0 ≤ n) = true := decide_eq_true h0
      have t2 : decide (n ≤ 65535) = false := decide_eq_false h1
      rw [t1, t2] at ht
      subst ht
      clear h0 h1
      go_enter Try.func13, Try.ntmps13
      go_wp2_with fail
      go_ret
      exact ⟨by first | rfl | simp [t1, t2], rfl⟩
  · have t1 : decide (0 ≤ n) = false := decide_eq_false h0
    rw [t1] at ht
    subst ht
    clear h0
    go_enter Try.func13, Try.ntmps13
    go_wp2_with fail
    go_ret
    exact ⟨by first | rfl | simp [t1], rfl⟩
theorem num_no {a : Int} (h : ¬ num a) : false = decide (num a) := (decide_eq_false h).symm
theorem num_yes {a : Int} (h : num a) : true = decide (num a) := (decide_eq_true h).symm
/-- A table may have these ports. -/
def okN (low many : Int) : Prop := num low ∧ 1 ≤ many ∧ many ≤ 30 ∧ low ≤ 65536 - many
instance (low many : Int) : Decidable (okN low many) := by unfold okN; infer_instance
theorem new_bad (low many : Int) (w : World) (h : ¬ okN low many) : Calls Try.prog 4 #[.int .i64 low, .int .i64 many] w fun e w' => e = .returned (.tuple #[.pointer none, er 1]) ∧ w' = w := by
  rw [er_1]
  by_cases h1 : num low
  · have C1 := Lib.hid (isNum_any low true (num_yes h1))
    by_cases h2 : many < 1
    · have t2 : decide (many < 1) = true := decide_eq_true h2
      clear h h1 h2
      go_enter Try.func4, Try.ntmps4
      go_wp2_with (go_at_call 13; refine (C1.out _).mono ?_; rintro e w1 ⟨rfl, rfl⟩)
      go_ret2
      exact ⟨rfl, rfl⟩
    · have t2 : decide (many < 1) = false := decide_eq_false h2
      by_cases h3 : 30 < many
      · have t3 : decide (30 < many) = true := decide_eq_true h3
        clear h h1 h2 h3
        go_enter Try.func4, Try.ntmps4
        go_wp2_with (go_at_call 13; refine (C1.out _).mono ?_; rintro e w1 ⟨rfl, rfl⟩)
        go_ret2
        exact ⟨rfl, rfl⟩
      · have t3 : decide (30 < many) = false := decide_eq_false h3
        have u1 : IntKind.i64.wrap (low + many) = low + many := wrap_in (by have := h1.1; have := h1.2; omega)
        have u2 : IntKind.i64.wrap (low + many - 1) = low + many - 1 := wrap_in (by have := h1.1; have := h1.2; omega)
        have C2 := Lib.hid (isNum_any (low + many - 1) false (num_no (fun hn => h ⟨h1, by omega, by omega, by have := hn.2; omega⟩)))
        clear h h1 h2 h3
        go_enter Try.func4, Try.ntmps4
        go_wp2_with (first
          | (go_at_call_of 13 (Value.int .i64 low); refine (C1.out _).mono ?_; rintro e w1 ⟨rfl, rfl⟩)
          | (go_at_call 13; refine (C2.out _).mono ?_; rintro e w1 ⟨rfl, rfl⟩))
        go_ret2
        exact ⟨rfl, rfl⟩
  · have C1 := Lib.hid (isNum_any low false (num_no h1))
    clear h h1
    go_enter Try.func4, Try.ntmps4
    go_wp2_with (go_at_call 13; refine (C1.out _).mono ?_; rintro e w1 ⟨rfl, rfl⟩)
    go_ret2
    exact ⟨rfl, rfl⟩
theorem new_good (low many : Nat) (w : World) (h1 : 1 ≤ many) (h2 : many ≤ 30) (h3 : low + many ≤ 65536) : Calls Try.prog 4 #[.int .i64 (low : Int), .int .i64 (many : Int)] w fun e w' => ∃ b, e = .returned (.tuple #[.pointer (some ⟨b, 0, none⟩), .nilIface]) ∧ Tab (fun k => k < w.heap.size) w' b 0 low many (fun _ => none) ∧ Below w.heap.size w w' := by
  have hmm := @run_makeMap Try.prog
  have t1 : decide ((many : Int) < 1) = false := decide_eq_false (by omega)
  have t2 : decide (30 < (many : Int)) = false := decide_eq_false (by omega)
  have t3 : decide (30 < many) = false := decide_eq_false (by omega)
  have t4 : decide (many < 1) = false := decide_eq_false (by omega)
  have u1 : IntKind.i64.wrap ((low : Int) + (many : Int)) = (low : Int) + (many : Int) := wrap_in (by omega)
  have u2 : IntKind.i64.wrap ((low : Int) + (many : Int) - 1) = (low : Int) + (many : Int) - 1 := wrap_in (by omega)
  have C1 := Lib.hid (isNum_any (low : Int) true (num_yes ⟨by omega, by omega⟩))
  have C2 := Lib.hid (isNum_any ((low : Int) + (many : Int) - 1) true (num_yes ⟨by omega, by omega⟩))
  go_enter Try.func4, Try.ntmps4
  go_wp2_with (first
    | (go_at_call_of 13 (Value.int .i64 (low : Int)); refine (C1.out _).mono ?_; rintro e w1 ⟨rfl, rfl⟩)
    | (go_at_call 13; refine (C2.out _).mono ?_; rintro e w1 ⟨rfl, rfl⟩))
  go_ret2
  have hp := Mg.made kP w1
  have hB1 := balloc (brefl w1) (.map #[] 0)
  have hp1 := hp.kept (World.grownBy_alloc (w1.alloc (.map #[] 0)) (.map #[] 0) none) (by simp)
  have hq := Mg.made kQ (w1.alloc (.map #[] 0))
  have hB2 := balloc hB1 (.map #[] 0)
  generalize hw2 : (w1.alloc (.map #[] 0)).alloc (.map #[] 0) = w2 at hp1 hq hB2 ⊢
  have hs : w2.heap.size = w1.heap.size + 2 := by rw [← hw2]; simp
  have hs1 : (w1.alloc (.map #[] 0)).heap.size = w1.heap.size + 1 := by simp
  rw [hs1] at hq
  refine ⟨w2.heap.size, by first | rfl | simp [hs], ⟨w1.heap.size, w1.heap.size + 1, fun _ => none, ?_⟩, balloc hB2 _⟩
  have key : ∀ Z : Array Value, Z = [Value.int .i64 (low : Int), .int .i64 (many : Int), .map (some w1.heap.size), .map (some (w1.heap.size + 1))].toArray → St (fun k => k < w1.heap.size) (w2.alloc (.cells Z 54)) w2.heap.size w1.heap.size (w1.heap.size + 1) 0 low many (fun _ => none) (fun _ => none) := fun Z hZ => by
    subst hZ
    refine ⟨Blk.new w2 _ _, hp1.kept (World.grownBy_alloc w2 _ none) (by simp), hq.kept (World.grownBy_alloc w2 _ none) (by simp), fun x q => ⟨fun e => (by cases e), fun e => (by cases e)⟩, Tb.empty h1 h2 h3, by omega, by omega, by omega, by omega, by omega, by omega, fun k hk => by simp; omega⟩
  exact key _ (by first | rfl | simp)

def atOf (h : Int → Option Plc) (q : Int) : Plc := (h q).getD ⟨0, 0⟩
def noneC (h : Int → Option Plc) (q : Int) : Int := if (h q).isSome then 0 else 5
theorem in_any (X : Nat → Prop) (b n low many : Nat) (h : Int → Option Plc) (q : Int) (w : World) (H : Tab X w b n low many h) (hq : (Lit.int .i64 q).wf = true) :
    Calls Try.prog 10 #[.pointer (some ⟨b, 0, none⟩), .int .i64 q] w fun e w' => e = .returned (.tuple #[.agg #[.int .i64 (atOf h q).adr, .int .i64 (atOf h q).prt], er (noneC h q)]) ∧ Below w.heap.size w w' := by
  obtain ⟨bp, bq, g, S⟩ := H
  have hB := balloc (brefl w) (.cells #[.int .i64 0, .int .i64 0] 40)
  have hS := S.below hB
  have c3 := hS.blk.cell 3 _ rfl
  have hlk0 := hS.mq.look_ok kQ_ok hq
  have HB := Lib.hid hB
  unfold atOf noneC
  cases hh : h q with
  | none =>
    rw [hh] at hlk0
    have hlk : (Instr.lookup 52 (.map (some bq)) (.int .i64 q) true).run Try.prog (w.alloc (.cells #[.int .i64 0, .int .i64 0] 40)) = .ok (.tuple #[.agg #[.int .i64 0, .int .i64 0], .bool false]) (w.alloc (.cells #[.int .i64 0, .int .i64 0] 40)) := hlk0
    clear hlk0 hS S hB hh
    simp only [Option.getD_none, Option.isSome_none, Bool.false_eq_true, if_false, er_5]
    go_enter Try.func10, Try.ntmps10
    go_wp2_with fail
    exact bodyPost_ret (results_twot rfl Try.isAgg40 Try.sizeOf40 _ _ w.heap.size rfl _ _ ((Box.new w ⟨0, 0⟩ _).alloc _).2.1 ((Box.new w ⟨0, 0⟩ _).alloc _).2.2) rfl ⟨rfl, balloc HB.out _⟩
  | some x =>
    obtain ⟨a, p⟩ := x
    rw [hh] at hlk0
    have hlk : (Instr.lookup 52 (.map (some bq)) (.int .i64 q) true).run Try.prog (w.alloc (.cells #[.int .i64 0, .int .i64 0] 40)) = .ok (.tuple #[.agg #[.int .i64 a, .int .i64 p], .bool true]) (w.alloc (.cells #[.int .i64 0, .int .i64 0] 40)) := hlk0
    clear hlk0 hS S hB hh
    simp only [Option.getD_some, Option.isSome_some, if_true, er_0]
    go_enter Try.func10, Try.ntmps10
    go_wp2_with fail
    exact bodyPost_ret (results_twot rfl Try.isAgg40 Try.sizeOf40 _ _ w.heap.size rfl _ _ ((Box.new w ⟨a, p⟩ _).alloc _).2.1 ((Box.new w ⟨a, p⟩ _).alloc _).2.2) rfl ⟨rfl, balloc (balloc (brefl w) _) _⟩
theorem upd_none {h : Int → Option Plc} {q : Int} (e : h q = none) : upd h q none = h := by
  funext j
  by_cases hj : j = q
  · subst hj; rw [upd_same, e]
  · rw [upd_other _ _ hj]
theorem St.keepB {X : Nat → Prop} {w w' : World} {b bp bq n low many : Nat} {g : Plc → Option Int} {h : Int → Option Plc} (S : St X w b bp bq n low many g h) (hB : Below w.heap.size w w') : Keep X w w' := Keep.of_below hB S.xl
end Go.Proofs.Ytlojehakifagbaa.Nat_
