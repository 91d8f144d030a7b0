/- Package lpm: Find. No statement is proved here. -/
import Derived.Test.YtlojehakifagbaaLpmArr
namespace Go.Proofs.Ytlojehakifagbaa.Lpm
open Go.ChangeShapes Go.WideShapes Go.ChangeAt Go.RowKit Go.Sort Go.Proofs.Ytlojehakifagbaa.Kit Go.Proofs.Ytlojehakifagbaa.App Go.Proofs.Ytlojehakifagbaa.Cells Go.Proofs.Ytlojehakifagbaa.Cidr Go.Proofs.Ytlojehakifagbaa.CidrMath Go.Proofs.Ytlojehakifagbaa.RouteMath Go.Proofs.Ytlojehakifagbaa.Route
set_option linter.unusedVariables false
set_option maxRecDepth 20000

theorem find_out (g : Nat) (a : Int) (w : World) (ha : ¬ (0 ≤ a ∧ a ≤ 65535)) :
    Calls Try.prog 12 #[.pointer (some ⟨g, 0, none⟩), .int .i64 a] w fun e w' => e = .returned (.tuple #[.int .i64 0, .int .i64 0, er 1]) ∧ Below w.heap.size w w' := by
  have CK := Lib.hid (fun W => check_any ⟨a, 16⟩ W 1 (by unfold code; rw [if_neg (by simp only; omega)]))
  unfold Cidr.val at CK
  simp only [er_1] at CK ⊢
  clear ha
  go_enter Try.func12, Try.ntmps12
  go_wp2_with fail
  refine (CK.out _).mono ?_; rintro e w1 ⟨rfl, hg1⟩
  have hB1 : Below w.heap.size w w1 := lgr (balloc (brefl w) _) (by simp) hg1
  clear hg1
  go_wp2_with fail
  go_ret3
  exact ⟨rfl, hB1⟩
theorem code16 (a : Int) (ha : 0 ≤ a ∧ a ≤ 65535) : code ⟨a, 16⟩ = 0 := by
  unfold code
  rw [if_pos (by simp only; omega)]
  have : siz ⟨a, 16⟩ = 1 := rfl
  rw [this, if_pos (by simp only; omega)]
/-- What Find tells. -/
def foundH (o : Option Rt) : Int := match o with | none => 0 | some x => x.hop
def foundL (o : Option Rt) : Int := match o with | none => 0 | some x => x.len
def foundE (o : Option Rt) : Int := match o with | none => 5 | some x => 0
set_option maxHeartbeats 1000000 in
theorem find_any (g : Nat) (a : Nat) (l : List Rt) (w : World) (hT : Tab w g l) (hs : Sorted l) (hg : ∀ x ∈ l, CidrMath.Good (key x)) (ha : a ≤ 65535) (o : Option Rt) (ho : o = findR l a) :
    Calls Try.prog 12 #[.pointer (some ⟨g, 0, none⟩), .int .i64 (a : Int)] w fun e w' => e = .returned (.tuple #[.int .i64 (foundH o), .int .i64 (foundL o), er (foundE o)]) ∧ Below w.heap.size w w' := by
  have CK := Lib.hid (fun W => check_any ⟨a, 16⟩ W 0 (code16 a ⟨by omega, by omega⟩).symm)
  unfold Cidr.val at CK
  simp only [er_0] at CK
  obtain ⟨n, hn⟩ : ∃ n, n = l.length := ⟨_, rfl⟩
  have LS := Lib.hid (fun W (hT : Tab W g l) b (hc : W.cell? ⟨b, 0, none⟩ = some (.int .i64 (a : Int))) => last_find g n l W hn hT (.pointer (some ⟨b, 0, none⟩)) (fHas a) (fun x hx W' hB' => findC_any (key x) a b W' ((hB'.cell (p := ⟨b, 0, none⟩) (cell_in hc)).trans hc) (hg x hx) ⟨by omega, by omega⟩ _ rfl))
  have LT := Lib.hid (fun z hz => last_top hs hg (a := a) (f := fHas a) (fun x hx => fHas_iff a (key x)) (n := z) hz)
  have HO := Lib.hid ho
  have h32 : n ≤ 32 := by rw [hn]; exact hT.len
  have HN := Lib.hid hn
  have HTt := Lib.hid (fun W (hb : Below w.heap.size w W) => hT.below hb hT.lt)
  clear hT hs hg ho hn
  go_enter Try.func12, Try.ntmps12
  go_wp2_with fail
  refine (CK.out _).mono ?_; rintro e w1 ⟨rfl, hg1⟩
  have hB1 : Below w.heap.size w w1 := lgr (balloc (brefl w) _) (by simp) hg1
  have c1 : w1.cell? ⟨w.heap.size, 0, none⟩ = some (.int .i64 (a : Int)) := (hg1.below.cell (p := ⟨w.heap.size, 0, none⟩) (by simp)).trans (by go_simp)
  have L1 := Lib.hid (LS.out w1 (HTt.out w1 hB1) _ c1)
  clear hg1 c1
  go_wp2_with fail
  refine L1.out.mono ?_; rintro e w2 ⟨z, rfl, hz, hz1, hz2, hb2⟩
  have hB2 := bcall hB1 hb2
  rcases LT.out z hz with ⟨hf, rfl⟩ | ⟨k, x, hf, rfl, hx⟩
  · have ho : o = none := by rw [HO.out, hf]
    subst ho
    clear hz hf HO hb2 L1
    go_wp2_with fail
    go_ret3
    exact ⟨rfl, hB2⟩
  · have ho : o = some x := by rw [HO.out, hf]
    subst ho
    have T := HTt.out w2 hB2
    have x1 := T.plen hx
    have x2 := T.hop hx
    have hk : k < 32 := by have := lt_len hx; have := HN.out; omega
    have t0 : decide ((k : Int) < 0) = false := decide_eq_false (by omega)
    have t1 : decide ((k : Int) < 32) = true := decide_eq_true (by omega)
    clear hz hf HO hb2 L1 T hx hz1 hz2
    go_wp2_with fail
    go_quiet (fail)
    go_wp2_with fail
    go_ret3
    exact ⟨rfl, below_drewN hB2 _⟩
end Go.Proofs.Ytlojehakifagbaa.Lpm
