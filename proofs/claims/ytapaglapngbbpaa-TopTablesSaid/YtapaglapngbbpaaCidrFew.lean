/- The contracts of cidr.checkAll, Fewest, Many. No statement is proved here. -/
import Derived.Test.YtapaglapngbbpaaCidrPush
import Derived.Test.YtapaglapngbbpaaCidrHas
namespace Go.Proofs.Ytapaglapngbbpaa.Cidr
open Go.ChangeShapes Go.WideShapes Go.ChangeAt Go.RowKit Go.Sort Go.Proofs.Ytapaglapngbbpaa.Kit Go.Proofs.Ytapaglapngbbpaa.App Go.Proofs.Ytapaglapngbbpaa.Cells Go.Proofs.Ytapaglapngbbpaa.CidrMath
set_option linter.unusedVariables false
set_option maxRecDepth 20000

def badL : List Pfx → Int
  | [] => 0
  | x :: l => if code x = 0 then badL l else code x
/-- What is wrong with some. -/
def wrong (l : List Pfx) : Int := if 32 < l.length then 4 else badL l
theorem badL_zero : ∀ l : List Pfx, badL l = 0 ↔ ∀ x ∈ l, CidrMath.Good x
  | [] => by simp [badL]
  | x :: l => by
    unfold badL
    by_cases h : code x = 0
    · rw [if_pos h, badL_zero l]
      have hg := (good_iff x).1 h
      constructor
      · intro h2 y hy
        rcases List.mem_cons.1 hy with rfl | hy
        · exact hg
        · exact h2 y hy
      · exact fun h2 y hy => h2 y (List.mem_cons_of_mem _ hy)
    · rw [if_neg h]
      exact ⟨fun h2 => absurd h2 h, fun h2 => absurd ((good_iff x).2 (h2 x (List.mem_cons_self ..))) h⟩
theorem badL_at : ∀ (l : List Pfx) (k : Nat) (y : Pfx), (∀ x ∈ l.take k, code x = 0) → l[k]? = some y → code y ≠ 0 → badL l = code y
  | [], k, y, _, h, _ => by simp at h
  | x :: l, 0, y, _, h, hy => by
    have e : x = y := by simpa using h
    subst e
    unfold badL; rw [if_neg hy]
  | x :: l, k + 1, y, h1, h, hy => by
    unfold badL
    rw [if_pos (h1 x (by simp))]
    exact badL_at l k y (fun z hz => h1 z (by simp [hz])) (by simpa using h) hy
theorem wrong_zero (l : List Pfx) : wrong l = 0 ↔ l.length ≤ 32 ∧ ∀ x ∈ l, CidrMath.Good x := by
  unfold wrong
  by_cases h : 32 < l.length
  · rw [if_pos h]; exact ⟨fun h => by omega, fun h2 => by omega⟩
  · rw [if_neg h, badL_zero]; exact ⟨fun h2 => ⟨by omega, h2⟩, fun h2 => h2.2⟩
theorem take_one {l : List Pfx} {k : Nat} {x : Pfx} (h : l[k]? = some x) : l.take (k + 1) = l.take k ++ [x] := by
  rw [List.take_add_one, h]; rfl

set_option maxHeartbeats 1000000 in
theorem checkAll_any (p : Option Addr) (cap n : Nat) (l : List Pfx) (w : World) (hn : n = l.length) (hc : CI lay w p cap l) (R : Int) (hR0 : R = wrong l) :
    Calls Try.prog 23 #[.slice p n cap] w fun e w' => e = .returned (er R) ∧ Below w.heap.size w w' := by
  subst hn
  have hl := hc.len_le
  by_cases h32 : 32 < l.length
  · have t0 : decide ((l.length : Int) > 32) = true := decide_eq_true (by omega)
    have hR : R = 4 := by rw [hR0]; unfold wrong; rw [if_pos h32]
    clear hR0
    subst hR
    rw [er_4]
    go_enter Try.func23, Try.ntmps23
    go_wp2_with fail
    go_ret
    exact ⟨rfl, brefl w⟩
  · have t0 : decide ((l.length : Int) > 32) = false := decide_eq_false (by omega)
    have hR : R = badL l := by rw [hR0]; unfold wrong; rw [if_neg h32]
    have HR := Lib.hid hR
    have CK := Lib.hid (fun x W => check_any x W _ rfl)
    unfold val at CK
    clear hR0 hR
    go_enter Try.func23, Try.ntmps23
    go_wp2_with fail
    go_loopw [12] (fun i wr => ∃ k : Nat, i = .int .i64 k ∧ k ≤ l.length ∧ Hid (∀ x ∈ l.take k, code x = 0) ∧ Below w.heap.size w wr) (fun i _ => l.length - (intOf i).toNat)
    case atStart => exact ⟨0, by rfl, Nat.zero_le _, fun x hx => by simp at hx, brefl w⟩
    case round =>
      obtain ⟨k, rfl, hk, H, hB⟩ := hrel
      by_cases hlt : k < l.length
      · obtain ⟨b, off, rfl, hb, _⟩ := hc.2.2 (by omega)
        obtain ⟨x, hx⟩ : ∃ x, l[k]? = some x := ⟨_, List.getElem?_eq_getElem hlt⟩
        have hcb := (hc.below hB).2.2 (by omega)
        obtain ⟨b', off', ea, _, hcell⟩ := hcb
        simp only [Option.some.injEq, Addr.mk.injEq, and_true] at ea
        obtain ⟨rfl, rfl⟩ := ea
        have x0 : wr.cell? ⟨b, off + k * 2, none⟩ = some (.int .i64 x.adr) := hcell k x hx 0 _ rfl
        have x1 : wr.cell? ⟨b, off + k * 2 + 1, none⟩ = some (.int .i64 x.len) := hcell k x hx 1 _ rfl
        have HX := Lib.hid hx
        have C := Lib.hid (CK.out x)
        clear hcell hx
        by_cases h0 : code x = 0
        · have HT := Lib.hid (show ∀ y ∈ l.take (k + 1), code y = 0 from fun y hy => by
            rw [take_one HX.out, List.mem_append, List.mem_singleton] at hy
            rcases hy with hy | rfl
            · exact H.out y hy
            · exact h0)
          rw [h0, er_0] at C
          clear h0
          go_wp2_with fail
          refine (C.out _).mono ?_; rintro e w1 ⟨rfl, hg1⟩
          have hB1 : Below w.heap.size w w1 := below_gr (balloc hB _) (Nat.le_trans hB.size (by simp)) hg1
          clear hg1 hB
          go_wp2_with fail
          go_roundw
          case rel => exact ⟨k + 1, by first | rfl | go_num, by omega, HT.out, hB1⟩
          case measure => simp [intOf]; omega
        · have hR : R = code x := by rw [HR.out]; exact badL_at l k x H.out HX.out h0
          obtain ⟨c, hcx⟩ : ∃ c, code x = c := ⟨_, rfl⟩
          rw [hcx] at h0 hR C
          subst hR
          have H0 := Lib.hid (er_ne h0)
          rw [er_ne h0] at C
          clear hcx h0
          go_wp2_with fail
          refine (C.out _).mono ?_; rintro e w1 ⟨rfl, hg1⟩
          have hB1 : Below w.heap.size w w1 := below_gr (balloc hB _) (Nat.le_trans hB.size (by simp)) hg1
          clear hg1 hB
          go_wp2_with fail
          go_ret
          exact ⟨by rw [H0.out]; rfl, hB1⟩
      · obtain rfl : k = l.length := by omega
        have hR : R = 0 := by
          rw [HR.out, badL_zero]
          intro x hx
          exact (good_iff x).1 (H.out x (by rw [List.take_length]; exact hx))
        subst hR
        go_wp2_with fail
        go_ret
        exact ⟨rfl, hB⟩

end Go.Proofs.Ytapaglapngbbpaa.Cidr
