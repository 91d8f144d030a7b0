/- Contracts of what the laws of package frag call besides. No statement is proved here. -/
import Derived.Test.YtaflpdagehocfaaFJoin5
namespace Go.Proofs.Ytaflpdagehocfaa.Part
open Go.ChangeShapes Go.WideShapes Go.ChangeAt Go.RowKit Go.Proofs.Ytaflpdagehocfaa.Kit Go.Proofs.Ytaflpdagehocfaa.App Go.Proofs.Ytaflpdagehocfaa.Cells
set_option linter.unusedVariables false
set_option maxRecDepth 20000

theorem in_any (n a b : Int) (w : World) (R : Bool) (hR : R = (decide (a ≤ n) && decide (n ≤ b))) : Calls Try.prog 8 #[.int .i64 n, .int .i64 a, .int .i64 b] w fun e w' => e = .returned (.bool R) ∧ w' = w := by
  subst hR
  by_cases h1 : a ≤ n
  · have t1 : decide (a ≤ n) = true := decide_eq_true h1
    go_enter Try.func8, Try.ntmps8
    go_wp2_with fail
    go_ret
    exact ⟨by rw [t1]; simp, rfl⟩
  · have t1 : decide (a ≤ n) = false := decide_eq_false h1
    go_enter Try.func8, Try.ntmps8
    go_wp2_with fail
    go_ret
    exact ⟨rfl, rfl⟩
theorem lit_parts (w : World) (l : List Prt) (t : TypeId) (hm : l.length ≤ 700) : CI lay (w.alloc (.cells (lay.all l).toArray t)) (some ⟨w.heap.size, 0, none⟩) l.length l :=
  ⟨Nat.le_refl _, by unfold maxLen; omega, fun _ => ⟨w.heap.size, 0, rfl, by simp, fun j x hj i v hv => by
    have h1 : (w.alloc (.cells (lay.all l).toArray t)).heap[w.heap.size]? = some (.cells (lay.all l).toArray t) := alloc_new w _
    have hi : i < 3 := by
      rcases Nat.lt_or_ge i 3 with h | h
      · exact h
      · rw [List.getElem?_eq_none (by rw [lay.len]; exact h)] at hv; cases hv
    unfold World.cell?
    rw [h1]
    have hg := lay.all_get l j x hj i hi
    rw [hv] at hg
    simpa using hg⟩⟩
def abc : ByteArray := ⟨#[97, 98, 99]⟩
def lit2 : List Prt := [⟨2, false, ⟨#[99]⟩⟩, ⟨0, true, ⟨#[97, 98]⟩⟩]
theorem join_lit : joinM lit2 = .ok [97, 98, 99] := by kernel_rfl
theorem abc_len : (parts abc 2).length = 2 := by kernel_rfl
theorem fits_lit : ∀ x ∈ lit2, Fits x := fun x hx => by
  simp only [lit2, List.mem_cons, List.not_mem_nil, or_false] at hx
  rcases hx with rfl | rfl
  · exact ⟨by decide, by decide⟩
  · exact ⟨by decide, by decide⟩
set_option maxHeartbeats 1000000 in
theorem fact_any (w : World) : Calls Try.prog 6 #[] w fun e w' => e = .returned (.bool true) ∧ Below w.heap.size w w' := by
  have s1 : Calls Try.prog 7 #[.string abc, .int .i64 2] w fun e w' => ∃ v, e = .returned (.tuple #[v, .nilIface]) ∧ OC lay 31 w' w.heap.size v (parts abc 2) ∧ Below w.heap.size w w' := fcut_some abc 2 w (by decide) (by decide) (by decide) (by decide)
  have s2 := fun W : World => fjoin_any (some ⟨W.heap.size, 0, none⟩) 2 2 lit2 _ rfl (lit_parts W lit2 31 (by decide)) fits_lit abc .nilIface (by rw [join_lit]; exact ⟨rfl, rfl⟩)
  have hall : lay.all lit2 = [.int .i64 2, .bool false, .string ⟨#[99]⟩, .int .i64 0, .bool true, .string ⟨#[97, 98]⟩] := rfl
  rw [hall] at s2
  have hab : (abc.toList == abc.toList) = true := by simp
  have HL := Lib.hid abc_len
  have S1 := Lib.hid s1
  have S2 := Lib.hid s2
  clear s1 s2 hall
  go_enter Try.func6, Try.ntmps6
  rw [show ({ data := #[97, 98, 99] } : ByteArray) = abc from rfl]
  generalize abc = T at *
  go_wp2_with fail
  refine S1.out.mono ?_; rintro e w1 ⟨v, rfl, hown, hb1⟩
  obtain ⟨p, c, rfl, _⟩ := hown.form
  rw [HL.out]
  clear hown S1
  go_wp2_with fail
  refine (S2.out _).mono ?_; rintro e w2 ⟨rfl, hb2⟩
  have hB2 := bcall hb1 (bcall (balloc (brefl w1) _) hb2)
  clear S2 hb2
  go_wp2_with fail
  go_ret
  exact ⟨rfl, hB2⟩
end Go.Proofs.Ytaflpdagehocfaa.Part
