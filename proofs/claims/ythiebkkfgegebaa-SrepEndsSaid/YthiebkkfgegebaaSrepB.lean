/- The contracts of srep's window[bool]: open, find, pass. No statement is proved here. -/
import Derived.Test.YthiebkkfgegebaaSrepMath
import Derived.Test.YthiebkkfgegebaaQueue
import Derived.Test.YthiebkkfgegebaaCells
import Derived.OwnWalk
import Derived.BigQuiet
import Derived.Test.YthiebkkfgegebaaSrepBase
namespace Go.Proofs.Ythiebkkfgegebaa.Srep.bool
open Go.ChangeShapes Go.WideShapes Go.ChangeAt Go.RowKit Go.Proofs.Ythiebkkfgegebaa.Kit Go.Proofs.Ythiebkkfgegebaa.App Go.Proofs.Ythiebkkfgegebaa.SrepMath Go.Proofs.Ythiebkkfgegebaa.MapF Go.Proofs.Ythiebkkfgegebaa.Cells
set_option linter.unusedVariables false
set_option maxRecDepth 20000
set_option maxHeartbeats 1000000

/-- A window lies in block bw; what it holds, in block bm. -/
def Win (w : World) (bw bm f W R : Nat) : Prop := w.heap[bw]? = some (.cells #[.int .i64 f, .int .i64 W, .int .i64 R, .map (some bm)] 50)
theorem Win.cells {w : World} {bw bm f W R : Nat} (h : Win w bw bm f W R) : w.cell? ⟨bw, 0, none⟩ = some (.int .i64 f) ∧ w.cell? ⟨bw, 1, none⟩ = some (.int .i64 W) ∧ w.cell? ⟨bw, 2, none⟩ = some (.int .i64 R) ∧ w.cell? ⟨bw, 3, none⟩ = some (.map (some bm)) ∧ w.frozen? ⟨bw, 0, none⟩ = false := by
  unfold Win at h
  refine ⟨?_, ?_, ?_, ?_, ?_⟩
  all_goals first | (unfold World.cell?; rw [h]; rfl) | (unfold World.frozen?; rw [h]; rfl)
theorem Win.lt {w : World} {bw bm f W R : Nat} (h : Win w bw bm f W R) : bw < w.heap.size := (Array.getElem?_eq_some_iff.1 h).1
theorem Win.more {w w' : World} {bw bm f W R : Nat} {row : Option Nat} (h : Win w bw bm f W R) (hg : w.grownBy w' row) (hne : some bw ≠ row) : Win w' bw bm f W R := (hg.block bw h.lt hne).trans h
theorem Win.below {w w' : World} {bw bm f W R : Nat} (h : Win w bw bm f W R) (hb : Below w.heap.size w w') : Win w' bw bm f W R := (hb.block bw h.lt).trans h
theorem Win.alloc {w : World} {bw bm f W R : Nat} (h : Win w bw bm f W R) (o : Obj) : Win (w.alloc o) bw bm f W R := h.more (World.grownBy_alloc w o none) (by simp)
theorem Win.drewN {w : World} {bw bm f W R : Nat} (h : Win w bw bm f W R) (n : Nat) : Win (w.drewN n) bw bm f W R := h
theorem Win.drew {w : World} {bw bm f W R : Nat} (h : Win w bw bm f W R) : Win w.drew bw bm f W R := h
theorem Win.set {w : World} {bw bm f W R : Nat} (h : Win w bw bm f W R) (k : Nat) : Win (w.setCell ⟨bw, 0, none⟩ (.int .i64 k)) bw bm k W R := by
  unfold Win at h ⊢
  simp [World.setCell, Array.getElem?_modify, h]

theorem open_any (W R : Nat) (w : World) : Calls Try.prog 14 #[.int .i64 W, .int .i64 R] w fun e w' => e = .returned (.pointer (some ⟨w.heap.size + 1, 0, none⟩)) ∧ Win w' (w.heap.size + 1) w.heap.size 0 W R ∧ Mp EB w' w.heap.size 0 (fun _ => none) ∧ Below w.heap.size w w' ∧ w'.heap.size = w.heap.size + 2 := by
  have hmm := @run_makeMap Try.prog
  go_enter Try.func14, Try.ntmps14
  go_wp2_with fail
  go_ret
  refine ⟨rfl, ?_, (Mp.made EB w).alloc _, balloc (balloc (brefl w) _) _, by simp⟩
  have h := alloc_new (w.alloc (.map #[] 0)) (.cells #[.int .i64 ((0 : Nat) : Int), .int .i64 W, .int .i64 R, .map (some w.heap.size)] 50)
  simp only [World.size_alloc] at h
  exact h

theorem find_any (bw bm f W R x : Nat) (w : World) (hw : Win w bw bm f W R) (hf : f ≤ 100000) (hW : W ≤ 8) (hR : 2 ≤ R) (hR2 : R ≤ 16) (hx : x ≤ 1000000) (P : Option Nat) (hP : fnd R x W f = P) :
    Calls Try.prog 18 #[.pointer (some ⟨bw, 0, none⟩), .int .i64 x] w fun e w' => e = .returned (.tuple #[.int .i64 ((P.getD 0 : Nat) : Int), .bool P.isSome]) ∧ Below w.heap.size w w' := by
  have hRz : R ≠ 0 := by omega
  have hRzi : (R : Int) ≠ 0 := by omega
  obtain ⟨c0, c1, c2, _, _⟩ := hw.cells
  have HL := Lib.hid hw.lt
  have HP := Lib.hid hP
  clear hw hP
  go_enter Try.func18, Try.ntmps18
  go_wp2_with fail
  go_loopw [4] (fun iv wr => ∃ a k : Nat, a + k = f + W ∧ iv = .int .i64 a ∧ Hid (fnd R x k a = P) ∧ Below w.heap.size w wr) (fun iv _ => f + W - (intOf iv).toNat)
  case atStart => exact ⟨f, W, rfl, rfl, HP.out, brefl _⟩
  case round =>
    obtain ⟨a, k, hak, rfl, HF, hB⟩ := hrel
    have d0 := (hB.cell (p := ⟨bw, 0, none⟩) HL.out).trans c0
    have d1 := (hB.cell (p := ⟨bw, 1, none⟩) HL.out).trans c1
    have d2 := (hB.cell (p := ⟨bw, 2, none⟩) HL.out).trans c2
    by_cases hlt : a < f + W
    · have t0 : decide ((a : Int) < (f : Int) + (W : Int)) = true := decide_eq_true (by omega)
      obtain ⟨k, rfl⟩ : ∃ k', k = k' + 1 := ⟨k - 1, by omega⟩
      by_cases hm : a % R = x % R
      · have t1 : (((a : Int).tmod (R : Int)) == ((x : Int).tmod (R : Int))) = true := tmod_eqS hm
        have t2 : (((a : Int) % (R : Int)) == ((x : Int) % (R : Int))) = true := emod_eqS hm
        have HE := Lib.hid (show P = some a by rw [← HF.out, fnd, if_pos hm])
        clear hm HF c0 c1 c2
        go_wp2_with fail
        go_quiet (fail)
        go_wp2_with fail
        go_quiet (fail)
        go_wp2_with fail
        go_ret2
        exact ⟨by rw [HE.out]; rfl, by first | exact below_drewN hB _ | exact below_drewN (below_drewN hB _) _⟩
      · have t1 : (((a : Int).tmod (R : Int)) == ((x : Int).tmod (R : Int))) = false := tmod_neS hm
        have t2 : (((a : Int) % (R : Int)) == ((x : Int) % (R : Int))) = false := emod_neS hm
        have HE := Lib.hid (show fnd R x k (a + 1) = P by rw [← HF.out, fnd, if_neg hm])
        clear hm HF c0 c1 c2
        go_wp2_with fail
        go_quiet (fail)
        go_wp2_with fail
        go_quiet (fail)
        go_wp2_with fail
        go_roundw
        case rel => exact ⟨a + 1, k, by omega, by first | rfl | go_num, HE.out, by first | exact below_drewN hB _ | exact below_drewN (below_drewN hB _) _⟩
        case measure => simp [intOf]; omega
    · have t0 : decide ((a : Int) < (f : Int) + (W : Int)) = false := decide_eq_false (by omega)
      obtain rfl : k = 0 := by omega
      have HE := Lib.hid (show P = none from HF.out.symm)
      clear HF c0 c1 c2
      go_wp2_with fail
      go_quiet (fail)
      go_wp2_with fail
      go_ret2
      exact ⟨by rw [HE.out]; rfl, by first | exact below_drewN hB _ | exact below_drewN (below_drewN hB _) _⟩

/-- A truth lies in one cell. -/
def layO : Lay Bool := ⟨fun x => [.bool x], 1, by decide, fun _ => rfl, fun x v hv => by
  rw [List.mem_singleton.1 hv]; rfl⟩
theorem tyO : Ty layO 51 4 1 := ⟨Try.underlying51, by
  have h : (Try.prog.info? 4).map (fun i => (i.zero, i.size, i.bytes)) = some (some (.bool false), 1, 1) := by kernel_rfl
  obtain ⟨i, hi, hz⟩ := Option.map_eq_some_iff.1 h
  simp only [Prod.mk.injEq] at hz
  exact ⟨i, _, hi, hz.1, hz.2.1, hz.2.2, rfl⟩, by decide⟩

def lenV : Value → Nat
  | .slice _ n _ => n
  | _ => 0
theorem pass_any (bw bm f W R n : Nat) (h : Nat → Option Bool) (w : World) (hw : Win w bw bm f W R) (hm : Mp EB w bm n h) (hf : f ≤ 100000) (hW : W ≤ 8) (hh : ∀ j, f + W ≤ j → h j = none) (L : List Bool) (F : Nat) (hL : pas h W f = (L, F)) :
    Calls Try.prog 19 #[.pointer (some ⟨bw, 0, none⟩)] w fun e w' => ∃ v, e = .returned v ∧ OC layO 4 w' w.heap.size v L ∧ w.grownBy w' (some bw) ∧ Win w' bw bm F W R := by
  have HW := Lib.hid hw
  have HM := Lib.hid hm
  have HH := Lib.hid hh
  have HLF := Lib.hid hL
  have hbm := hm.lt
  have hbw := hw.lt
  have hne : bm ≠ bw := by
    rintro rfl
    obtain ⟨D, ⟨es, cl, h1, _⟩, _⟩ := hm
    rw [hw] at h1
    cases h1
  clear hw hm hh hL
  go_enter Try.func19, Try.ntmps19
  go_wp2_with fail
  go_loopw [3] (fun v wr => ∃ (a k : Nat) (l : List Bool), a + k = f + W ∧ f ≤ a ∧ l.length = a - f ∧ Hid (l ++ (pas h k a).1 = L ∧ (pas h k a).2 = F) ∧ OC layO 4 wr w.heap.size v l ∧ w.grownBy wr (some bw) ∧ Win wr bw bm a W R) (fun v _ => W + 1 - lenV v)
  case atStart => exact ⟨f, W, [], rfl, Nat.le_refl _, by simp, by rw [HLF.out]; exact ⟨rfl, rfl⟩, OC.nil _ _ _ _, ⟨rfl, rfl, rfl, Nat.le_refl _, fun _ _ _ => rfl⟩, HW.out⟩
  case round =>
    obtain ⟨a, k, l, hak, hfa, hll, HR, hown, hG, hWr⟩ := hrel
    have hGs := hG.size
    have HMr := Lib.hid (HM.out.kept hG (by simp [hne]))
    obtain ⟨d0, d1, d2, d3, fz⟩ := hWr.cells
    have hrun : ∀ m, (Instr.lookup 48 (.map (some bm)) (.int .i64 (a : Int)) true).run Try.prog (wr.drewN m) = .ok (.tuple #[Value.bool ((h a).getD false), .bool (h a).isSome]) (wr.drewN m) := fun m => (HMr.out.drewN m).look_ok (j := a) (by omega)
    have HWr := Lib.hid hWr
    have hbr := hWr.lt
    clear hWr
    obtain ⟨vp, vc, rfl, hvi⟩ := hown.form
    clear hvi
    cases hha : h a with
    | none =>
      rw [hha] at hrun
      simp only [Option.getD_none, Option.isSome_none] at hrun
      have HE := Lib.hid (show L = l ∧ F = a by
        have := HR.out
        cases k with
        | zero => exact ⟨by rw [← this.1]; simp [pas], this.2.symm⟩
        | succ k =>
          rw [pas, hha] at this
          exact ⟨by rw [← this.1]; simp, this.2.symm⟩)
      have HO := Lib.hid hown
      clear HR hown
      go_wp2_with fail
      go_quiet (fail)
      go_wp2_with fail
      go_ret
      obtain ⟨e1, e2⟩ := HE.out
      subst e1; subst e2
      exact ⟨_, rfl, HO.out, ⟨hG.os, hG.tape, hG.output, hG.size, hG.block⟩, HWr.out⟩
    | some y =>
      rw [hha] at hrun
      simp only [Option.getD_some, Option.isSome_some] at hrun
      have hk0 : k ≠ 0 := by
        rintro rfl
        rw [HH.out a (by omega)] at hha
        cases hha
      obtain ⟨k, rfl⟩ : ∃ k', k = k' + 1 := ⟨k - 1, by omega⟩
      have HE := Lib.hid (show (l ++ [y]) ++ (pas h k (a + 1)).1 = L ∧ (pas h k (a + 1)).2 = F by
        have := HR.out
        rw [pas, hha] at this
        exact ⟨by rw [← this.1]; simp, this.2⟩)
      
      have HL1 := Lib.hid (show (l ++ [y]).length = a + 1 - f by rw [List.length_append, List.length_singleton]; omega)
      have HLA := Lib.hid (show (l ++ [y]).length = l.length + 1 by rw [List.length_append]; rfl)
      have hlen : l.length < W := by omega
      have HLL := Lib.hid hll
      clear HR hk0 hll
      go_wp2_with fail
      go_quiet (fail)
      go_wp2_with (at_builtin
                   refine wp_appC tyO rfl (.tmp 21) (.tmp 23) rfl w.heap.size _ l (some ⟨wr.heap.size, 0, none⟩) 1 1 [y] rfl (OC.alloc (show OC layO 4 (wr.drewN nq) w.heap.size _ l from hown) _) rfl rfl (CI.one layO (wr.drewN nq) y 4) (by rw [List.length_singleton]; omega) (Nat.le_trans hGs (by simp)) ?_
                   intro v1 wa hown1 hg1 hat1
                   have hGa : w.grownBy wa (some bw) := pass_grown hG hg1 (fun q hq => (hown.lt q hq).1)
                   have HWa := Lib.hid (show Win wa bw bm a W R from ((HWr.out.drewN nq).alloc _).more hg1 (fun e => absurd (hown.lt bw e.symm).1 (by omega)))
                   obtain ⟨a0, _, _, _, az⟩ := HWa.out.cells
                   obtain ⟨vp1, vc1, rfl, hvi1⟩ := hown1.form
                   rw [HLA.out] at hown1 ⊢
                   clear hat1 hg1 hvi1)
      go_roundw
      case rel => exact ⟨a + 1, k, l ++ [y], by omega, by omega, HL1.out, HE.out, hown1.more (set_grown wa bw _) (own_far hown1.lt hbw), pass_set hGa, HWa.out.set (a + 1)⟩
      case measure => simp [lenV]; omega
end Go.Proofs.Ythiebkkfgegebaa.Srep.bool
