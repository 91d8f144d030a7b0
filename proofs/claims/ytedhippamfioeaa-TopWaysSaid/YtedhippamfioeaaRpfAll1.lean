/- Package rpf: the queue gives out all that is in it, and what is put in meanwhile. No statement is proved here. -/
import Derived.Test.YtedhippamfioeaaRpfPut
import Derived.Test.YtedhippamfioeaaOwnI
import Derived.Test.YtedhippamfioeaaIter
import Derived.Outline
import Derived.WalkLawsBesides
import Derived.RegionTactic
import Derived.ChangeAlike
import Derived.BigRegionIn
import Derived.Sort.LoopGhostIn
namespace Go.Proofs.Ytedhippamfioeaa.Rpf
open Go.ChangeShapes Go.WideShapes Go.ChangeAt Go.RowKit Go.Shelf Go.Proofs.Ytedhippamfioeaa.Kit Go.Proofs.Ytedhippamfioeaa.App Go.Proofs.Ytedhippamfioeaa.Cells Go.Proofs.Ytedhippamfioeaa.Err Go.Proofs.Ytedhippamfioeaa.It
set_option linter.unusedVariables false
set_option maxRecDepth 100000
set_option maxHeartbeats 1000000
attribute [local go_sem] Oper.semAt_some

/-- The first of the queue: what the walk reads, and what is left. -/
theorem Qs.head {w : World} {b : Nat} {v : Value} {d : Sd} {F : List Sd} (h : Qs w b v (d :: F)) : ∃ g off cap q c1, v = .slice (some ⟨g, off, none⟩) (F.length + 1) cap ∧ w.cell? ⟨g, off, none⟩ = some (.int .i64 (d.src : Int)) ∧ w.cell? ⟨g, off + 1, none⟩ = some (.int .i64 (d.dst : Int)) ∧
    (∀ W, (Instr.slice 53 (.slice (some ⟨g, off, none⟩) (F.length + 1) cap) (some (.int .i64 1)) none none).run Try.prog W = .ok (.slice q F.length c1) W) ∧ g ≠ b ∧ g < w.heap.size ∧ (Value.slice q F.length c1).ownBlock = some g ∧
    ∀ w' : World, w.grownBy w' (some b) → Blk 55 w' b [.slice q F.length c1] → Qs w' b (.slice q F.length c1) F := by
  have ho := h.own
  obtain ⟨v', h1, h2, h3⟩ := ho.tail tyS elS
  obtain ⟨q, c1, e1, _⟩ := (h3 w (fun _ _ => rfl)).form
  obtain ⟨p, cap, e2, hi⟩ := ho.form
  obtain ⟨g, off, rfl, hlt, hc⟩ := hi.2.2 (by simp)
  have hc0 := hc 0 d rfl 0 _ rfl
  have hc1 := hc 0 d rfl 1 _ rfl
  rw [Nat.zero_mul, Nat.zero_add, Nat.add_zero] at hc0
  rw [Nat.zero_mul, Nat.zero_add] at hc1
  subst e1
  rw [List.length_cons] at e2
  have hb : v.ownBlock = some g := by rw [e2]; rfl
  have hne := h.ne g hb
  refine ⟨g, off, cap, q, c1, e2, hc0, hc1, by rw [e2] at h1; exact h1, hne, hlt, h2.trans hb, fun w' hg hB => ⟨hB, h3 w' (fun k hk => hg.block k ?_ ?_), fun k hk => ?_⟩⟩
  · rw [hb] at hk; injection hk with hk; omega
  · rw [hb] at hk; injection hk with hk; exact fun e => hne (by injection e with e; omega)
  · rw [h2, hb] at hk; injection hk with hk; omega

/-- What lies between two rounds (J), and when the first is taken out (Jp): bx holds the queue's place, b the queue. -/
structure Ask (bx b : Nat) (J : Nat → Value → List Sd → World → Prop) (Jp : Nat → Sd → Value → List Sd → World → Prop) : Prop where
  box : ∀ k v F W, J k v F W → W.cell? ⟨bx, 0, none⟩ = some (.pointer (some ⟨b, 0, none⟩)) ∧ Qs W b v F ∧ k + F.length ≤ 64 ∧ bx ≠ b
  pop : ∀ k v d F v' W W', J k v (d :: F) W → W.grownBy W' (some b) → Qs W' b v' F → v'.ownBlock = v.ownBlock → Jp k d v' F W'

theorem all1_in (l bx b : Nat) (J : Nat → Value → List Sd → World → Prop) (Jp : Nat → Sd → Value → List Sd → World → Prop) (hA : Ask bx b J Jp)
    (hY : ∀ k d v F W1, Jp k d v F W1 → YieldAt Fence.wide 0 Try.prog l #[.agg #[.int .i64 (d.src : Int), .int .i64 (d.dst : Int)]] W1 fun e W' => e = .returned (.bool true) ∧ ∃ v' F', J (k + 1) v' F' W')
    (k : Nat) (v : Value) (F : List Sd) (W : World) (h0 : J k v F W) :
    CallsIn Fence.wide 0 Try.prog 35 #[.func (.yield l) #[] #[], .pointer (some ⟨bx, 0, none⟩)] W fun e W' => (∃ v, e = .returned v) ∧ ∃ k v, J k v [] W' := by
  refine callsIn_of_wp Try.func35 rfl trivial ?_ rfl
  simp only [Try.ntmps35, List.size_toArray, List.length_cons, List.length_nil, Nat.reduceAdd, Nat.reduceSub, Array.replicate_succ, Array.replicate_zero, List.push_toArray, List.append_toArray, List.nil_append, List.cons_append]
  have HY := Lib.hid hY
  have HA := Lib.hid hA
  have h64 := (hA.box k v F W h0).2.2.1
  have H0 := Lib.hid h0
  clear hY hA h0
  gi_wp2
  gi_loopg [3] (64 - k) (fun gk _ wr => ∃ k v F, gk + k = 64 ∧ Hid (J k v F wr))
  case atStart => exact ⟨k, v, F, by omega, H0⟩
  case round =>
    obtain ⟨k', v', F', hgk, HJ⟩ := hrel
    obtain ⟨c0, hq, hk64, hbb⟩ := HA.out.box _ _ _ _ HJ.out
    have HG := Lib.hid hgk
    clear H0 h64 hgk
    cases F' with
    | nil =>
      obtain ⟨p, c, rfl, _⟩ := hq.own.form
      have b0 := hq.blk.cell 0 _ rfl
      clear hq
      simp only [List.length_nil] at *
      gi_wp2
      go_end0
      exact ⟨⟨_, rfl⟩, _, _, HJ.out⟩
    | cons d F' =>
      have HQ := Lib.hid hq
      have b0 := hq.blk.cell 0 _ rfl
      have f0 := hq.blk.fz 0
      have hbl := hq.blk.lt
      obtain ⟨g, off, cap, q, c1, rfl, x0, x1, hsl, hgb, hgl, hob, hT⟩ := hq.head
      have HT := Lib.hid hT
      have HOB := Lib.hid hob
      obtain ⟨z, hz⟩ : ∃ z, wr.heap.size = z := ⟨_, rfl⟩
      have hbz : b < z := by rw [← hz]; exact hbl
      have hne : b ≠ z := by omega
      have hne2 : z ≠ b := by omega
      obtain ⟨m, hm⟩ : ∃ m, F'.length = m := ⟨_, rfl⟩
      rw [List.length_cons] at hk64
      have HM := Lib.hid hm
      rw [hm] at b0 hsl HT HOB hk64
      have t0 : decide (0 < ((m + 1 : Nat) : Int)) = true := decide_eq_true (by omega)
      have t1 : 0 < m + 1 := by omega
      clear hq hT hob hbl hm
      gi_wp2
      obtain ⟨W1, hW1⟩ : ∃ W1, wr.alloc (.cells #[.int .i64 (d.src : Int), .int .i64 (d.dst : Int)] 58) = W1 := ⟨_, rfl⟩
      have hg1 : wr.grownBy W1 (some b) := by rw [← hW1]; exact World.grownBy_alloc _ _ _
      have HB1 := Lib.hid (show Blk 55 W1 b [.slice (some ⟨g, off, none⟩) (m + 1) cap] from by rw [← hW1, ← HM.out]; exact HQ.out.blk.alloc _)
      have HX1 := Lib.hid (show Blk 58 W1 z (sdc d) from by rw [← hW1, ← hz]; exact Blk.new wr _ _)
      have d0 : W1.cell? ⟨bx, 0, none⟩ = some (.pointer (some ⟨b, 0, none⟩)) := by rw [← hW1]; exact box_keep c0 (World.grownBy_alloc _ _ _) hbb
      have d1 := HB1.out.cell 0 _ rfl
      have d2 := HB1.out.fz 0
      have d3 := HX1.out.cell 0 _ rfl
      have d4 := HX1.out.cell 1 _ rfl
      have HG1 := Lib.hid hg1
      rw [hW1]
      clear c0 b0 f0 x0 x1 hW1 hg1
      gi_region
      obtain ⟨W2, hW2⟩ : ∃ W2, (W1.setCell ⟨b, 0, none⟩ (.slice q m c1)).drew = W2 := ⟨_, rfl⟩
      have hg2 : wr.grownBy W2 (some b) := by rw [← hW2]; exact grown_drew (grown_set HG1.out 0 _)
      have hQ2 : Qs W2 b (.slice q m c1) F' := by
        have h := HT.out W2 hg2
        refine h ?_
        rw [← hW2]
        exact (HB1.out.set 0 _).drew
      have e3 : W2.cell? ⟨z, 0, none⟩ = some (.int .i64 (d.src : Int)) := by
        rw [← hW2]; exact (HX1.out.other b 0 _ hne2).drew.cell 0 _ rfl
      have e4 : W2.cell? ⟨z, 1, none⟩ = some (.int .i64 (d.dst : Int)) := by
        rw [← hW2]; exact (HX1.out.other b 0 _ hne2).drew.cell 1 _ rfl
      obtain ⟨fn, tmps, asg, body, hy, hR⟩ := HY.out _ _ _ _ _ (HA.out.pop _ _ _ _ (.slice q m c1) _ W2 HJ.out hg2 hQ2 (by rw [HOB.out]; rfl))
      rw [hW2]
      clear d0 d1 d2 d3 d4 hW2 hg2 hQ2 hsl
      gi_wp2
      refine ⟨rfl, hR.mono ?_⟩
      rintro e W3 ⟨rfl, v3, F3, hJ3⟩
      have HJ3 := Lib.hid hJ3
      clear hJ3 e3 e4
      gi_wp2
      gi_roundg (64 - (k' + 1))
      case measure => have := HG.out; omega
      case rel => exact ⟨k' + 1, v3, F3, by omega, HJ3⟩
end Go.Proofs.Ytedhippamfioeaa.Rpf
