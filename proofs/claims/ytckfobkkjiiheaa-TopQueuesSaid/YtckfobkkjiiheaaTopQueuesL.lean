/- TopQueues: for packets of equal size, deficit round robin and fair queuing both serve queues in turn, as a token ring does that lets one frame go each: for every input. No condition. -/
import Derived.Test.YtckfobkkjiiheaaTopQMath
import Derived.Test.YtckfobkkjiiheaaTopQOps
import Derived.Test.YtckfobkkjiiheaaRingOps
import Derived.Test.YtckfobkkjiiheaaHeadsGrow
import Derived.Test.YtckfobkkjiiheaaAll
import Derived.Test.YtckfobkkjiiheaaSame
import Derived.Test.YtckfobkkjiiheaaInTop
namespace Go.Proofs.Ytckfobkkjiiheaa.TopQueuesL
open Go.ChangeShapes Go.WideShapes Go.ChangeAt Go.RowKit Go.Proofs.Ytckfobkkjiiheaa.Kit Go.Proofs.Ytckfobkkjiiheaa.App Go.Proofs.Ytckfobkkjiiheaa.Cells Go.Proofs.Ytckfobkkjiiheaa.Err Go.Proofs.Ytckfobkkjiiheaa.Ring Go.Proofs.Ytckfobkkjiiheaa.Heads
set_option linter.unusedVariables false
set_option maxRecDepth 20000
set_option maxHeartbeats 4000000

abbrev Law (p : Option Addr) (cap n : Nat) (x : Int) (w : World) : Prop := Calls Try.prog 6 #[.slice p n cap, .int .i64 x] w fun e w' => e = .returned (.bool true) ∧ Below w.heap.size w w'
theorem wf_fewq {x : Int} (h : 0 ≤ x ∧ x ≤ 1000) : (Lit.int .i64 x).wf = true := by
  simp [Lit.wf, IntKind.min, IntKind.max, IntKind.signed, IntKind.bits]; omega
theorem one_good : Drr.Good [[2]] := by
  refine ⟨by decide, fun l hl => ?_⟩
  obtain rfl := List.mem_singleton.1 hl
  refine ⟨by decide, fun x hx => ?_⟩
  obtain rfl := List.mem_singleton.1 hx
  decide
theorem one_runs : ∃ N, Drr.Runs 2 N (Drr.start [[2]]) [0] := ⟨1, by
  have h : Drr.Runs 2 (0 + 1) [⟨0, [2], 0⟩] (Drr.said 2 ⟨0, [2], 0⟩ ++ []) := Drr.Runs.fin (by decide) Drr.Runs.done
  exact h⟩
/-- A list with one row. -/
theorem one_rows (w : World) : RowsI ((w.alloc (.cells #[.int .i64 2] 3)).alloc (.cells #[.slice (some ⟨w.heap.size, 0, none⟩) 1 1] 22)) (some ⟨w.heap.size + 1, 0, none⟩) 1 [[2]] := by
  refine ⟨by decide, by unfold maxLen; decide, fun _ => ⟨w.heap.size + 1, 0, rfl, by simp, fun j hj => ?_⟩⟩
  obtain rfl : j = 0 := by simpa using hj
  refine ⟨some ⟨w.heap.size, 0, none⟩, 1, ?_, ?_⟩
  · have h := alloc_new (w.alloc (.cells #[.int .i64 2] 3)) (.cells #[.slice (some ⟨w.heap.size, 0, none⟩) 1 1] 22)
    rw [World.size_alloc] at h
    unfold World.cell?
    rw [h]
    rfl
  · exact (Ints.one w 2 (by decide)).below (balloc (brefl _) _)
theorem law_long (p : Option Addr) (cap n : Nat) (l : List Int) (x : Int) (w : World) (hn : n = l.length) (hi : Ints w p cap l) (h5 : 5 < n) : Law p cap n x w := by
  have hlen := hi.len_le
  rw [← hn] at hlen
  have t0 : decide ((n : Int) > 5) = true := decide_eq_true (by omega)
  have t0n : decide (5 < n) = true := decide_eq_true h5
  clear hn hi
  obtain ⟨N1, hN1⟩ := one_runs
  have DR := Lib.hid (Drr.run_good _ 1 1 [[2]] 2 _ rfl (one_rows w) one_good (by decide) N1 [0] hN1)
  have A1 := Lib.hid (fun W => lit_ints W [0] (by decide) (by decide))
  have S1 := Lib.hid (fun W q c (hW : Ints W q c [0]) q2 (hq : Ints W q2 1 [0]) => ints_any q q2 c 1 1 1 [0] [0] W rfl rfl hW hq true (by decide))
  generalize hz : w.heap.size = z at DR
  have HB0 : Hid (Below w.heap.size w ((w.alloc (.cells #[.int .i64 2] 3)).alloc (.cells #[.slice (some ⟨z, 0, none⟩) 1 1] 22))) := Lib.hid (by rw [← hz]; exact balloc (balloc (brefl w) _) _)
  clear hN1
  unfold Law
  go_enter Try.func6, Try.ntmps6
  go_wp2_with fail
  refine DR.out.mono ?_; rintro e w1 ⟨u, rfl, ho, hb⟩
  have HB1 := Lib.hid (bcall HB0.out hb)
  obtain ⟨pu, cu, rfl, iu⟩ := ho.form
  have IU := Lib.hid iu
  clear DR HB0 ho iu hb hz
  go_wp2_with fail
  refine (S1.out _ pu cu (IU.out.below (balloc (brefl w1) _)) _ (A1.out w1)).mono ?_; rintro e w2 ⟨rfl, hb⟩
  have HB2 := Lib.hid (bcall (balloc HB1.out _) hb)
  clear hb IU HB1 S1 A1
  go_wp2_with fail
  go_ret
  exact ⟨by first | rfl | simp, HB2.out⟩
theorem law_many (p : Option Addr) (cap n : Nat) (l : List Int) (x : Int) (w : World) (hn : n = l.length) (hi : Ints w p cap l) (h5 : n ≤ 5) (ha : App.within 0 8 l = false) : Law p cap n x w := by
  have hlen := hi.len_le
  rw [← hn] at hlen
  have t0 : decide ((n : Int) > 5) = false := decide_eq_false (by omega)
  have t0n : decide (5 < n) = false := decide_eq_false (by omega)
  have AL := Lib.hid (fun W (hW : Below w.heap.size w W) => all_any 0 8 p cap n l W hn (hi.below hW) false ha.symm)
  clear hn hi ha
  obtain ⟨N1, hN1⟩ := one_runs
  have DR := Lib.hid (Drr.run_good _ 1 1 [[2]] 2 _ rfl (one_rows w) one_good (by decide) N1 [0] hN1)
  have A1 := Lib.hid (fun W => lit_ints W [0] (by decide) (by decide))
  have S1 := Lib.hid (fun W q c (hW : Ints W q c [0]) q2 (hq : Ints W q2 1 [0]) => ints_any q q2 c 1 1 1 [0] [0] W rfl rfl hW hq true (by decide))
  generalize hz : w.heap.size = z at DR
  have HB0 : Hid (Below w.heap.size w ((w.alloc (.cells #[.int .i64 2] 3)).alloc (.cells #[.slice (some ⟨z, 0, none⟩) 1 1] 22))) := Lib.hid (by rw [← hz]; exact balloc (balloc (brefl w) _) _)
  clear hN1
  unfold Law
  go_enter Try.func6, Try.ntmps6
  go_wp2_with fail
  refine DR.out.mono ?_; rintro e w1 ⟨u, rfl, ho, hb⟩
  have HB1 := Lib.hid (bcall HB0.out hb)
  obtain ⟨pu, cu, rfl, iu⟩ := ho.form
  have IU := Lib.hid iu
  clear DR HB0 ho iu hb hz
  go_wp2_with fail
  refine (S1.out _ pu cu (IU.out.below (balloc (brefl w1) _)) _ (A1.out w1)).mono ?_; rintro e w2 ⟨rfl, hb⟩
  have HB2 := Lib.hid (bcall (balloc HB1.out _) hb)
  clear hb IU HB1 S1 A1
  go_wp2_with fail
  refine (AL.out w2 HB2.out).mono ?_; rintro e w3 ⟨rfl, hw3⟩
  subst hw3
  go_wp2_with fail
  go_ret
  exact ⟨by first | rfl | simp, HB2.out⟩
theorem law_size (p : Option Addr) (cap n : Nat) (l : List Int) (x : Int) (w : World) (hn : n = l.length) (hi : Ints w p cap l) (h5 : n ≤ 5) (ha : App.within 0 8 l = true) (hx : ¬ (1 ≤ x ∧ x ≤ 20)) : Law p cap n x w := by
  have hlen := hi.len_le
  rw [← hn] at hlen
  have t0 : decide ((n : Int) > 5) = false := decide_eq_false (by omega)
  have t0n : decide (5 < n) = false := decide_eq_false (by omega)
  have AL := Lib.hid (fun W (hW : Below w.heap.size w W) => all_any 0 8 p cap n l W hn (hi.below hW) true ha.symm)
  have IN := Lib.hid (fun W => int_any x 1 20 W false (in_false hx))
  clear hn hi ha hx
  obtain ⟨N1, hN1⟩ := one_runs
  have DR := Lib.hid (Drr.run_good _ 1 1 [[2]] 2 _ rfl (one_rows w) one_good (by decide) N1 [0] hN1)
  have A1 := Lib.hid (fun W => lit_ints W [0] (by decide) (by decide))
  have S1 := Lib.hid (fun W q c (hW : Ints W q c [0]) q2 (hq : Ints W q2 1 [0]) => ints_any q q2 c 1 1 1 [0] [0] W rfl rfl hW hq true (by decide))
  generalize hz : w.heap.size = z at DR
  have HB0 : Hid (Below w.heap.size w ((w.alloc (.cells #[.int .i64 2] 3)).alloc (.cells #[.slice (some ⟨z, 0, none⟩) 1 1] 22))) := Lib.hid (by rw [← hz]; exact balloc (balloc (brefl w) _) _)
  clear hN1
  unfold Law
  go_enter Try.func6, Try.ntmps6
  go_wp2_with fail
  refine DR.out.mono ?_; rintro e w1 ⟨u, rfl, ho, hb⟩
  have HB1 := Lib.hid (bcall HB0.out hb)
  obtain ⟨pu, cu, rfl, iu⟩ := ho.form
  have IU := Lib.hid iu
  clear DR HB0 ho iu hb hz
  go_wp2_with fail
  refine (S1.out _ pu cu (IU.out.below (balloc (brefl w1) _)) _ (A1.out w1)).mono ?_; rintro e w2 ⟨rfl, hb⟩
  have HB2 := Lib.hid (bcall (balloc HB1.out _) hb)
  clear hb IU HB1 S1 A1
  go_wp2_with fail
  refine (AL.out w2 HB2.out).mono ?_; rintro e w3 ⟨rfl, hw3⟩
  subst hw3
  go_wp2_with fail
  refine (IN.out w2).mono ?_; rintro e w3 ⟨rfl, hw3⟩
  rw [hw3]
  clear hw3 w3
  go_wp2_with fail
  go_ret
  exact ⟨by first | rfl | simp, HB2.out⟩
theorem law_good (p : Option Addr) (cap n : Nat) (l : List Int) (c : Nat) (w : World) (hn : n = l.length) (hi : Ints w p cap l) (h5 : n ≤ 5) (ha : App.within 0 8 l = true) (hx : 1 ≤ c ∧ c ≤ 20) : Law p cap n (c : Int) w := by
  have hlen := hi.len_le
  rw [← hn] at hlen
  have t0 : decide ((n : Int) > 5) = false := decide_eq_false (by omega)
  have t0n : decide (5 < n) = false := decide_eq_false (by omega)
  have AL := Lib.hid (fun W (hW : Below w.heap.size w W) => all_any 0 8 p cap n l W hn (hi.below hW) true ha.symm)
  have IN := Lib.hid (fun W => int_any (c : Int) 1 20 W true (in_true ⟨by omega, by omega⟩))
  have hfe : ∀ k, k < n → l[k]?.getD 0 = ((fn l k : Nat) : Int) ∧ fn l k ≤ 8 := fun k hk => by
    have h1 := App.within_iff.1 ha (l[k]?.getD 0) (by rw [List.getElem?_eq_getElem (by omega)]; exact List.getElem_mem (by omega))
    unfold fn
    omega
  have HFE := Lib.hid hfe
  have HN := Lib.hid hn
  have HI := Lib.hid hi
  have CE := Lib.hid (fun (h0 : 0 < n) => (show ∃ b o, p = some ⟨b, o, none⟩ ∧ ∀ W, Below w.heap.size w W → ∀ j, j < n → W.cell? ⟨b, o + j, none⟩ = some (.int .i64 ((fn l j : Nat) : Int)) from by
    obtain ⟨b, o, e, hb, hc⟩ := hi.2.2.2 (by omega)
    refine ⟨b, o, e, fun W hW j hj => ?_⟩
    rw [hW.cell (p := ⟨b, o + j, none⟩) hb, hc j (by omega), (hfe j hj).1]))
  have hcap : n ≤ cap := by have := hi.1; omega
  have HC := Lib.hid (show (Lit.int .i64 (c : Int)).wf = true from wf_fewq (by omega))
  clear hn hi ha hfe
  obtain ⟨N1, hN1⟩ := one_runs
  have DR := Lib.hid (Drr.run_good _ 1 1 [[2]] 2 _ rfl (one_rows w) one_good (by decide) N1 [0] hN1)
  have A1 := Lib.hid (fun W => lit_ints W [0] (by decide) (by decide))
  have S1 := Lib.hid (fun W q c (hW : Ints W q c [0]) q2 (hq : Ints W q2 1 [0]) => ints_any q q2 c 1 1 1 [0] [0] W rfl rfl hW hq true (by decide))
  generalize hz : w.heap.size = z at DR
  have HB0 : Hid (Below w.heap.size w ((w.alloc (.cells #[.int .i64 2] 3)).alloc (.cells #[.slice (some ⟨z, 0, none⟩) 1 1] 22))) := Lib.hid (by rw [← hz]; exact balloc (balloc (brefl w) _) _)
  clear hN1
  unfold Law
  go_enter Try.func6, Try.ntmps6
  go_wp2_with fail
  refine DR.out.mono ?_; rintro e w1 ⟨u, rfl, ho, hb⟩
  have HB1 := Lib.hid (bcall HB0.out hb)
  obtain ⟨pu, cu, rfl, iu⟩ := ho.form
  have IU := Lib.hid iu
  clear DR HB0 ho iu hb hz
  go_wp2_with fail
  refine (S1.out _ pu cu (IU.out.below (balloc (brefl w1) _)) _ (A1.out w1)).mono ?_; rintro e w2 ⟨rfl, hb⟩
  have HB2 := Lib.hid (bcall (balloc HB1.out _) hb)
  clear hb IU HB1 S1 A1
  go_wp2_with fail
  refine (AL.out w2 HB2.out).mono ?_; rintro e w3 ⟨rfl, hw3⟩
  subst hw3
  go_wp2_with fail
  refine (IN.out w2).mono ?_; rintro e w3 ⟨rfl, hw3⟩
  rw [hw3]
  clear hw3 w3 AL IN
  go_wp2_with fail
  go_loopw [7, 8] (fun qv iv wr => ∃ (i : Nat) (hs : List Hd), i ≤ n ∧ iv = .int .i64 i ∧ Hid (Grow w2 wr qv hs (TopQ.qs (fn l) (c : Int) 8 i))) (fun _ i _ => n - (intOf i).toNat)
  case atStart => exact ⟨0, [], Nat.zero_le _, rfl, Lib.hid (Grow.nil w2 w2 (brefl _))⟩
  case round =>
    obtain ⟨i, hs, hin, rfl, HG⟩ := hrel
    by_cases hlt : i < n
    · have v0 : decide ((i : Int) < (n : Int)) = true := decide_eq_true (by omega)
      have v1 : (i : Int) < (n : Int) := by omega
      obtain ⟨b, o, rfl, hat⟩ := CE.out (by omega)
      have CIL := Lib.hid (fun W (hW : Below w.heap.size w W) => hat W hW i hlt)
      have h8 := (HFE.out i hlt).2
      have HQN := Lib.hid (TopQ.qs_next (f := fn l) (c := (c : Int)) 8 i)
      obtain ⟨y, hy⟩ : ∃ y, fn l i = y := ⟨_, rfl⟩
      rw [hy] at CIL h8 HQN
      rw [Nat.min_eq_right h8] at HQN
      obtain ⟨w3, hw3⟩ : ∃ z, z = wr := ⟨wr, rfl⟩
      rw [← hw3] at HG ⊢
      clear hat hy hw3 wr
      have HL3 := Lib.hid (show hs.length = i from by rw [HG.out.rd.1, TopQ.qs_len])
      go_wp2_with fail
      go_loopw [9, 10] (fun lv kv wr => ∃ k : Nat, k ≤ y ∧ kv = .int .i64 k ∧ Hid (OwnI wr w3.heap.size lv (List.replicate k (c : Int))) ∧ Hid (Below w3.heap.size w3 wr)) (fun _ k _ => y - (intOf k).toNat)
      case atStart => exact ⟨0, Nat.zero_le _, rfl, Lib.hid (OwnI.nil _ _), Lib.hid (brefl _)⟩
      case round =>
        obtain ⟨k, hk, rfl, HO, HR⟩ := hrel
        have ci := CIL.out wr (bcall HB2.out (bcall HG.out.bel HR.out))
        by_cases hlk : k < y
        · have v2 : decide ((k : Int) < (y : Int)) = true := decide_eq_true (by omega)
          have HE := Lib.hid (show List.replicate (k + 1) (c : Int) = List.replicate k (c : Int) ++ [(c : Int)] from List.replicate_succ')
          obtain ⟨pk, qk, ek, _⟩ := HO.out.form
          rw [List.length_replicate] at ek
          subst ek
          go_wp2_with (at_builtin
                       refine wp_app rfl (.tmp 59) (.tmp 61) rfl w3.heap.size (.slice pk k qk) (List.replicate k (c : Int)) (some ⟨wr.heap.size, 0, none⟩) 1 1 [(c : Int)] rfl (HO.out.alloc _) rfl rfl (Ints.one wr _ HC.out) (by rw [List.length_replicate]; simp; omega) (by have := HR.out.size; simp; omega) ?_
                       intro v9 w9 ho9 hg9 hat9
                       have HO9 := Lib.hid ho9
                       have HB9 := Lib.hid (show Below w3.heap.size w3 w9 from (HR.out.trans ((balloc (brefl wr) (.cells #[.int .i64 (c : Int)] 3)).mono HR.out.size)).grown hg9 (by have := HR.out.size; simp; omega) (fun r e => (HO.out.lt r e).1))
                       clear ho9 hg9 hat9)
          go_roundw
          case rel => exact ⟨k + 1, by omega, by first | rfl | go_num, Lib.hid (by rw [HE.out]; exact HO9.out), HB9⟩
          case measure => simp [intOf]; omega
        · obtain rfl : k = y := by omega
          have v2 : decide ((k : Int) < (k : Int)) = false := decide_eq_false (by omega)
          obtain ⟨pk, qk, ek, ik⟩ := HO.out.form
          rw [List.length_replicate] at ek
          have HLT := Lib.hid (fun a (e : pk = some a) => (show w3.heap.size ≤ a.block ∧ a.block < wr.heap.size from HO.out.lt a.block (by rw [ek, e]; rfl)))
          subst ek
          have IK := Lib.hid ik
          have HG2 := Lib.hid (HG.out.below HR.out)
          have HG3 := Lib.hid (HG2.out.below (balloc (brefl wr) (.cells #[.slice pk k qk] 22)))
          obtain ⟨pq, cq, eq_, _⟩ := HG3.out.own.form
          rw [HL3.out] at eq_
          subst eq_
          have HNE := Lib.hid (fun a (e : pk = some a) => (show (Value.slice pq i cq).ownBlock ≠ some a.block from fun e2 => by
            have h1 := (HG.out.own.lt a.block e2).2
            have h2 := (HLT.out a e).1
            omega))
          clear ik HO
          go_wp2_with (at_builtin
                       refine wp_appC tyH rfl (.tmp 63) (.tmp 65) rfl w2.heap.size (.slice pq i cq) hs (some ⟨wr.heap.size, 0, none⟩) 1 1 [⟨pk, k, qk⟩] rfl HG3.out.own rfl rfl (CI.one layH wr ⟨pk, k, qk⟩ _) (by rw [HL3.out]; simp; omega) HG3.out.bel.size ?_
                       intro v9 w9 ho9 hg9 hat9
                       have HO9 := Lib.hid ho9
                       have HGR := Lib.hid hg9
                       have HAT := Lib.hid hat9
                       clear ho9 hg9 hat9)
          have HG9 := Lib.hid (HG3.out.app (x := ⟨pk, k, qk⟩) (l := List.replicate k (c : Int)) (by simp) (IK.out.below (balloc (brefl wr) _)) (fun a e => ⟨by have := (HLT.out a e).2; simp; omega, HNE.out a e⟩) HO9.out HGR.out HAT.out)
          clear HO9 HGR HAT
          go_roundw
          case rel => exact ⟨i + 1, _, by omega, by first | rfl | go_num, Lib.hid (by rw [HQN.out]; exact HG9.out)⟩
          case measure => simp [intOf]; omega
    · obtain rfl : i = n := by omega
      have v0 : decide ((i : Int) < (i : Int)) = false := decide_eq_false (by omega)
      obtain ⟨pq, cq, rfl, hrw⟩ := HG.out.form
      rw [TopQ.qs_len]
      have HRW := Lib.hid hrw
      have HBR := Lib.hid (bcall HB2.out HG.out.bel)
      have HGD := Lib.hid (TopQ.qs_good (f := fn l) (m := i) (c := (c : Int)) (by omega) (by omega) h5 (fun k hk => (HFE.out k hk).2) 8)
      obtain ⟨N, hN⟩ := TopQ.drr_all (f := fn l) (m := i) (c := (c : Int)) (by omega) (T := 8) (fun k hk => (HFE.out k hk).2) (by decide)
      have HSR := TopQ.rounds_all (f := fn l) (m := i) (c := (c : Int)) (by omega) 8
      have hnm := TopQ.nums_all (f := fn l) (m := i) (c := (c : Int)) 8
      have D1 := Lib.hid (Drr.run_good pq cq i (TopQ.qs (fn l) (c : Int) 8 i) (c : Int) wr (TopQ.qs_len 8 i).symm HRW.out HGD.out (by omega) N _ hN)
      have R1 := Lib.hid (fun W (hW : Below wr.heap.size wr W) => Rounds.run_good pq cq i (TopQ.qs (fn l) (c : Int) 8 i) W (TopQ.qs_len 8 i).symm (HRW.out.below hW) HGD.out _ HSR _ rfl)
      rw [hnm] at R1
      have hlk : (TopQ.srt (fn l) (c : Int) i 8).length = (RingMath.order (fn l) 1 i 8).length := by
        have := congrArg List.length hnm
        rwa [nat_len, show (Rounds.nums (TopQ.srt (fn l) (c : Int) i 8)).length = (TopQ.srt (fn l) (c : Int) i 8).length by simp [Rounds.nums]] at this
      rw [hlk] at R1
      obtain ⟨L, hL⟩ : ∃ L, RingMath.order (fn l) 1 i 8 = L := ⟨_, rfl⟩
      rw [hL] at D1 R1
      have HOL := Lib.hid (fun (h0 : 0 < i) => (show Ring.Good l 1 ∧ ord l 1 = L from ⟨⟨by have := HN.out; omega, by have := HN.out; omega, fun k hk => by have := HFE.out k (by have := HN.out; omega); omega, by decide, by decide⟩, by
        unfold ord
        rw [← HN.out, ← hL]
        exact RingMath.order_end (t := 8) (u := 20) (fun j hj => by have := (HFE.out j hj).2; omega) (by decide)⟩))
      obtain ⟨k0, hk0⟩ : ∃ k0, L.length = k0 := ⟨_, rfl⟩
      rw [hk0] at R1
      have HK := Lib.hid hk0
      clear hrw hN HSR hnm hlk hL hk0 HG CE
      go_wp2_with fail
      refine D1.out.mono ?_; rintro e w4 ⟨o1, rfl, ho1, hb⟩
      have HB4 := Lib.hid (bcall HBR.out hb)
      obtain ⟨p1, c1, rfl, i1⟩ := ho1.form
      rw [nat_len, HK.out]
      have I1 := Lib.hid i1
      have HBR4 := Lib.hid hb
      clear D1 HBR ho1 i1 hb
      go_wp2_with fail
      refine (R1.out w4 HBR4.out).mono ?_; rintro e w5 ⟨⟨r, cr, r2, cr2, rfl, ir, ir2⟩, hb⟩
      have HB5 := Lib.hid (bcall HB4.out hb)
      have I15 := Lib.hid (I1.out.below hb)
      have SM := Lib.hid (ints_any p1 r c1 cr k0 k0 (nat L) (nat L) w5 (by rw [nat_len, HK.out]) (by rw [nat_len, HK.out]) I15.out ir true (by simp))
      clear R1 HB4 hb I1 ir ir2 HBR4
      go_wp2_with fail
      refine SM.out.mono ?_; rintro e w6 ⟨rfl, hb⟩
      have HB6 := Lib.hid (bcall HB5.out hb)
      have I16 := Lib.hid (I15.out.below hb)
      clear SM HB5 hb I15
      by_cases hz0 : i = 0
      · subst hz0
        have t5 : (((0 : Nat) : Int) == 0) = true := by decide
        go_wp2_with fail
        go_ret
        exact ⟨by first | rfl | simp, HB6.out⟩
      · have t5 : ((i : Int) == 0) = false := beq_eq_false_iff_ne.2 (by omega)
        have t5n : (i == 0) = false := beq_eq_false_iff_ne.2 hz0
        obtain ⟨hgd, hol⟩ := HOL.out (by omega)
        have RG := Lib.hid (Ring.run_good p cap i l 1 w6 HN.out (HI.out.below HB6.out) hgd)
        rw [hol, show ((1 : Nat) : Int) = 1 from rfl] at RG
        clear hgd hol
        go_wp2_with fail
        refine RG.out.mono ?_; rintro e w7 ⟨o2, rfl, ho2, hb⟩
        have HB7 := Lib.hid (bcall HB6.out hb)
        obtain ⟨p2, c2, rfl, i2⟩ := ho2.form
        rw [nat_len, HK.out]
        have SM2 := Lib.hid (ints_any p1 p2 c1 c2 k0 k0 (nat L) (nat L) w7 (by rw [nat_len, HK.out]) (by rw [nat_len, HK.out]) (I16.out.below hb) i2 true (by simp))
        clear RG HB6 ho2 i2 hb I16
        go_wp2_with fail
        refine SM2.out.mono ?_; rintro e w8 ⟨rfl, hb⟩
        have HB8 := Lib.hid (bcall HB7.out hb)
        clear SM2 HB7 hb
        go_wp2_with fail
        go_ret
        exact ⟨by first | rfl | simp, HB8.out⟩
theorem law_any (p : Option Addr) (cap n : Nat) (l : List Int) (x : Int) (w : World) (hn : n = l.length) (hi : Ints w p cap l) : Law p cap n x w := by
  by_cases h5 : 5 < n
  · exact law_long p cap n l x w hn hi h5
  · cases ha : App.within 0 8 l with
    | false => exact law_many p cap n l x w hn hi (by omega) ha
    | true =>
      by_cases hx : 1 ≤ x ∧ x ≤ 20
      · obtain ⟨c, rfl⟩ : ∃ c : Nat, x = (c : Int) := ⟨x.toNat, by omega⟩
        exact law_good p cap n l c w hn hi (by omega) ha (by omega)
      · exact law_size p cap n l x w hn hi (by omega) ha hx

theorem reads : Try.f6.params.toList.all (fun t => Try.prog.readableRec t && decide (t < Try.prog.types.size)) = true := by kernel_rfl

theorem contract (H : Type) (enc : TypeId × Value → H) (W : World) (base : Nat) (args : Array Value) (ds gs : List (DataW H)) (before : List MemPlace)
    (hval : ∀ (j : Nat) t v, Try.f6.params[j]? = some t → args[j]? = some v → Value.okWide Try.prog W .any base t v)
    (hW : DataW.Whole enc Try.prog Try.f6.params.toList Rows.topQueuesSpec.vars false W args.toList ds gs before) :
    Calls Try.prog 6 args W fun e W' => ∃ v, e = .returned v ∧ Rows.topQueuesSpec.post enc Try.prog Try.f6 false true false false W args v W' := by
  have hW' := hW
  obtain ⟨p, q, hA0, hV, rfl, hfz, hnd⟩ := hW
  have hA : DataW.TrodAll enc Try.prog W 0 (fun _ => true) true Try.f6.params.toList args.toList ds p := hA0
  have hlt := hA.lt
  rw [Try.params6] at hA hval
  obtain ⟨v0, vs0, d0, ds0, p0, q0, hargs, rfl, rfl, h0, r0⟩ := trodAll_cons hA
  obtain ⟨v1, vs1, d1, ds1, p1, q1, hvs1, rfl, rfl, h1, r1⟩ := trodAll_cons r0
  obtain ⟨hvsn, rfl, rfl⟩ := trodAll_nil r1
  simp only [hvsn, hvs1] at hargs
  obtain rfl : args = #[v0, v1] := by cases args; simp_all
  obtain ⟨rfl, rfl⟩ := trodVars_none hV
  clear hA0
  obtain ⟨p0a, cap0, l0, rfl, i0⟩ := open_intsl Try.underlying22 Try.underlying3 (by kernel_rfl) (hval 0 22 v0 rfl rfl) h0 (fun x hx => hlt x (by simp [hx]))
  obtain ⟨a1, rfl, rfl, rfl, w1⟩ := open_int Try.underlying3 (hval 1 3 v1 rfl rfl) h1
  have b1 := bounds_int w1
  exact law_post 4 laid reads rfl Try.underlying4 rfl hW' ⟨rfl, rfl, rfl⟩ (law_any p0a _ _ l0 a1 W rfl i0)

set_option maxRecDepth 100000 in
theorem lifted (os : Os) (started : os.Started) (H : Type) (enc : TypeId × Value → H) :
    ReturnsInHanded {} Try.checked os 6 .any (Rows.topQueuesSpec.pre6 enc Try.prog Try.f6 Rows.topQueuesRow.domain false) (Rows.topQueuesSpec.post enc Try.prog Try.f6 false true false false) := by
  refine returnsInHanded_of_change (C := Try.checked) own started (by kernel_rfl) Try.func6
    (ChangeSpec.witness6 (enc := enc) (C := Try.checked) false ⟨#[], #[.slice none 0 0, .int .i64 0], []⟩ 8 (by kernel_rfl) (by kernel_rfl) (by kernel_rfl) (by kernel_rfl)) ?_
  intro W base args ds gs before hval hW _ _
  exact contract H enc W base args ds gs before hval hW

theorem proved : Rows.TopQueuesSaid :=
  OpenClaim.holds_of_wide 6 Try.f6 rfl rfl rfl rfl rfl rfl rfl ⟨rfl, rfl, rfl, rfl, rfl⟩ rfl rfl rfl rfl rfl (by kernel_rfl) Try.func6 (by kernel_rfl)
    (of_decide_eq_true (by kernel_rfl)) (by unfold Func.isWrapper; first | (rw [if_pos (by decide +kernel)]; kernel_rfl) | (rw [if_neg (by decide +kernel)]; exact ⟨rfl, rfl⟩))
    (fun os started H enc _ => lifted os started H enc)
end Go.Proofs.Ytckfobkkjiiheaa.TopQueuesL
