/- Package drr: put, visit. No statement is proved here. -/
import Derived.Test.YtckfobkkjiiheaaDrrSt
import Derived.Deep.RegionLaw
namespace Go.Proofs.Ytckfobkkjiiheaa.Drr
open Go.ChangeShapes Go.WideShapes Go.ChangeAt Go.RowKit Go.Proofs.Ytckfobkkjiiheaa.Kit Go.Proofs.Ytckfobkkjiiheaa.App Go.Proofs.Ytckfobkkjiiheaa.Err Go.Proofs.Ytckfobkkjiiheaa.Cells Go.Proofs.Ytckfobkkjiiheaa.Queue
set_option linter.unusedVariables false
set_option maxRecDepth 20000
set_option maxHeartbeats 1000000

theorem put_any (g : Nat) (a c : Value) (p : Option Addr) (cap n : Nat) (l : List Int) (w : World) (base : Nat) (hb : Blk 54 w g [a, .slice none 0 0, c]) (hl : Ints w p cap l) (hn : n = l.length) (h8 : l.length ≤ 8) (hB : base ≤ w.heap.size) :
    Calls Try.prog 32 #[.pointer (some ⟨g, 1, none⟩), .slice p n cap] w fun e w' => e = .returned (.tuple #[]) ∧ ∃ v, Blk 54 w' g [a, v, c] ∧ OwnQ w' base v l ∧ w.grownBy w' (some g) ∧ ∀ k, v.ownBlock = some k → w.heap.size ≤ k := by
  have c1 := hb.cell 1 _ rfl
  have hlen := hl.len_le
  have HB := Lib.hid hb
  have HL := Lib.hid hl
  have HN := Lib.hid hn
  rw [← hn] at hlen
  clear hb hl hn
  go_enter Try.func32, Try.ntmps32
  go_wp2_with (first
    | (at_builtin
       refine wp_app rfl (.tmp 8) (.tmp 9) rfl base (.slice none 0 0) [] p cap n l rfl (OwnI.nil w base) rfl HN.out HL.out (by simp; omega) hB ?_
       intro v1 w1 ho1 hg1 hat1
       obtain ⟨p1, q1, hv1, _⟩ := ho1.form
       obtain ⟨m1, hm1⟩ : ∃ m, ([] ++ l : List Int).length = m := ⟨_, rfl⟩
       rw [hm1] at hv1
       subst hv1
       have HO1 := Lib.hid ho1
       have HG1 := Lib.hid hg1
       have HA1 := Lib.hid hat1
       have HB1 := Lib.hid (HB.out.more hg1 (by simp [Value.ownBlock]))
       have f1 := HB1.out.fz 1
       have c1 := HB1.out.cell 1 _ rfl
       clear ho1 hg1 hat1 hm1))
  refine bodyPost_end (results_none rfl _ _ _) rfl ?_
  have h2 := HA1.out
  refine ⟨rfl, _, HB1.out.set 1 _, ?_, ?_, fun k hk => ?_⟩
  · have h1 := ownI_chg (HO1.out) (S := fun k => k = g) (w' := w1.setCell ⟨g, 1, none⟩ (.slice p1 m1 q1)) (Chg.of_grown (set_grown w1 g 1 _) (fun k e => by injection e with e; exact e.symm)) (fun k hk e => by
      rcases h2 with h2 | h2
      · rw [h2] at hk; simp [Value.ownBlock] at hk
      · rw [h2] at hk; injection hk with hk; have := HB.out.lt; omega)
    exact OwnQ.of_own h1
  · refine grown_set ⟨HG1.out.os, HG1.out.tape, HG1.out.output, HG1.out.size, fun k hk hne => HG1.out.block k hk (by simp [Value.ownBlock])⟩ 1 _
  · rcases h2 with h2 | h2
    · rw [h2] at hk; simp [Value.ownBlock] at hk
    · rw [h2] at hk; injection hk with hk; omega

theorem pput_any (r s x : Nat) (q : Value) (w : World) (base : Nat) (ps : List Nat) (hb : Blk 64 w r [q]) (hq : QC layP 48 w base q ps) (hne : ∀ k, q.ownBlock = some k → k ≠ r) (hs : CI layP w (some ⟨s, 0, none⟩) 1 [x]) (h8 : ps.length ≤ 10) (hB : base ≤ w.heap.size) :
    Calls Try.prog 28 #[.pointer (some ⟨r, 0, none⟩), .slice (some ⟨s, 0, none⟩) 1 1] w fun e w' => e = .returned (.tuple #[]) ∧ ∃ q', Blk 64 w' r [q'] ∧ QC layP 48 w' base q' (ps ++ [x]) ∧ Chg (fun k => k = r ∨ q.ownBlock = some k) w w' ∧ ∀ k, q'.ownBlock = some k → q.ownBlock = some k ∨ w.heap.size ≤ k := by
  obtain ⟨p, c, rfl, hci⟩ := hq.form
  have hlen := hci.len_le
  have c0 := hb.cell 0 _ rfl
  obtain ⟨n, hn⟩ : ∃ n, ps.length = n := ⟨_, rfl⟩
  rw [hn] at c0 h8 hlen hb hne hq ⊢
  have HB := Lib.hid hb
  have HQ := Lib.hid hq
  have HS := Lib.hid hs
  have HN := Lib.hid hn
  have HE := Lib.hid hne
  clear hb hq hs hn hne hci
  go_enter Try.func28, Try.ntmps28
  go_wp2_with (first
    | (at_builtin
       refine wp_appQC tyP rfl (.tmp 8) (.tmp 9) rfl base (.slice p n c) ps (some ⟨s, 0, none⟩) 1 1 [x] rfl HQ.out rfl rfl HS.out (by rw [HN.out]; simp; omega) hB ?_
       intro v1 w1 ho1 hg1 hat1
       obtain ⟨p1, q1, hv1, _⟩ := ho1.form
       obtain ⟨m1, hm1⟩ : ∃ m, (ps ++ [x]).length = m := ⟨_, rfl⟩
       rw [hm1] at hv1
       subst hv1
       have HO1 := Lib.hid ho1
       have HG1 := Lib.hid hg1
       have HA1 := Lib.hid hat1
       have HB1 := Lib.hid (HB.out.more hg1 (fun e => HE.out r e.symm rfl))
       have f1 := HB1.out.fz 0
       have c1 := HB1.out.cell 0 _ rfl
       clear ho1 hg1 hat1 hm1))
  refine bodyPost_end (results_none rfl _ _ _) rfl ?_
  have h2 := HA1.out
  have hlt := HB.out.lt
  have hnr : ∀ k, (Value.slice p1 m1 q1).ownBlock = some k → ¬ k = r := fun k hk e => by
    rcases h2 with h2 | h2
    · rw [h2] at hk; exact HE.out k hk e
    · rw [h2] at hk; injection hk with hk; omega
  have hcs := Chg.of_grown (S := fun k => k = r) (set_grown w1 r 0 (.slice p1 m1 q1)) (fun k e => by injection e with e; exact e.symm)
  refine ⟨rfl, _, HB1.out.set 0 _, qc_chg HO1.out hcs hnr, ?_, fun k hk => ?_⟩
  · exact (Chg.of_grown HG1.out (fun k e => .inr e)).trans ⟨hcs.os, hcs.tape, hcs.output, hcs.size, fun k hk hs => hcs.block k hk (fun e => hs (.inl e))⟩
  · rcases h2 with h2 | h2
    · rw [h2] at hk; exact .inl hk
    · rw [h2] at hk; injection hk with hk; exact .inr (by omega)

/-- A queue is taken from: what the walk wants, and what becomes of it. -/
theorem FlOk.take {w : World} {base : Nat} {x : Fl} {a : Int} {l : List Int} (h : FlOk w base x) (hr : x.f.rest = a :: l) : ∃ b off cap q c1, x.v = .slice (some ⟨b, off, none⟩) (l.length + 1) cap ∧ w.cell? ⟨b, off, none⟩ = some (.int .i64 a) ∧
    (∀ W, (Instr.slice 22 (.slice (some ⟨b, off, none⟩) (l.length + 1) cap) (some (.int .i64 1)) none none).run Try.prog W = .ok (.slice q l.length c1) W) ∧ (Value.slice q l.length c1).ownBlock = x.v.ownBlock ∧
    ∀ w' : World, (∀ g, x.v.ownBlock = some g → w'.heap[g]? = w.heap[g]?) → OwnQ w' base (.slice q l.length c1) l := by
  have ho := h.own
  rw [hr] at ho
  obtain ⟨v', h1, _, h2, h3⟩ := ho.tail
  obtain ⟨q, c1, e1, _⟩ := (h3 w (fun _ _ => rfl)).form
  obtain ⟨p, cap, e2, hi⟩ := ho.form
  obtain ⟨b, off, rfl, _, hc⟩ := hi.2.2.2 (by simp)
  have hc0 := hc 0 (by simp)
  subst e1
  rw [List.length_cons] at e2
  refine ⟨b, off, cap, q, c1, e2, by simpa using hc0, by rw [e2] at h1; exact h1, h2, h3⟩
def Fl.vis (x : Fl) (v : Value) (j : Nat) (c : Int) : Fl := ⟨x.b, v, ⟨x.f.num, x.f.rest.drop j, c⟩⟩
theorem FlOk.drewN {w : World} {base : Nat} {x : Fl} (h : FlOk w base x) (n : Nat) : FlOk (w.drewN n) base x := ⟨h.blk, h.own, h.lo⟩
theorem FlOk.drew {w : World} {base : Nat} {x : Fl} (h : FlOk w base x) : FlOk w.drew base x := ⟨h.blk, h.own, h.lo⟩
/-- The counter is written. -/
theorem FlOk.cnt {w : World} {base b num : Nat} {v : Value} {l : List Int} {c : Int} (h : FlOk w base ⟨b, v, ⟨num, l, c⟩⟩) (hne : ∀ k, v.ownBlock = some k → k ≠ b) (d : Int) : FlOk (w.setCell ⟨b, 2, none⟩ (.int .i64 d)) base ⟨b, v, ⟨num, l, d⟩⟩ :=
  ⟨h.blk.set 2 (.int .i64 d), ownQ_chg (S := fun k => k = b) h.own (Chg.of_grown (set_grown w b 2 _) (fun k e => by injection e with e; exact e.symm)) hne, h.lo⟩
/-- The slice of what waits is written. -/
theorem FlOk.wait {w : World} {base b num : Nat} {v v' : Value} {l l' : List Int} {c : Int} (h : FlOk w base ⟨b, v, ⟨num, l, c⟩⟩) (hne : ∀ k, v.ownBlock = some k → k ≠ b) (ho : ∀ w' : World, (∀ g, v.ownBlock = some g → w'.heap[g]? = w.heap[g]?) → OwnQ w' base v' l') : FlOk (w.setCell ⟨b, 1, none⟩ v') base ⟨b, v', ⟨num, l', c⟩⟩ :=
  ⟨h.blk.set 1 v', ho _ (fun g hg => by
    simp only [World.setCell, Array.getElem?_modify]
    rw [if_neg (fun e => hne g hg e.symm)]), h.lo⟩
set_option maxHeartbeats 4000000 in
theorem visit_any (b num : Nat) (v0 : Value) (l : List Int) (c0 Q : Int) (w : World) (base : Nat) (h : FlOk w base ⟨b, v0, ⟨num, l, c0⟩⟩) (hne : ∀ k, v0.ownBlock = some k → k ≠ b) (ok : Ok ⟨num, l, c0⟩) (hQ : 1 ≤ Q ∧ Q ≤ 20) (k0 : Nat) (hk0 : serve l (c0 + Q) = k0) :
    Calls Try.prog 26 #[.pointer (some ⟨b, 0, none⟩), .int .i64 Q] w fun e w' => e = .returned (.int .i64 (k0 : Int)) ∧ ∃ v c, FlOk w' base ⟨b, v, ⟨num, l.drop k0, c⟩⟩ ∧ (l.drop k0 ≠ [] → c = c0 + Q - tot (l.take k0)) ∧ w.grownBy w' (some b) ∧ v.ownBlock = v0.ownBlock := by
  have up := ok.up
  have lo := ok.lo
  have len := ok.len
  have HA := Lib.hid ok.all
  have HF := Lib.hid h
  have HNE := Lib.hid hne
  have b0 := h.blk.cell 2 (.int .i64 c0) rfl
  have f0 := h.blk.fz 2
  simp only at up lo b0 f0 len
  obtain ⟨q1, q2⟩ := hQ
  have HK := Lib.hid hk0
  have hkl := serve_le l (c0 + Q)
  rw [hk0] at hkl
  have hk8 : k0 ≤ 8 := by omega
  clear h ok hk0 hne hkl len
  go_enter Try.func26, Try.ntmps26
  go_wp2_with fail
  have HF1 := Lib.hid (HF.out.cnt HNE.out (c0 + Q))
  have HG1 := Lib.hid (set_grown w b 2 (.int .i64 (c0 + Q)))
  generalize w.setCell ⟨b, 2, none⟩ (.int .i64 (c0 + Q)) = w1 at HF1 HG1 ⊢
  have HS1 := Lib.hid (show k0 = 0 + serve (l.drop 0) (c0 + Q) by rw [← HK.out]; simp)
  have hcb : 0 ≤ c0 + Q ∧ c0 + Q ≤ 40 := by omega
  obtain ⟨cc, hcc⟩ : ∃ cc, c0 + Q = cc := ⟨_, rfl⟩
  have HC1 := Lib.hid (show cc = c0 + Q - tot (l.take 0) by rw [hcc]; simp [tot])
  rw [hcc] at HF1 HS1 hcb ⊢
  clear HF b0 f0 hcc
  go_loopw [4] (fun sv wr => ∃ (j : Nat) (v : Value) (c : Int), j ≤ k0 ∧ sv = .int .i64 j ∧ 0 ≤ c ∧ c ≤ 40 ∧ Hid (FlOk wr base ⟨b, v, ⟨num, l.drop j, c⟩⟩) ∧ Hid (c = c0 + Q - tot (l.take j)) ∧ Hid (k0 = j + serve (l.drop j) c) ∧ Hid (w.grownBy wr (some b)) ∧ Hid (v.ownBlock = v0.ownBlock)) (fun sv _ => k0 - (intOf sv).toNat)
  case atStart => exact ⟨0, v0, cc, Nat.zero_le _, rfl, hcb.1, hcb.2, Lib.hid HF1.out, HC1, Lib.hid HS1.out, HG1, Lib.hid rfl⟩
  case round =>
    obtain ⟨j, v, c, hj, rfl, hc1, hc2, HF, HC, HS, HG, HV⟩ := hrel
    clear HF1 HC1 HS1 HG1
    have HNE2 := Lib.hid (show ∀ k, v.ownBlock = some k → k ≠ b from fun k hk => HNE.out k (by rw [← HV.out]; exact hk))
    have b2 := HF.out.blk.cell 2 (.int .i64 c) rfl
    have f2 := HF.out.blk.fz 2
    simp only at b2 f2
    cases hd : l.drop j with
    | nil =>
      obtain ⟨p, cap, hv, _⟩ := HF.out.own.form
      simp only [hd, List.length_nil] at hv
      subst hv
      have b1 := HF.out.blk.cell 1 (.slice p 0 cap) rfl
      simp only at b1
      have EM := Lib.hid (fun m => empty_any b 1 0 cap p (wr.drewN m) b1 true rfl)
      have HJ := Lib.hid (show j = k0 by have := HS.out; rw [hd, serve_nil] at this; omega)
      have HD := Lib.hid hd
      clear hd
      go_wp2_with fail
      go_quiet ((go_at_call 27; refine Calls.quiet_of_same (EM.out _)))
      have HF2 := Lib.hid (HF.out.drewN nq)
      have HG2 := Lib.hid (grown_drewN HG.out nq)
      clear HF HG EM b1 b2 f2
      generalize wr.drewN nq = w2 at HF2 HG2 ⊢
      have b1 := HF2.out.blk.cell 1 (.slice p 0 cap) rfl
      have b2 := HF2.out.blk.cell 2 (.int .i64 c) rfl
      have f2 := HF2.out.blk.fz 2
      simp only at b1 b2 f2
      have EM := Lib.hid (empty_any b 1 0 cap p w2 b1 true rfl)
      go_wp2_with fail
      refine EM.out.mono ?_; rintro e w3 ⟨rfl, rfl⟩
      go_wp2_with fail
      go_ret
      have hJ := HJ.out
      subst hJ
      refine ⟨rfl, _, 0, HF2.out.cnt HNE2.out 0, fun h => absurd HD.out h, grown_set HG2.out 2 _, HV.out⟩
    | cons a r =>
      obtain ⟨bb, off, cap, q, cq, hv, hca, hrun, hob, hown⟩ := HF.out.take (a := a) (l := r) hd
      simp only at hv
      have hlen := HF.out.own.form.elim (fun _ h => h.elim (fun _ h => h.2.len_le))
      simp only [hd, List.length_cons] at hlen
      obtain ⟨m, hm⟩ : ∃ m, r.length = m := ⟨_, rfl⟩
      rw [hm] at hv hrun hob hown hlen
      subst hv
      have b1 := HF.out.blk.cell 1 (.slice (some ⟨bb, off, none⟩) (m + 1) cap) rfl
      have f1 := HF.out.blk.fz 1
      simp only at b1 f1
      have ha : 1 ≤ a ∧ a ≤ 20 := HA.out a (List.mem_of_mem_drop (by rw [hd]; simp))
      have t0 : (((m + 1 : Nat) : Int) == 0) = false := by rw [beq_eq_false_iff_ne]; omega
      have EM := Lib.hid (fun i => empty_any b 1 (m + 1) cap (some ⟨bb, off, none⟩) (wr.drewN i) b1 false t0)
      have FI := Lib.hid (fun i => first_any b 1 m cap bb off a (wr.drewN i) b1 hca)
      have HD := Lib.hid hd
      by_cases hac : a ≤ c
      · have u1 : decide (a ≤ c) = true := decide_eq_true hac
        have HS2 := Lib.hid (show k0 = (j + 1) + serve r (c - a) by have := HS.out; rw [hd, serve_yes hac] at this; omega)
        have HD2 := Lib.hid (show l.drop (j + 1) = r by rw [← List.drop_drop, hd]; rfl)
        have HC2 := Lib.hid (show c - a = c0 + Q - tot (l.take (j + 1)) by rw [tot_take_add, hd, HC.out]; simp [tot]; omega)
        clear hd
        go_wp2_with fail
        go_quiet ((first | (go_at_call 27; refine Calls.quiet_of_same (EM.out _)) | (go_at_call 33; refine Calls.quiet_of_same (FI.out _))))
        have HF2 := Lib.hid (HF.out.drewN nq)
        have HG2 := Lib.hid (grown_drewN HG.out nq)
        have hca2 : (wr.drewN nq).cell? ⟨bb, off, none⟩ = some (.int .i64 a) := hca
        have HO := Lib.hid (show ∀ w' : World, (∀ g, (Value.slice (some ⟨bb, off, none⟩) (m + 1) cap).ownBlock = some g → w'.heap[g]? = (wr.drewN nq).heap[g]?) → OwnQ w' base (.slice q m cq) r from hown)
        clear HF HG EM FI b1 b2 f2 f1 hca hown
        generalize wr.drewN nq = w2 at HF2 HG2 hca2 HO ⊢
        have b1 := HF2.out.blk.cell 1 (.slice (some ⟨bb, off, none⟩) (m + 1) cap) rfl
        have b2 := HF2.out.blk.cell 2 (.int .i64 c) rfl
        have f1 := HF2.out.blk.fz 1
        have f2 := HF2.out.blk.fz 2
        simp only at b1 b2 f1 f2
        have TA := Lib.hid (take_any b 1 m cap bb off a q cq m w2.drew b1 f1 hca2 hrun)
        have HF4 := Lib.hid (HF2.out.drew.wait HNE2.out (v' := .slice q m cq) (l' := r) HO.out)
        have HF3 := Lib.hid (HF2.out.wait HNE2.out (v' := .slice q m cq) (l' := r) HO.out)
        have HG3 := Lib.hid (grown_set HG2.out 1 (.slice q m cq))
        have KB := Lib.hid (fun W (hW : W = w2.drew.setCell ⟨b, 1, none⟩ (.slice q m cq)) => (show W.cell? ⟨b, 2, none⟩ = some (.int .i64 c) ∧ W.frozen? ⟨b, 2, none⟩ = false by
          rw [hW]; exact ⟨HF4.out.blk.cell 2 (.int .i64 c) rfl, HF4.out.blk.fz 2⟩))
        have HNE3 := Lib.hid (show ∀ k, (Value.slice q m cq).ownBlock = some k → k ≠ b from fun k hk => HNE2.out k (by rw [← hob]; exact hk))
        have HV3 := Lib.hid (hob.trans HV.out)
        clear hca2 hrun hob HO
        clear HF2 HG2 b1 f1
        obtain ⟨dd, hdd⟩ : ∃ d, c - a = d := ⟨_, rfl⟩
        have hw : IntKind.i64.wrap (c - a) = dd := by rw [← hdd]; exact wrap_in (by omega)
        rw [hdd] at HS2 HC2
        have HDD := Lib.hid hdd
        have hd0 : 0 ≤ dd ∧ dd ≤ 40 := by omega
        clear hdd
        go_wp2_with fail
        go_region_law (first
          | (go_simp; go_at_call 34; refine TA.out.mono ?_; rintro e w8 ⟨rfl, hw8⟩; obtain ⟨b3, f3⟩ := KB.out w8 hw8))
        all_goals
          try rw [hw]
          have HF5 := Lib.hid (show FlOk ((w2.setCell ⟨b, 1, none⟩ (.slice q m cq)).setCell ⟨b, 2, none⟩ (.int .i64 dd)).drew base ⟨b, .slice q m cq, ⟨num, l.drop (j + 1), dd⟩⟩ by rw [HD2.out]; exact (HF3.out.cnt HNE3.out dd).drew)
          have HG5 := Lib.hid (show w.grownBy ((w2.setCell ⟨b, 1, none⟩ (.slice q m cq)).setCell ⟨b, 2, none⟩ (.int .i64 dd)).drew (some b) from grown_drew (grown_set HG3.out 2 (.int .i64 dd)))
          generalize ((w2.setCell ⟨b, 1, none⟩ (.slice q m cq)).setCell ⟨b, 2, none⟩ (.int .i64 dd)).drew = w5 at HF5 HG5 ⊢
          have hjk : j + 1 ≤ k0 := by have := HS2.out; omega
          have HS3 := Lib.hid (show k0 = (j + 1) + serve (l.drop (j + 1)) dd by rw [HD2.out]; exact HS2.out)
          clear HF3 HF4 HG3 KB TA hw8 b3 f3 hw b2 f2
          go_wp2_with fail
          go_roundw
          case rel => exact ⟨j + 1, _, dd, hjk, by first | rfl | go_num, hd0.1, hd0.2, HF5, HC2, HS3, HG5, HV3⟩
          case measure => simp [intOf]; omega
      · have u1 : decide (a ≤ c) = false := decide_eq_false hac
        have HJ := Lib.hid (show j = k0 by have := HS.out; rw [hd, serve_no hac] at this; omega)
        clear hd hrun hob hown hac
        go_wp2_with fail
        go_quiet ((first | (go_at_call 27; refine Calls.quiet_of_same (EM.out _)) | (go_at_call 33; refine Calls.quiet_of_same (FI.out _))))
        have HF2 := Lib.hid (HF.out.drewN nq)
        have HG2 := Lib.hid (grown_drewN HG.out nq)
        clear HF HG EM FI b1 b2 f2 f1 hca
        generalize wr.drewN nq = w2 at HF2 HG2 ⊢
        have b1 := HF2.out.blk.cell 1 (.slice (some ⟨bb, off, none⟩) (m + 1) cap) rfl
        simp only at b1
        have EM := Lib.hid (empty_any b 1 (m + 1) cap (some ⟨bb, off, none⟩) w2 b1 false t0)
        go_wp2_with fail
        refine EM.out.mono ?_; rintro e w3 ⟨rfl, rfl⟩
        go_wp2_with fail
        go_ret
        have hJ := HJ.out
        subst hJ
        refine ⟨rfl, _, c, HF2.out, fun h => HC.out, HG2.out, HV.out⟩
end Go.Proofs.Ytckfobkkjiiheaa.Drr
