/- Package drr: Run. No statement is proved here. -/
import Derived.Test.YtckfobkkjiiheaaDrr3
namespace Go.Proofs.Ytckfobkkjiiheaa.Drr
open Go.ChangeShapes Go.WideShapes Go.ChangeAt Go.RowKit Go.Proofs.Ytckfobkkjiiheaa.Kit Go.Proofs.Ytckfobkkjiiheaa.App Go.Proofs.Ytckfobkkjiiheaa.Err Go.Proofs.Ytckfobkkjiiheaa.Cells Go.Proofs.Ytckfobkkjiiheaa.Queue
set_option linter.unusedVariables false
set_option maxRecDepth 20000
set_option maxHeartbeats 1000000

theorem run_bad (p : Option Addr) (cap n : Nat) (qs : List (List Int)) (Q : Int) (w : World) (hn : n = qs.length) (hi : RowsI w p cap qs) (c : Int) (hc : code qs = c) (h0 : c ≠ 0) :
    Calls Try.prog 14 #[.slice p n cap, .int .i64 Q] w fun e w' => e = .returned (.tuple #[.slice none 0 0, er c]) ∧ w' = w := by
  have CB := Lib.hid (check_any p cap n qs w hn hi c hc)
  rw [er_ne h0] at CB ⊢
  clear hn hi hc h0
  go_enter Try.func14, Try.ntmps14
  go_wp2_with fail
  refine CB.out.mono ?_; rintro e w1 ⟨rfl, rfl⟩
  go_wp2_with fail
  go_ret2
  exact ⟨rfl, rfl⟩
theorem run_bad2 (p : Option Addr) (cap n : Nat) (qs : List (List Int)) (Q : Int) (w : World) (hn : n = qs.length) (hi : RowsI w p cap qs) (hc : code qs = 0) (h0 : ¬ (1 ≤ Q ∧ Q ≤ 20)) :
    Calls Try.prog 14 #[.slice p n cap, .int .i64 Q] w fun e w' => e = .returned (.tuple #[.slice none 0 0, er 1]) ∧ w' = w := by
  have CB := Lib.hid (check_any p cap n qs w hn hi 0 hc)
  have WR := Lib.hid (wrong_any Q w false (fit1_not.2 h0).symm)
  rw [er_0] at CB
  rw [er_1]
  clear hn hi hc h0
  go_enter Try.func14, Try.ntmps14
  go_wp2_with fail
  refine CB.out.mono ?_; rintro e w1 ⟨rfl, rfl⟩
  go_wp2_with fail
  refine WR.out.mono ?_; rintro e w2 ⟨rfl, rfl⟩
  go_wp2_with fail
  go_ret2
  exact ⟨rfl, rfl⟩
theorem wf_small {x : Nat} (h : x ≤ 100) : (Lit.int .i64 (x : Int)).wf = true := by
  simp [Lit.wf, IntKind.min, IntKind.max, IntKind.signed, IntKind.bits]; omega
/-- The first queue of the round is taken out of it. -/
theorem St.take {w0 w : World} {r : Nat} {q o : Value} {x : Fl} {qs : List Fl} {out : List Int} (H : St w0 w r q o [] (x :: qs) out) :
    ∃ b off cap p c1, q = .slice (some ⟨b, off, none⟩) (qs.length + 1) cap ∧ w.cell? ⟨b, off, none⟩ = some (.pointer (some ⟨x.b, 0, none⟩)) ∧
      (∀ W, (Instr.slice 62 (.slice (some ⟨b, off, none⟩) (qs.length + 1) cap) (some (.int .i64 1)) none none).run Try.prog W = .ok (.slice p qs.length c1) W) ∧ St w0 (w.setCell ⟨r, 0, none⟩ (.slice p qs.length c1)) r (.slice p qs.length c1) o [x] qs out := by
  have hq := H.que
  rw [List.map_cons] at hq
  obtain ⟨v', h1, h2, h3⟩ := hq.tail tyP elP
  obtain ⟨p, c1, e1, _⟩ := (h3 w (fun _ _ => rfl)).form
  obtain ⟨pp, cap, e2, hi⟩ := hq.form
  obtain ⟨b, off, rfl, _, hc⟩ := hi.2.2 (by simp)
  have hc0 := hc 0 x.b (by simp) 0 (.pointer (some ⟨x.b, 0, none⟩)) rfl
  rw [List.length_map] at e1
  subst e1
  rw [List.length_cons, List.length_map] at e2
  have hcs := Chg.of_grown (S := fun k => k = r ∨ q.ownBlock = some k) (set_grown w r 0 (.slice p qs.length c1)) (fun k e => by injection e with e; exact .inl e.symm)
  refine ⟨b, off, cap, p, c1, e2, by simpa using hc0, by rw [e2] at h1; exact h1, H.round hcs (H.blk.set 0 _) (h3 _ (fun g hg => ?_)) (fun k hk => .inl (by rw [← h2]; exact hk)) (fun y hy => hy) H.nd⟩
  simp only [World.setCell, Array.getElem?_modify]
  rw [if_neg (fun e => H.ne g hg e.symm)]
set_option maxHeartbeats 4000000 in
theorem run_good (p : Option Addr) (cap n : Nat) (ls : List (List Int)) (Q : Int) (w : World) (hn : n = ls.length) (hi : RowsI w p cap ls) (hg : Good ls) (hQ : 1 ≤ Q ∧ Q ≤ 20) (N : Nat) (L : List Int) (hL : Runs Q N (start ls) L) :
    Calls Try.prog 14 #[.slice p n cap, .int .i64 Q] w fun e w' => ∃ o, e = .returned (.tuple #[o, .nilIface]) ∧ OwnI w' w.heap.size o L ∧ Below w.heap.size w w' := by
  have CB := Lib.hid (check_any p cap n ls w hn hi 0 (code_zero.2 hg))
  have WR := Lib.hid (wrong_any Q w true (fit1_iff.2 hQ).symm)
  have SA := Lib.hid (start_any p cap n ls w hn hi hg)
  rw [er_0] at CB
  have HL := Lib.hid hL
  have HLL := Lib.hid (show L.length ≤ 40 by rw [(once_all hL).2.1]; exact things_le hg)
  have HOK := Lib.hid (start_ok hg)
  have HN5 := Lib.hid (show (start ls).length ≤ 5 from Nat.le_trans (startFrom_len ls 0) hg.1)
  have HNM := Lib.hid (show ∀ f ∈ start ls, f.num ≤ 5 from fun f hf => by have := (startFrom_num ls 0 f hf).2.1; have := hg.1; omega)
  have HQ := Lib.hid hQ
  clear hn hi hg hQ hL
  go_enter Try.func14, Try.ntmps14
  go_wp2_with fail
  refine CB.out.mono ?_; rintro e w1 ⟨rfl, rfl⟩
  go_wp2_with fail
  refine WR.out.mono ?_; rintro e w2 ⟨rfl, rfl⟩
  go_wp2_with fail
  refine SA.out.mono ?_; rintro e w2 ⟨rfl, q0, qs0, hst, hqs⟩
  have HS0 := Lib.hid hst
  have HR0 := Lib.hid (show Runs Q N (qs0.map Fl.f) L by rw [hqs]; exact HL.out)
  have HK0 := Lib.hid (show ∀ x ∈ qs0, Ok x.f ∧ x.f.num ≤ 5 from fun x hx => by
    have : x.f ∈ start ls := by rw [← hqs]; exact List.mem_map_of_mem hx
    exact ⟨HOK.out _ this, HNM.out _ this⟩)
  have hl0 : qs0.length ≤ 5 := by rw [len_fl hqs]; exact HN5.out
  obtain ⟨r, hr⟩ : ∃ r, w1.heap.size = r := ⟨_, rfl⟩
  rw [hr] at HS0 ⊢
  clear CB WR SA hst hqs HOK HN5 HNM HL hr
  go_wp2_with fail
  go_loopg [7] N (fun gk ov wr => ∃ (q o : Value) (qs : List Fl) (out X : List Int), o = ov ∧ qs.length ≤ 5 ∧ Hid (St w1 wr r q o [] qs out) ∧ Hid (Runs Q gk (qs.map Fl.f) X) ∧ Hid (out ++ X = L) ∧ Hid (∀ x ∈ qs, Ok x.f ∧ x.f.num ≤ 5))
  case atStart => exact ⟨q0, _, qs0, [], L, rfl, hl0, HS0, HR0, Lib.hid rfl, HK0⟩
  case round =>
    clear HS0 HR0 HK0 hl0
    obtain ⟨q, o, qs, out, X, rfl, hl, HS, HR, HX, HK⟩ := hrel
    have hout : out.length ≤ 40 := by have h1 := HLL.out; rw [← HX.out, List.length_append] at h1; omega
    cases qs with
    | nil =>
      obtain ⟨pq, cq, hq, _⟩ := HS.out.que.form
      simp only [List.map_nil, List.length_nil] at hq
      subst hq
      have b0 := HS.out.blk.cell 0 _ rfl
      have PE := Lib.hid (pempty_any r 0 0 cq pq wr b0 true rfl)
      have HE := Lib.hid (show out = L by rw [← HX.out, (runs_nil HR.out).2, List.append_nil])
      go_wp2_with fail
      refine PE.out.mono ?_; rintro e w3 ⟨rfl, rfl⟩
      go_wp2_with fail
      go_ret2
      exact ⟨_, rfl, by rw [← HE.out]; exact HS.out.own, HS.out.bel⟩
    | cons x qs =>
      obtain ⟨b, off, cap, pq, c1, hq, hca, hrun, hst⟩ := HS.out.take
      subst hq
      obtain ⟨m, hm⟩ : ∃ m, qs.length = m := ⟨_, rfl⟩
      rw [hm] at hrun hst HS
      have hml : m ≤ 4 := by simp at hl; omega
      have b0 := HS.out.blk.cell 0 _ rfl
      have f0 := HS.out.blk.fz 0
      have hlen := HS.out.que.form.elim (fun _ h => h.elim (fun _ h => h.2.len_le))
      have t0 : (((m + 1 : Nat) : Int) == 0) = false := by rw [beq_eq_false_iff_ne]; omega
      have PE := Lib.hid (pempty_any r 0 (m + 1) cap (some ⟨b, off, none⟩) wr b0 false t0)
      have PT := Lib.hid (ptake_any r 0 m cap b off x.b pq c1 m wr b0 f0 hca hrun)
      have HM := Lib.hid hm
      have HS2 := Lib.hid hst
      clear hrun hst hm
      go_wp2_with fail
      refine PE.out.mono ?_; rintro e w3 ⟨rfl, rfl⟩
      go_wp2_with fail
      refine PT.out.mono ?_; rintro e w4 ⟨rfl, hw4⟩
      rw [← hw4] at HS2
      clear PE PT hw4 HS b0 f0 hca
      obtain ⟨xb, xv, ⟨num, l, c0⟩⟩ := x
      obtain ⟨ok, hnum⟩ := HK.out _ (List.mem_cons_self)
      obtain ⟨g', Y, hg', hY, hcase⟩ := runs_cons HR.out
      have HY := Lib.hid hY
      have HCA := Lib.hid hcase
      obtain ⟨k0, hk0⟩ : ∃ k, serve l (c0 + Q) = k := ⟨_, rfl⟩
      have HK0 := Lib.hid hk0
      have hkl := serve_le l (c0 + Q)
      have hl8 := ok.len
      simp only at hl8 hnum
      have hk8 : k0 ≤ 8 := by omega
      have VI := Lib.hid (visit_any xb num xv l c0 Q w4 w1.heap.size (HS2.out.fl _ List.mem_cons_self) HS2.out.ne_fl ok HQ.out k0 hk0)
      have HOKX := Lib.hid ok
      have HQS := Lib.hid (show ∀ x ∈ qs, Ok x.f ∧ x.f.num ≤ 5 from fun x hx => HK.out x (List.mem_cons_of_mem _ hx))
      have HGK := Lib.hid hg'
      clear ok hY hcase hk0 hkl hl8 HR HK hg' t0 hl
      go_wp2_with fail
      refine VI.out.mono ?_; rintro e w5 ⟨rfl, v, c, hfl, hcnt, hgr, hvb⟩
      have HS3 := Lib.hid (HS2.out.flow (x' := ⟨xb, v, ⟨num, l.drop k0, c⟩⟩) hgr hfl rfl (fun k hk => .inl (by rw [← hvb]; exact hk)))
      have HCN := Lib.hid hcnt
      clear VI HS2 hfl hcnt hgr hvb
      go_wp2_with fail
      go_loopw [7, 28] (fun ov iv wr => ∃ (j : Nat) (o1 : Value) (out1 : List Int), j ≤ k0 ∧ iv = .int .i64 j ∧ o1 = ov ∧ Hid (St w1 wr r (.slice pq m c1) o1 [⟨xb, v, ⟨num, l.drop k0, c⟩⟩] qs out1) ∧ Hid (out1 = out ++ List.replicate j (num : Int))) (fun _ i _ => k0 - (intOf i).toNat)
      case atStart => exact ⟨0, _, out, Nat.zero_le _, rfl, rfl, HS3, Lib.hid (by simp)⟩
      case round =>
        obtain ⟨j, o1, out1, hj, rfl, rfl, HS4, HO⟩ := hrel
        clear HS3
        by_cases hjk : j < k0
        · have u1 : decide ((j : Int) < (k0 : Int)) = true := decide_eq_true (by omega)
          have b0 := (HS4.out.fl _ List.mem_cons_self).blk.cell 0 (.int .i64 (num : Int)) rfl
          simp only at b0
          have HS5 := Lib.hid (HS4.out.alloc (.cells #[.int .i64 (num : Int)] 3))
          have hlo : out1.length ≤ 60 := by rw [HO.out]; simp; omega
          go_wp2_with (first
            | (at_builtin
               refine wp_app rfl (.tmp 30) (.tmp 35) rfl w1.heap.size o1 out1 (some ⟨wr.heap.size, 0, none⟩) 1 1 [(num : Int)] rfl HS5.out.own rfl rfl (Ints.one wr (num : Int) (wf_small (by omega))) (by simp; omega) HS5.out.siz ?_
               intro o2 w6 ho2 hg2 hat2
               have HS6 := Lib.hid (HS5.out.app ho2 hg2 hat2)
               clear ho2 hg2 hat2))
          go_roundw
          case rel => exact ⟨j + 1, o2, _, by omega, by first | rfl | go_num, rfl, HS6, Lib.hid (by rw [HO.out, List.append_assoc, List.replicate_succ'])⟩
          case measure => simp [intOf]; omega
        · obtain rfl : j = k0 := by omega
          have u1 : decide ((j : Int) < (j : Int)) = false := decide_eq_false (by omega)
          have HX2 := Lib.hid (show out1 ++ Y = L by
            rw [HO.out, ← HX.out, HY.out, ← List.append_assoc]
            show _ = out ++ List.replicate (serve l (c0 + Q)) (num : Int) ++ Y
            rw [HK0.out])
          clear HO HX HY
          have hf := HS4.out.fl _ List.mem_cons_self
          obtain ⟨pv, cv, hv, _⟩ := hf.own.form
          obtain ⟨mv, hmv⟩ : ∃ n, (l.drop j).length = n := ⟨_, rfl⟩
          simp only [hmv] at hv
          subst hv
          have b1 := hf.blk.cell 1 _ rfl
          have hlenv : mv ≤ 8 := by rw [← hmv, List.length_drop]; have := HOKX.out.len; simp only at this; omega
          simp only at b1
          have HMV := Lib.hid hmv
          have HNX := Lib.hid (show (next Q ⟨num, l, c0⟩).rest = l.drop j by show l.drop (serve l (c0 + Q)) = _; rw [HK0.out])
          clear hf
          by_cases hm0 : mv = 0
          · subst hm0
            have EM := Lib.hid (fun W (h : W.cell? ⟨xb, 1, none⟩ = some (.slice pv 0 cv)) => empty_any xb 1 0 cv pv W h true rfl)
            have HRN := Lib.hid (show g' = g' ∧ Runs Q g' (qs.map Fl.f) Y by
              rcases HCA.out with ⟨h1, h2⟩ | ⟨h1, h2⟩
              · exact ⟨rfl, h2⟩
              · exact absurd (by rw [HNX.out]; exact List.eq_nil_of_length_eq_zero hmv) h1)
            clear hmv
            go_wp2_with fail
            refine (EM.out _ b1).mono ?_; rintro e w7 ⟨rfl, rfl⟩
            go_wp2_with fail
            go_roundg g'
            case measure => have := HGK.out; omega
            case rel => exact ⟨_, _, qs, out1, Y, rfl, by have := HM.out; omega, Lib.hid HS4.out.drop, Lib.hid HRN.out.2, HX2, HQS⟩
          · have t1 : ((mv : Int) == 0) = false := by rw [beq_eq_false_iff_ne]; omega
            have EM := Lib.hid (empty_any xb 1 mv cv pv wr b1 false t1)
            have hne : (next Q ⟨num, l, c0⟩).rest ≠ [] := by rw [HNX.out]; intro h; rw [h] at hmv; exact hm0 hmv.symm
            have HRN := Lib.hid (show Runs Q g' (qs.map Fl.f ++ [next Q ⟨num, l, c0⟩]) Y by
              rcases HCA.out with ⟨h1, h2⟩ | ⟨h1, h2⟩
              · exact absurd h1 hne
              · exact h2)
            have HFX := Lib.hid (show (⟨num, l.drop j, c⟩ : F) = next Q ⟨num, l, c0⟩ by
              have h1 := HCN.out (by rw [← HNX.out]; exact hne)
              unfold next srv
              simp only
              rw [HK0.out, h1])
            have HOK2 := Lib.hid (HOKX.out.next (by have := HQ.out.1; omega) hne)
            have HS5 := Lib.hid (HS4.out.alloc (.cells #[.pointer (some ⟨xb, 0, none⟩)] 48))
            have PP := Lib.hid (pput_any r wr.heap.size xb (.slice pq m c1) (wr.alloc (.cells #[.pointer (some ⟨xb, 0, none⟩)] 48)) w1.heap.size (qs.map Fl.b) HS5.out.blk HS5.out.que HS5.out.ne (CI.one layP wr xb _) (by rw [List.length_map, HM.out]; omega) HS5.out.siz)
            clear hm0 hne hmv
            go_wp2_with fail
            refine EM.out.mono ?_; rintro e w7 ⟨rfl, rfl⟩
            go_wp2_with fail
            refine PP.out.mono ?_; rintro e w8 ⟨rfl, q', hb5, hq5, hc5, hk5⟩
            have HS6 := Lib.hid (HS5.out.round (ex' := []) (qs' := qs ++ [⟨xb, .slice pv mv cv, ⟨num, l.drop j, c⟩⟩]) hc5 hb5 (by rw [List.map_append]; exact hq5) hk5 (fun y hy => by
              simp at hy ⊢
              exact hy.symm) (by
              rw [List.nil_append, List.map_append]
              exact nodup_rot HS5.out.nd))
            clear PP EM HS5 HS4 hb5 hq5 hc5 hk5
            go_wp2_with fail
            go_roundg g'
            case measure => have := HGK.out; omega
            case rel => exact ⟨q', _, _, out1, Y, rfl, by have := HM.out; simp; omega, HS6, Lib.hid (by rw [List.map_append]; show Runs Q g' (_ ++ [(⟨num, l.drop j, c⟩ : F)]) Y; rw [HFX.out]; exact HRN.out), HX2, Lib.hid (fun y hy => by
              rcases List.mem_append.1 hy with hy | hy
              · exact HQS.out y hy
              · obtain rfl := List.mem_singleton.1 hy
                exact ⟨by show Ok (⟨num, l.drop j, c⟩ : F); rw [HFX.out]; exact HOK2.out, hnum⟩)⟩
/-- What Run finds wrong. -/
def codeQ (ls : List (List Int)) (Q : Int) : Int := if code ls = 0 then (if 1 ≤ Q ∧ Q ≤ 20 then 0 else 1) else code ls
theorem codeQ_zero {ls : List (List Int)} {Q : Int} : codeQ ls Q = 0 ↔ Good ls ∧ 1 ≤ Q ∧ Q ≤ 20 := by
  unfold codeQ
  rw [← code_zero]
  by_cases h : code ls = 0
  · rw [if_pos h]
    by_cases h2 : 1 ≤ Q ∧ Q ≤ 20
    · rw [if_pos h2]; simp [h, h2]
    · rw [if_neg h2]; simp [h2]
  · rw [if_neg h]; simp [h]
theorem runs_of {ls : List (List Int)} {Q : Int} (hg : Good ls) (hQ : 1 ≤ Q) : ∃ N L, Runs Q N (start ls) L := runs_some hQ _ _ (Nat.le_refl _) (start_ok hg)
theorem run_any (p : Option Addr) (cap n : Nat) (ls : List (List Int)) (Q : Int) (w : World) (hn : n = ls.length) (hi : RowsI w p cap ls) (c : Int) (hc : codeQ ls Q = c) (u : List Int) (h0 : c = 0 → ∃ N, Runs Q N (start ls) u) (h1 : c ≠ 0 → u = []) (k : Nat) (hk : u.length = k) :
    Calls Try.prog 14 #[.slice p n cap, .int .i64 Q] w fun e w' => (∃ r cr, e = .returned (.tuple #[.slice r k cr, er c]) ∧ Ints w' r cr u) ∧ Below w.heap.size w w' := by
  by_cases hz : c = 0
  · subst hz
    obtain ⟨hg, hQ⟩ := codeQ_zero.1 hc
    obtain ⟨N, hN⟩ := h0 rfl
    refine (run_good p cap n ls Q w hn hi hg hQ N u hN).mono ?_
    rintro e w' ⟨o, rfl, ho, hb⟩
    obtain ⟨r, cr, rfl, hI⟩ := ho.form
    rw [hk, er_0]
    exact ⟨⟨r, cr, rfl, hI⟩, hb⟩
  · have hu := h1 hz
    subst hu
    obtain rfl : k = 0 := hk.symm
    unfold codeQ at hc
    by_cases hcd : code ls = 0
    · rw [if_pos hcd] at hc
      by_cases hQ : 1 ≤ Q ∧ Q ≤ 20
      · rw [if_pos hQ] at hc; exact absurd hc.symm hz
      · rw [if_neg hQ] at hc
        subst hc
        refine (run_bad2 p cap n ls Q w hn hi hcd hQ).mono ?_
        rintro e w' ⟨rfl, rfl⟩
        exact ⟨⟨none, 0, rfl, Ints.nil _⟩, brefl _⟩
    · rw [if_neg hcd] at hc
      refine (run_bad p cap n ls Q w hn hi c hc hz).mono ?_
      rintro e w' ⟨rfl, rfl⟩
      exact ⟨⟨none, 0, rfl, Ints.nil _⟩, brefl _⟩
end Go.Proofs.Ytckfobkkjiiheaa.Drr
