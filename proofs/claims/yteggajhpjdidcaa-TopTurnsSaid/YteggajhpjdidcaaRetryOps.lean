/- Package retry: Run. No statement is proved here. -/
import Derived.Test.YteggajhpjdidcaaRetryMem
import Derived.Test.YteggajhpjdidcaaIntsFrom
import Derived.StillTailTactics
namespace Go.Proofs.Yteggajhpjdidcaa.Retry
open Go.ChangeShapes Go.WideShapes Go.ChangeAt Go.RowKit Go.Proofs.Yteggajhpjdidcaa.Kit Go.Proofs.Yteggajhpjdidcaa.App Go.Proofs.Yteggajhpjdidcaa.Cells Go.Proofs.Yteggajhpjdidcaa.Err Go.Proofs.Yteggajhpjdidcaa.RetryMath
set_option linter.unusedVariables false
set_option maxRecDepth 20000
set_option maxHeartbeats 4000000

theorem run_bad (x : Int) (p : Option Addr) (cap k : Nat) (l : List Int) (w : World) (hk : k = l.length) (hi : Ints w p cap l) (c : Int) (hc : code x l = c) (h0 : c ≠ 0) :
    Calls Try.prog 9 #[.int .i64 x, .slice p k cap] w fun e w' => e = .returned (.tuple #[.slice none 0 0, .slice none 0 0, er c]) ∧ Below w.heap.size w w' := by
  have CK := Lib.hid (check_any x p cap k l w hk hi c hc)
  rw [er_ne h0] at CK ⊢
  clear hk hi hc h0
  go_enter Try.func9, Try.ntmps9
  go_wp2_with fail
  refine CK.out.mono ?_; rintro e w1 ⟨rfl, hb⟩
  have HB := Lib.hid hb
  clear CK hb
  go_wp2_with fail
  go_ret3
  exact ⟨rfl, HB.out⟩
theorem cast_nats {n : Nat} {l : List Int} (g : Good n l) : cast (nats l) = l ∧ ∀ x ∈ nats l, x ≤ 1000 := by
  have h : ∀ x ∈ l, 0 ≤ x ∧ x ≤ 1000 := fun x hx => by
    obtain ⟨k, hk, rfl⟩ := List.mem_iff_getElem.1 hx
    have := g.all k hk
    rwa [List.getElem?_eq_getElem hk] at this
  refine ⟨?_, fun x hx => ?_⟩
  · unfold cast nats
    rw [List.map_map]
    conv => rhs; rw [← List.map_id l]
    refine List.map_congr_left fun x hx => ?_
    have := h x hx
    show ((x.toNat : Nat) : Int) = x
    omega
  · obtain ⟨y, hy, rfl⟩ := List.mem_map.1 hx
    have := h y hy
    omega
theorem who_is (n : Nat) (l : List Int) : who n l = cast ((sent n l).map Prod.fst) := by unfold who cast; rw [List.map_map]; rfl
theorem slots_is (n : Nat) (l : List Int) : Retry.slots n l = cast ((sent n l).map Prod.snd) := by unfold Retry.slots cast; rw [List.map_map]; rfl
/-- What holds ahead of slot s: c are left, N picks; a, m: when each sends next, and how often it has met. -/
structure Ahead (n s c : Nat) (a m : Nat → Nat) (N : List Nat) (out all : List (Nat × Nat)) : Prop where
  len : c = (up n a s).length
  cn : c ≤ n
  met : ∀ i, m i ≤ 5 * s
  late : ∀ i, a i ≤ s + 1024
  small : ∀ x ∈ N, x ≤ 1000
  eq : out ++ run n (1001 - s) s (n - c) a m N = all
theorem Ahead.start {n : Nat} {l : List Int} (g : Good n l) : Ahead n 0 n (fun _ => 0) (fun _ => 0) (nats l) [] (sent n l) :=
  ⟨by rw [up_zero (fun _ => rfl), List.length_range], Nat.le_refl _, fun _ => Nat.zero_le _, fun _ => Nat.zero_le _, (cast_nats g).2, by rw [Nat.sub_self]; rfl⟩
variable {n s c : Nat} {a m : Nat → Nat} {N : List Nat} {out all : List (Nat × Nat)}
theorem Ahead.last (H : Ahead n s c a m N out all) (h : ¬ s ≤ 1000) : out = all := by
  rw [← H.eq, show 1001 - s = 0 by omega]
  simp [run]
theorem Ahead.gone (H : Ahead n s c a m N out all) (h : c = 0) : out = all := by
  rw [← H.eq, h, Nat.sub_zero, run_stop]
  simp
theorem Ahead.go (H : Ahead n s c a m N out all) (h : s ≤ 1000) (h0 : 0 < c) : ∃ k, 1001 - s = k + 1 ∧ k = 1001 - (s + 1) ∧ n - c ≠ n := ⟨1000 - s, by omega, by omega, by have := H.cn; omega⟩
theorem Ahead.stop (H : Ahead n s c a m N out all) (h : s ≤ 1000) (h0 : 0 < c) (h1 : (now n a s).length ≠ 1) (h2 : N.length < (now n a s).length) : out = all := by
  obtain ⟨k, e, _, _⟩ := H.go h h0
  rw [← H.eq, e, run_out h1 h2]
  simp
theorem Ahead.one (H : Ahead n s c a m N out all) (h : s ≤ 1000) (h0 : 0 < c) {i p : Nat} (h1 : now n a s = [i]) (h2 : (up n a s)[p]? = some i) {q : Nat} (hq : q + 1 = c) : Ahead n (s + 1) q a m N (out ++ [(i, s)]) all := by
  obtain ⟨k, e, e2, hc⟩ := H.go h h0
  have hcn := H.cn
  refine ⟨?_, by omega, fun j => by have := H.met j; omega, fun j => by have := H.late j; omega, H.small, ?_⟩
  · have h3 : (up n a (s + 1)).length + 1 = (up n a s).length := by
      rw [up_one h1, ← cut_one up_nodup h2, List.length_append, List.length_take, List.length_drop]
      have := (List.getElem?_eq_some_iff.1 h2).1
      omega
    have := H.len
    omega
  · have h3 := H.eq
    rw [e, run_one hc h1] at h3
    rw [← h3, ← e2, show n - q = n - c + 1 by omega, List.append_assoc]
    rfl
theorem Ahead.hit (H : Ahead n s c a m N out all) (h : s ≤ 1000) (h0 : 0 < c) (h1 : (now n a s).length ≠ 1) (h2 : (now n a s).length ≤ N.length) (hn : n ≤ 5) :
    Ahead n (s + 1) c (aat n s a m N (now n a s).length) (mat n s a m N (now n a s).length) (N.drop (now n a s).length) out all := by
  obtain ⟨k, e, e2, hc⟩ := H.go h h0
  have hnow : (now n a s).length ≤ n := now_len
  refine ⟨by rw [up_hit h2]; exact H.len, H.cn, fun j => ?_, ?_, fun x hx => H.small x (List.mem_of_mem_drop hx), ?_⟩
  · have := mat_le (n := n) (s := s) (a := a) H.met (Nat.le_refl _) h2 j
    omega
  · have : ∀ k, k ≤ (now n a s).length → k ≤ N.length → ∀ j, aat n s a m N k j ≤ s + 1 + 1024 := by
      intro k
      induction k with
      | zero => intro _ _ j; rw [at_zero.1]; have := H.late j; omega
      | succ k ih =>
        intro h3 h4 j
        rw [(at_next (List.getElem?_eq_getElem (by omega : k < (now n a s).length)) (List.getElem?_eq_getElem (by omega : k < N.length))).1]
        unfold put
        split
        · have h5 := Nat.mod_lt (N[k]'(by omega)) (room_pos (mat n s a m N k (now n a s)[k] + 1))
          have h6 := room_le (mat n s a m N k (now n a s)[k] + 1)
          omega
        · exact ih (by omega) (by omega) j
    exact this _ (Nat.le_refl _) h2
  · have h3 := H.eq
    rw [e, run_hit hc h1 h2, at_all h2] at h3
    rw [← h3, ← e2]
theorem Mem.ends {w0 w : World} {g n c mm : Nat} {u v x : Value} {C : List Int} {L : List S} (H : Mem w0 w g n c u v x (cast (out.map Prod.fst)) (cast (out.map Prod.snd)) C L) (he : out = all) (hm : all.length = mm) : ∃ r cr r2 cr2, u = .slice r mm cr ∧ v = .slice r2 mm cr2 ∧ Ints w r cr (cast (all.map Prod.fst)) ∧ Ints w r2 cr2 (cast (all.map Prod.snd)) := by
  subst he
  subst hm
  obtain ⟨r, cr, e1, i1⟩ := H.t.o1.form
  obtain ⟨r2, cr2, e2, i2⟩ := H.t.o2.form
  rw [cast_len, List.length_map] at e1 e2
  exact ⟨r, cr, r2, cr2, e1, e2, i1, i2⟩

theorem run_good (n : Nat) (p : Option Addr) (cap k : Nat) (l : List Int) (w : World) (hk : k = l.length) (hi : Ints w p cap l) (g : Good n l) (m : Nat) (hm : (sent n l).length = m) :
    Calls Try.prog 9 #[.int .i64 (n : Int), .slice p k cap] w fun e w' => (∃ r cr r2 cr2, e = .returned (.tuple #[.slice r m cr, .slice r2 m cr2, .nilIface]) ∧ Ints w' r cr (who n l) ∧ Ints w' r2 cr2 (Retry.slots n l)) ∧ Below w.heap.size w w' := by
  have hlen := hi.len_le
  rw [← hk] at hlen
  have CK := Lib.hid (check_any n p cap k l w hk hi 0 (code_good g))
  rw [er_0] at CK
  have n1 := g.lo
  have n5 := g.up
  have HA0 := Lib.hid (Ahead.start g)
  have HN0 := Lib.hid (show k = (nats l).length from by unfold nats; rw [List.length_map]; exact hk)
  have HI0 := Lib.hid (show Ints w p cap (cast (nats l)) from by rw [(cast_nats g).1]; exact hi)
  rw [who_is, slots_is]
  have hle := sent_len (n := n) (l := l)
  generalize sent n l = ALL at HA0 hm hle ⊢
  have HLE := Lib.hid (show ALL.length ≤ 5 by omega)
  clear hle
  have HM := Lib.hid hm
  have ST := Lib.hid (fun W => stations_any n W n1 n5)
  generalize nats l = N0 at HA0 HN0 HI0
  clear hk hi g hm
  go_enter Try.func9, Try.ntmps9
  go_wp2_with fail
  refine CK.out.mono ?_; rintro e w1 ⟨rfl, hb⟩
  have HB := Lib.hid hb
  clear CK hb
  go_wp2_with fail
  refine (ST.out w1).mono ?_; rintro e w2 ⟨rfl, ho, hb⟩
  have HB2 := Lib.hid (bcall HB.out hb)
  have HM0 := Lib.hid (Mem.start HB2.out (OC.mono ho HB.out.size))
  generalize w1.heap.size = g at HM0 ⊢
  clear ST HB hb ho
  go_wp2_with fail
  go_loopw [1, 4, 5, 8, 9] (fun pv uv vv lv sv wr => ∃ (s c : Nat) (u v : Value) (pp : Option Addr) (kk cc : Nat) (N : List Nat) (a m : Nat → Nat) (out : List (Nat × Nat)), pv = .slice pp kk cc ∧ u = uv ∧ v = vv ∧ lv = .slice (some ⟨g, 0, none⟩) c n ∧ sv = .int .i64 (s : Int) ∧ s ≤ 1001 ∧ kk ≤ 9223372036854775807 ∧ c ≤ n ∧ Hid (kk = N.length) ∧ Hid (Ints w pp cc (cast N)) ∧ Hid (Mem w wr g n c u v (.slice none 0 0) (cast (out.map Prod.fst)) (cast (out.map Prod.snd)) [] (st n a m s)) ∧ Hid (Ahead n s c a m N out ALL)) (fun _ _ _ _ sv _ => 1001 - (intOf sv).toNat)
  case atStart => exact ⟨0, n, _, _, p, k, cap, N0, _, _, [], rfl, rfl, rfl, rfl, rfl, by omega, hlen, Nat.le_refl _, HN0, HI0, HM0, HA0⟩
  case round =>
    clear HA0 HN0 HI0 HM0 HB2
    obtain ⟨s, c, u, v, pp, kk, cc, N, a, m2, out, rfl, rfl, rfl, rfl, rfl, hs, hkk, hcn, HN, HI, HME, HAH⟩ := hrel
    by_cases hs0 : s ≤ 1000
    · have t0 : decide ((s : Int) ≤ 1000) = true := decide_eq_true (by omega)
      by_cases hc0 : 0 < c
      · have t1 : decide ((c : Int) > 0) = true := decide_eq_true (by omega)
        have DU := Lib.hid (due_any _ g c n (st n a m2 s) wr HME.out.row (by omega) (fun j x hx => by
          unfold st at hx
          rw [List.getElem?_map] at hx
          obtain ⟨i, _, rfl⟩ := Option.map_eq_some_iff.1 hx
          have := HAH.out.late i
          show a i - s ≤ 5000
          omega))
        go_wp2_with fail
        refine DU.out.mono ?_; rintro e w3 ⟨⟨x, rfl, hx, ho⟩, hg3⟩
        rw [st_dec] at ho
        have HM3 := Lib.hid (HME.out.take hg3 ho hx)
        have HLN := Lib.hid (show (pl (st n a m2 s) c).length = (now n a s).length from by rw [HAH.out.len]; exact due_len)
        have HDA := Lib.hid (show ∀ k j, (pl (st n a m2 s) c)[k]? = some j → ∃ i, (up n a s)[j]? = some i ∧ (now n a s)[k]? = some i from by rw [HAH.out.len]; exact fun k j h => due_at h)
        clear DU HME hx ho hg3
        generalize pl (st n a m2 s) c = T at HM3 HLN HDA
        by_cases hq1 : (now n a s).length = 1
        · obtain ⟨p1, hT⟩ := List.length_eq_one_iff.1 (HLN.out.trans hq1)
          obtain ⟨i, hup, hno⟩ := HDA.out 0 p1 (by rw [hT]; rfl)
          have HNO := Lib.hid (show now n a s = [i] from by
            obtain ⟨y, hy⟩ := List.length_eq_one_iff.1 hq1
            rw [hy] at hno ⊢
            simp at hno
            rw [hno])
          have HUP := Lib.hid hup
          have hpc : p1 < c := by rw [HAH.out.len]; exact (List.getElem?_eq_some_iff.1 hup).1
          have hin : i < n := (up_mem.1 (List.mem_of_getElem? hup)).1
          subst hT
          obtain ⟨b, cs, hxe, _, _, hcs, _⟩ := own_pos HM3.out.t.o3 (by simp [cast])
          have hxe : x = .slice (some ⟨b, 0, none⟩) 1 cs := hxe
          have hcs : 1 ≤ cs := by simpa [cast] using hcs
          subst hxe
          have cb : w3.cell? ⟨b, 0, none⟩ = some (.int .i64 (p1 : Int)) := own_cell HM3.out.t.o3 0 (by simp [cast])
          have ca : w3.cell? ⟨g, p1 * 3, none⟩ = some (.int .i64 (i : Int)) := (os_at HM3.out.row (by rw [List.length_map]; exact HAH.out.len) p1 _ (by rw [List.getElem?_map, hup]; rfl)).1
          have HM3 := Lib.hid (show Mem w w3 g n c u v (.slice (some ⟨b, 0, none⟩) 1 cs) (cast (out.map Prod.fst)) (cast (out.map Prod.snd)) [(p1 : Int)] ((up n a s).map (row a m2 (s + 1))) from HM3.out)
          have u1 : (p1 : Int) < (c : Int) := by omega
          obtain ⟨q, hq⟩ : ∃ q, q + 1 = c := ⟨c - 1, by omega⟩
          have HQ := Lib.hid hq
          have HOL := Lib.hid (show out.length ≤ 5 from by
            have h := HAH.out.eq
            have h2 := HLE.out
            rw [← h, List.length_append] at h2
            omega)
          have HM4 := Lib.hid (HM3.out.alloc (.cells #[.int .i64 (i : Int)] 3))
          clear hup hno hq1 hq HLN HDA
          go_wp2_with (first
            | (at_builtin
               refine wp_app rfl (.tmp 35) (.tmp 43) rfl w.heap.size u (cast (out.map Prod.fst)) (some ⟨w3.heap.size, 0, none⟩) 1 1 [(i : Int)] rfl HM4.out.t.o1 rfl rfl (Ints.one w3 (i : Int) (wf_small (by omega))) (by have := HOL.out; simp [cast]; omega) HM4.out.t.bel.size ?_
               intro u5 w5 ho5 hg5 hat5
               have HM5 := Lib.hid (HM4.out.app1 ho5 hg5 hat5)
               have HM6 := Lib.hid (HM5.out.alloc (.cells #[.int .i64 (s : Int)] 3))
               clear ho5 hg5 hat5)
            | (at_builtin
               refine wp_app rfl (.tmp 45) (.tmp 47) rfl w.heap.size v (cast (out.map Prod.snd)) (some ⟨w5.heap.size, 0, none⟩) 1 1 [(s : Int)] rfl HM6.out.t.o2 rfl rfl (Ints.one w5 (s : Int) (wf_small (by omega))) (by have := HOL.out; simp [cast]; omega) HM6.out.t.bel.size ?_
               intro v7 w7 ho7 hg7 hat7
               have HM7 := Lib.hid (HM6.out.app2 ho7 hg7 hat7)
               have cb7 : w7.cell? ⟨b, 0, none⟩ = some (.int .i64 (p1 : Int)) := own_cell HM7.out.t.o3 0 (by simp)
               clear ho7 hg7 hat7))
          go_still_tail 8, (by kernel_rfl)
          change wpList _ _ _ _ _ w7.drew
          go_wp2_with fail
          refine (cut_any _ g c n p1 _ _ HM7.out.drew.row (by omega) q HQ.out).mono ?_
          rintro e w9 ⟨rfl, ho9, hg9⟩
          rw [st_one HNO.out HUP.out] at ho9
          have HM9 := Lib.hid ((HM7.out.drew.turn hg9 ho9).free)
          have HA9 := Lib.hid (HAH.out.one hs0 hc0 HNO.out HUP.out HQ.out)
          clear ho9 hg9
          go_wp2_with fail
          go_roundw
          case rel => exact ⟨s + 1, q, u5, v7, pp, kk, cc, N, a, m2, out ++ [(i, s)], rfl, rfl, rfl, rfl, by first | rfl | go_num, by omega, hkk, by have := HQ.out; omega, HN, HI, Lib.hid (by rw [List.map_append, List.map_append, cast_app, cast_app]; exact HM9.out), HA9⟩
          case measure => simp [intOf]; omega
        · obtain ⟨q, hq⟩ : ∃ q, (now n a s).length = q := ⟨_, rfl⟩
          have hq5 : q ≤ 5 := by have : (now n a s).length ≤ n := now_len; omega
          obtain ⟨px, cx, hxe, _⟩ := HM3.out.t.o3.form
          rw [cast_len, HLN.out, hq] at hxe
          subst hxe
          have HM3 := Lib.hid (show Mem w w3 g n c u v (.slice px q cx) (cast (out.map Prod.fst)) (cast (out.map Prod.snd)) (cast T) ((up n a s).map (row (aat n s a m2 N 0) (mat n s a m2 N 0) (s + 1))) from by
            rw [(at_zero (n := n) (s := s) (a := a) (m := m2) (l := N)).1, (at_zero (n := n) (s := s) (a := a) (m := m2) (l := N)).2]; exact HM3.out)
          have t2 : ((q : Int) == 1) = false := by rw [beq_eq_false_iff_ne]; omega
          have HQ := Lib.hid hq
          have HQ1 := Lib.hid hq1
          clear hq hq1
          by_cases hqk : kk < q
          · have t3 : decide ((q : Int) > (kk : Int)) = true := decide_eq_true (by omega)
            have t3n : decide (kk < q) = true := decide_eq_true hqk
            have HE := Lib.hid (HAH.out.stop hs0 hc0 HQ1.out (by rw [HQ.out, ← HN.out]; exact hqk))
            go_wp2_with fail
            go_ret3
            obtain ⟨r, cr, r2, cr2, rfl, rfl, i1, i2⟩ := HM3.out.ends HE.out HM.out
            exact ⟨⟨r, cr, r2, cr2, rfl, i1, i2⟩, HM3.out.t.bel⟩
          · have t3 : decide ((q : Int) > (kk : Int)) = false := decide_eq_false (by omega)
            have t3n : decide (kk < q) = false := decide_eq_false hqk
            go_wp2_with fail
            go_loopw [65] (fun jv wq => ∃ j : Nat, j ≤ q ∧ jv = .int .i64 (j : Int) ∧ Hid (Mem w wq g n c u v (.slice px q cx) (cast (out.map Prod.fst)) (cast (out.map Prod.snd)) (cast T) ((up n a s).map (row (aat n s a m2 N j) (mat n s a m2 N j) (s + 1))))) (fun jv _ => q - (intOf jv).toNat)
            case atStart => exact ⟨0, Nat.zero_le _, rfl, HM3⟩
            case round =>
              clear HM3
              obtain ⟨j, hj, rfl, HMJ⟩ := hrel
              by_cases hjq : j < q
              · have u1 : decide ((j : Int) < (q : Int)) = true := decide_eq_true (by omega)
                have hjN : j < N.length := by rw [← HN.out]; omega
                have hTl : T.length = q := HLN.out.trans HQ.out
                obtain ⟨pj, hpj⟩ : ∃ pj, T[j]? = some pj := ⟨_, List.getElem?_eq_getElem (by omega)⟩
                obtain ⟨i, hup, hno⟩ := HDA.out j pj hpj
                obtain ⟨y, hy⟩ : ∃ y, N[j]? = some y := ⟨_, List.getElem?_eq_getElem hjN⟩
                have hy1 : y ≤ 1000 := HAH.out.small y (List.mem_of_getElem? hy)
                have hpc : pj < c := by rw [HAH.out.len]; exact (List.getElem?_eq_some_iff.1 hup).1
                have u2 : (pj : Int) < (c : Int) := by omega
                have u3 : (j : Int) < (kk : Int) := by omega
                obtain ⟨b, cs, hxe, _, _, hcs, _⟩ := own_pos HMJ.out.t.o3 (by rw [cast_len]; omega)
                injection hxe with hxe1 hxe2 hxe3
                subst hxe1
                have cb := own_cell HMJ.out.t.o3 j (by rw [cast_len]; omega)
                rw [cast_get hpj] at cb
                have hiw := HI.out.below HMJ.out.t.bel
                obtain ⟨pb, po, rfl, _, hpc2⟩ := hiw.2.2.2 (by rw [cast_len]; omega)
                have cp := hpc2 j (by rw [cast_len]; exact hjN)
                rw [cast_get hy] at cp
                have hrow : ((up n a s).map (row (aat n s a m2 N j) (mat n s a m2 N j) (s + 1)))[pj]? = some (row (aat n s a m2 N j) (mat n s a m2 N j) (s + 1) i) := by rw [List.getElem?_map, hup]; rfl
                have hll : c = ((up n a s).map (row (aat n s a m2 N j) (mat n s a m2 N j) (s + 1))).length := by rw [List.length_map]; exact HAH.out.len
                obtain ⟨_, c1, c2, hf⟩ := os_at HMJ.out.row hll pj _ hrow
                have hmle := mat_le (n := n) (s := s) (a := a) (l := N) HAH.out.met (show j ≤ (now n a s).length by rw [HQ.out]; omega) (by omega) i
                have MT := Lib.hid (meet_any g (pj * 3) (mat n s a m2 N j i) y (aat n s a m2 N j i - (s + 1)) wr.drew (by omega) hy1 c1 c2 hf)
                have HNX := Lib.hid (show ∀ W : World, OS W w.heap.size (.slice (some ⟨g, 0, none⟩) c n) ((up n a s).map (row (aat n s a m2 N j) (mat n s a m2 N j) (s + 1))) → OS ((W.setCell ⟨g, pj * 3 + 1, none⟩ (.int .i64 ((mat n s a m2 N j i + 1 : Nat) : Int))).setCell ⟨g, pj * 3 + 2, none⟩ (.int .i64 ((y % room (mat n s a m2 N j i + 1) : Nat) : Int))) w.heap.size (.slice (some ⟨g, 0, none⟩) c n) ((up n a s).map (row (aat n s a m2 N (j + 1)) (mat n s a m2 N (j + 1)) (s + 1))) from fun W hW => by
                  have h1 := os_set 1 (.int .i64 ((mat n s a m2 N j i + 1 : Nat) : Int)) (by decide) hW hll pj _ (i, mat n s a m2 N j i + 1, aat n s a m2 N j i - (s + 1)) hrow rfl
                  have h2 := os_set 2 (.int .i64 ((y % room (mat n s a m2 N j i + 1) : Nat) : Int)) (by decide) h1 (by rw [List.length_set]; exact hll) pj (i, mat n s a m2 N j i + 1, aat n s a m2 N j i - (s + 1)) (i, mat n s a m2 N j i + 1, y % room (mat n s a m2 N j i + 1)) (by rw [List.getElem?_set, if_pos rfl, if_pos (by omega)]) rfl
                  rw [List.set_set, row_next hup hno hy] at h2
                  exact h2)
                have hq3 : q ≤ cx := by rw [cast_len] at hcs; omega
                clear hjN hTl hpj hup hno hy hpc hxe2 hxe3 hcs hiw hpc2 hrow hll c1 c2 hf hmle
                go_wp2_with fail
                go_still_tail 7, (by kernel_rfl)
                change wpList _ _ _ _ _ wr.drew
                go_wp2_with fail
                refine MT.out.mono ?_
                rintro e w9 ⟨rfl, hw9⟩
                have HM9 := Lib.hid (show Mem w w9 g n c u v (.slice (some ⟨b, 0, none⟩) q cx) (cast (out.map Prod.fst)) (cast (out.map Prod.snd)) (cast T) ((up n a s).map (row (aat n s a m2 N (j + 1)) (mat n s a m2 N (j + 1)) (s + 1))) from by
                  rw [hw9]
                  exact HMJ.out.drew.turn (grown_set (set_grown _ g _ _) _ _) (HNX.out _ HMJ.out.drew.row))
                clear hw9 MT HNX
                go_wp2_with fail
                go_roundw
                case rel => exact ⟨j + 1, by omega, by first | rfl | go_num, HM9⟩
                case measure => simp [intOf]; omega
              · obtain rfl : j = q := by omega
                have u1 : decide ((j : Int) < (j : Int)) = false := decide_eq_false (by omega)
                obtain ⟨p2, c2, e1, e2, HI2⟩ := ints_from HI.out (by rw [cast_len]; exact HN.out) j (by omega) (kk - j) rfl
                have HI3 := Lib.hid (show Ints w p2 c2 (cast (N.drop j)) from by
                  have := HI2 w (brefl w)
                  unfold cast at this ⊢
                  rw [List.map_drop]
                  exact this)
                have hqn : (now n a s).length ≤ N.length := by rw [HQ.out, ← HN.out]; omega
                have HA9 := Lib.hid (HAH.out.hit hs0 hc0 HQ1.out hqn n5)
                rw [HQ.out] at HA9
                have HM9 := Lib.hid (show Mem w wr g n c u v (.slice none 0 0) (cast (out.map Prod.fst)) (cast (out.map Prod.snd)) [] (st n (aat n s a m2 N j) (mat n s a m2 N j) (s + 1)) from by
                  have h1 := st_hit (m := m2) hqn
                  rw [HQ.out] at h1
                  rw [← h1]
                  exact HMJ.out.free)
                have HL9 := Lib.hid (show kk - j = (N.drop j).length from by rw [List.length_drop, ← HN.out])
                obtain ⟨k2, hk2⟩ : ∃ k2, kk - j = k2 := ⟨_, rfl⟩
                rw [hk2] at e1 e2 HL9
                have hk3 : k2 ≤ 9223372036854775807 := by omega
                clear HI2 hqn hk2
                go_wp2_with fail
                go_roundw
                case rel => exact ⟨s + 1, c, u, v, p2, k2, c2, N.drop j, _, _, out, rfl, rfl, rfl, rfl, by first | rfl | go_num, by omega, hk3, hcn, HL9, HI3, HM9, HA9⟩
                case measure => simp [intOf]; omega
      · obtain rfl : c = 0 := by omega
        have HE := Lib.hid (HAH.out.gone rfl)
        go_wp2_with fail
        go_ret3
        obtain ⟨r, cr, r2, cr2, rfl, rfl, i1, i2⟩ := HME.out.ends HE.out HM.out
        exact ⟨⟨r, cr, r2, cr2, rfl, i1, i2⟩, HME.out.t.bel⟩
    · have t0 : decide ((s : Int) ≤ 1000) = false := decide_eq_false (by omega)
      have HE := Lib.hid (HAH.out.last hs0)
      go_wp2_with fail
      go_ret3
      obtain ⟨r, cr, r2, cr2, rfl, rfl, i1, i2⟩ := HME.out.ends HE.out HM.out
      exact ⟨⟨r, cr, r2, cr2, rfl, i1, i2⟩, HME.out.t.bel⟩
end Go.Proofs.Yteggajhpjdidcaa.Retry
