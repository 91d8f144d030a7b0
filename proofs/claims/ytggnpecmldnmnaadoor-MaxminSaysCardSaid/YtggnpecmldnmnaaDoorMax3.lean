/- Package maxmin: Share. No statement is proved here. -/
import Derived.Test.YtggnpecmldnmnaaDoorMaxMem
import Derived.Test.YtggnpecmldnmnaaDoorClone
import Derived.Deep.LoopGhost
import Derived.Laws.EntriesVeiled
namespace Go.Proofs.YtggnpecmldnmnaaDoor.Maxmin
open Go.ChangeShapes Go.WideShapes Go.ChangeAt Go.RowKit Go.Proofs.YtggnpecmldnmnaaDoor.Kit Go.Proofs.YtggnpecmldnmnaaDoor.App Go.Proofs.YtggnpecmldnmnaaDoor.Err Go.Proofs.YtggnpecmldnmnaaDoor.Drr Go.Proofs.YtggnpecmldnmnaaDoor.RowQ
set_option linter.unusedVariables false
set_option maxRecDepth 20000
set_option maxHeartbeats 2000000

theorem share_bad (p1 : Option Addr) (cap1 n1 : Nat) (room : List Int) (p : Option Addr) (cap n : Nat) (ws : List (List Int)) (w : World) (hn1 : n1 = room.length) (hi1 : Ints w p1 cap1 room) (hn : n = ws.length) (hi : RowsI w p cap ws) (c : Int) (hc : code room ws = c) (h0 : c ≠ 0) :
    Calls Tryd.prog 8 #[.slice p1 n1 cap1, .slice p n cap] w fun e w' => e = .returned (.tuple #[.slice none 0 0, er c]) ∧ Below w.heap.size w w' := by
  have hb0 := balloc (brefl w) (.cells #[.slice p n cap] 23)
  have C := Lib.hid (check_any p1 cap1 n1 room p cap n ws (w.alloc (.cells #[.slice p n cap] 23)) hn1 (hi1.below hb0) hn (hi.below hb0) c hc)
  rw [er_ne h0] at C ⊢
  have HB := Lib.hid hb0
  clear hn1 hi1 hn hi hc h0 hb0
  go_enter Tryd.func8, Tryd.ntmps8
  go_wp2_with fail
  refine C.out.mono ?_; rintro e w1 ⟨rfl, hb⟩
  have HB2 := Lib.hid (bcall HB.out hb)
  clear hb C
  go_wp2_with fail
  go_ret2
  exact ⟨rfl, HB2.out⟩
theorem share_good (p1 : Option Addr) (cap1 n1 : Nat) (room : List Int) (p : Option Addr) (cap n : Nat) (ws : List (List Int)) (w : World) (hn1 : n1 = room.length) (hi1 : Ints w p1 cap1 room) (hn : n = ws.length) (hi : RowsI w p cap ws) (hg : Good room ws) (N : Nat) (r : Nat → Int) (hr : Runs room ws (fun _ => 0) all N r) :
    Calls Tryd.prog 8 #[.slice p1 n1 cap1, .slice p n cap] w fun e w' => ∃ c, e = .returned (.tuple #[.slice c n n, .nilIface]) ∧ OwnI w' w.heap.size (.slice c n n) (lt n fun y => r y.toNat) ∧ Below w.heap.size w w' := by
  have hb0 := balloc (brefl w) (.cells #[.slice p n cap] 23)
  have C := Lib.hid (check_any p1 cap1 n1 room p cap n ws (w.alloc (.cells #[.slice p n cap] 23)) hn1 (hi1.below hb0) hn (hi.below hb0) 0 (code_zero.2 hg))
  rw [er_0] at C
  have hbox : (w.alloc (.cells #[.slice p n cap] 23)).cell? ⟨w.heap.size, 0, none⟩ = some (.slice p n cap) := by go_simp
  have hsz : (w.alloc (.cells #[.slice p n cap] 23)).heap.size = w.heap.size + 1 := by simp
  have hi1' := hi1.below hb0
  have hi' := hi.below hb0
  have hlp := hi.len_le
  obtain ⟨w0, hw0⟩ : ∃ w0, w.alloc (.cells #[.slice p n cap] 23) = w0 := ⟨_, rfl⟩
  rw [hw0] at hb0 hbox hsz hi1' hi'
  have hn5 : n ≤ 5 := by rw [hn]; exact hg.flows
  have hl6 := hg.links
  have HBX := Lib.hid (fun W (hW : Below w0.heap.size w0 W) => (hW.cell (p := ⟨w.heap.size, 0, none⟩) (by rw [hsz]; exact Nat.lt_succ_self _)).trans hbox)
  have HSZ := Lib.hid hsz
  have HI1 := Lib.hid hi1'
  have HI := Lib.hid hi'
  have HB0 := Lib.hid hb0
  have HN1 := Lib.hid hn1
  have HN := Lib.hid hn
  have HG := Lib.hid hg
  have HR := Lib.hid hr
  have HW0 := Lib.hid hw0
  clear hb0 hbox hsz hi1' hi' hi1 hi hn1 hn hg hr hw0 hlp
  go_enter Tryd.func8, Tryd.ntmps8
  go_wp2_with fail
  refine C.out.mono ?_; rintro e w1 ⟨rfl, hb⟩
  rw [HW0.out] at hb
  have hc1 := HBX.out w1 hb
  -- the rates
  obtain ⟨w2, hm2, ho2, hg2⟩ := made_ints w1 n (by omega)
  have hb2 : Below w0.heap.size w0 w2 := hb.grown hg2 hb.size (fun k hk => by cases hk)
  have hc2 := HBX.out w2 hb2
  have CL := Lib.hid (clone_all p1 n1 cap1 room w2 HN1.out (HI1.out.below hb2) (by omega))
  have HM : Hid (OwnI w2 w0.heap.size (.slice (some ⟨w1.heap.size, 0, none⟩) n n) (List.replicate n 0) ∧ Below w0.heap.size w0 w2 ∧ w1.heap.size < w2.heap.size ∧ w0.heap.size ≤ w1.heap.size) := Lib.hid ⟨own_mono ho2 hb.size, hb2, (ho2.lt _ rfl).2, hb.size⟩
  obtain ⟨G1, hG1⟩ : ∃ G1, w1.heap.size = G1 := ⟨_, rfl⟩
  rw [hG1] at hm2 HM
  clear hb ho2 hg2 hb2 hG1 C
  go_wp2_with fail
  refine CL.out.mono ?_; rintro e w3 ⟨v2, rfl, ho3, hb3⟩
  obtain ⟨q2, c2, hv2, _⟩ := ho3.form
  rw [← HN1.out] at hv2
  subst hv2
  have hb03 : Below w0.heap.size w0 w3 := HM.out.2.1.trans (hb3.mono (by have := HM.out; omega))
  have hc3 := HBX.out w3 hb03
  -- who is active
  obtain ⟨w4, hm4, ho4, hg4⟩ := made_ints w3 n (by omega)
  have hb4 : Below w3.heap.size w3 w4 := (brefl w3).grown hg4 (Nat.le_refl _) (fun k hk => by cases hk)
  have HMEM : Hid (Mem w0 w4 G1 w3.heap.size n (.slice q2 n1 c2) (lt n fun _ => 0) room (fill (lt n fun y => y) 0)) := Lib.hid (by
    obtain ⟨h1, h2, h3, h4⟩ := HM.out
    have h5 := hb3.size
    have hq := (row_of ho4).2
    rw [show (0 : Int) = 0 from rfl] at hq
    refine ⟨hb03.trans (hb4.mono (by omega)), ?_, own_mono (ho3.below hb4) (by omega), ?_, fun e => ?_, by omega, fun e => ?_, by omega⟩
    · have := (h1.below hb3).below hb4
      rwa [zeros] at this
    · rw [fill_zero, lt_len]; exact hq
    · have := (ho3.lt _ e).1; omega
    · have := (ho3.lt _ e).2; omega)
  obtain ⟨G3, hG3⟩ : ∃ G3, w3.heap.size = G3 := ⟨_, rfl⟩
  rw [hG3] at hm4 HMEM
  clear ho3 hb3 ho4 hg4 hb4 HM CL hG3 hc1 hc2 hm2 hb03
  have hc4 := HBX.out w4 HMEM.out.bel
  go_wp2_with fail
  clear hm4 hc4 hc3
  go_loopw [33] (fun iv wr => ∃ j : Nat, j ≤ n ∧ iv = .int .i64 j ∧ Hid (Mem w0 wr G1 G3 n (.slice q2 n1 c2) (lt n fun _ => 0) room (fill (lt n fun y => y) j))) (fun i _ => n - (intOf i).toNat)
  case atStart => exact ⟨0, Nat.zero_le _, rfl, HMEM⟩
  case round =>
    clear HMEM
    obtain ⟨j, hj, rfl, HM⟩ := hrel
    by_cases hjn : j < n
    · have u1 : decide ((j : Int) < (n : Int)) = true := decide_eq_true (by omega)
      have hcj := HM.out.o3.cell (j := j) (by rw [fill_len, lt_len]; exact hjn)
      have hfj := HM.out.o3.fz j
      have HS := Lib.hid (HM.out.set3 j (j : Int) (wf_small (by omega)))
      have HE := Lib.hid (show (fill (lt n fun y => y) j).set j (j : Int) = fill (lt n fun y => y) (j + 1) by
        have := fill_set (l := lt n fun y => y) (j := j) (by rw [lt_len]; exact hjn)
        rwa [lt_get _ _ _ hjn] at this)
      rw [HE.out] at HS
      generalize (fill (lt n fun y => y) j)[j]?.getD 0 = x at hcj
      go_wp2_with fail
      go_roundw
      case rel => exact ⟨j + 1, by omega, by first | rfl | go_num, HS⟩
      case measure => simp [intOf]; omega
    · obtain rfl : j = n := by omega
      have u1 : decide ((j : Int) < (j : Int)) = false := decide_eq_false (by omega)
      have HM2 : Hid (Mem w0 wr G1 G3 j (.slice q2 n1 c2) (lt j fun _ => 0) (lt room.length fun y => lf room ws (fun _ => 0) y) (ci (acts j all))) := Lib.hid (by rw [lf_zero, acts_start]; exact HM.out)
      have hm0 : (acts j all).length = j := by have := congrArg List.length (acts_all j); rwa [ci_len, lt_len] at this
      have HM0 := Lib.hid hm0.symm
      have HIV := Lib.hid (⟨0, Inv.start HG.out⟩ : ∃ t, Inv room ws (fun _ => 0) all t)
      clear HM hm0
      go_wp2_with fail
      go_loopg [9] N (fun gk av wr => ∃ (m : Nat) (h : Nat → Int) (o : Nat → Bool), av = .slice (some ⟨G3, 0, none⟩) m j ∧ Hid (m = (acts j o).length) ∧ Hid (Mem w0 wr G1 G3 j (.slice q2 n1 c2) (lt j fun y => h y.toNat) (lt room.length fun y => lf room ws h y) (ci (acts j o))) ∧ Hid (Runs room ws h o gk r) ∧ Hid (∃ t, Inv room ws h o t))
      case atStart => exact ⟨j, fun _ => 0, all, rfl, HM0, HM2, HR, HIV⟩
      case round =>
        clear HM2 HM0 HIV HR
        obtain ⟨m, h, o, rfl, HM0, HM, HR, HIV⟩ := hrel
        have hmn : m ≤ j := by rw [HM0.out]; exact acts_len j o
        by_cases hm : m = 0
        · subst hm
          have HE := Lib.hid (runs_done HR.out (by rw [← HN.out]; exact HM0.out.symm))
          have HF := Lib.hid (HM.out.o1.lt G1 rfl)
          go_wp2_with fail
          go_ret2
          exact ⟨_, rfl, by rw [HE.out]; exact own_mono HM.out.o1 (by have := HSZ.out; omega), HB0.out.trans (HM.out.bel.mono (by have := HSZ.out; omega))⟩
        · have u2 : decide ((m : Int) > 0) = true := decide_eq_true (by omega)
          have hL := some_link HG.out (by rw [← HN.out]; omega)
          obtain ⟨G2, _, hv2, _, _, hLc, hcm⟩ := own_pos HM.out.o2 (by rw [lt_len]; exact hL)
          rw [lt_len] at hLc
          injection hv2 with hv2 e2 hv3; clear e2
          subst hv2; subst hv3
          have hA5 : (acts j o).length ≤ 5 := by rw [← HM0.out]; omega
          have SN := Lib.hid (short_new room p cap j ws _ (some ⟨G2, 0, none⟩) n1 c2 rfl (some ⟨G3, 0, none⟩) j m (acts j o) wr HG.out HN.out (HI.out.below HM.out.bel) HM0.out (fun i hi => (acts_in.1 hi).1) hA5 HM.out.o3.ints)
          have hcb := HBX.out wr HM.out.bel
          go_wp2_with fail
          refine SN.out.mono ?_; rintro e w5 ⟨rfl, hU⟩
          rw [HM0.out, HN.out] at hU
          have HAS := Lib.hid (fun W hW => asked_of HM.out HN1.out HG.out.once hU HBX.out (by rw [HSZ.out]; exact Nat.lt_succ_self _) W hW)
          have HM6 := Lib.hid ((HM.out.call hU.bel).call (balloc (brefl w5) (.cells #[.func (.func 23) #[] #[.pointer (some ⟨wr.heap.size, 0, none⟩), .pointer (some ⟨wr.heap.size + 1, 0, none⟩)]] 43)))
          have DA := Lib.hid (delete_any 19 w.heap.size w5.heap.size (fun v => hit room ws h o v.toNat) G3 m j (ci (acts j o)) _ enters_hit (fun W x hW hx => by
            unfold ci at hx
            obtain ⟨i, hi, rfl⟩ := List.mem_map.1 hx
            exact hits i HG.out HN.out (acts_in.1 hi).1 HI.out W (HAS.out W hW) _ rfl) (by rw [ci_len]; exact HM0.out) HM6.out.o3)
          clear SN hU hcb hA5 HAS
          obtain ⟨k', hk', hstep⟩ := runs_step HR.out (by rw [← HN.out, ← HM0.out]; omega)
          rw [less_acts] at DA
          go_wp2_with fail
          refine DA.out.mono ?_; rintro e w7 ⟨⟨m2, rfl, hm2⟩, hq, hgr⟩
          have HM7 := Lib.hid (HM6.out.grown3 hgr hq)
          rw [ci_len] at hm2
          clear DA HM6 hq hgr HM HR
          rcases hstep with ⟨hc, hr2⟩ | ⟨hno, hr2⟩
          · have hlt := cut_less hc
            rw [← HN.out, ← hm2, ← HM0.out] at hlt
            have t1 : decide ((m2 : Int) < (m : Int)) = true := decide_eq_true (by omega)
            have HM2 := Lib.hid hm2
            have HR2 := Lib.hid hr2
            have HIV2 := Lib.hid (HIV.out.elim fun t H => (⟨t, H.cut HG.out⟩ : ∃ t, Inv room ws h (Maxmin.cut room ws h o) t))
            have HKK := Lib.hid hk'
            clear hm2 hr2 hc hk'
            go_wp2_with fail
            go_roundg k'
            case measure => exact HKK.out
            case rel => exact ⟨m2, h, Maxmin.cut room ws h o, rfl, HM2, HM7, HR2, HIV2⟩
          · rw [cut_none (by rw [HN.out]; exact hno)] at hm2 HM7
            obtain rfl : m2 = m := by rw [hm2]; exact HM0.out.symm
            have t1 : decide ((m2 : Int) < (m2 : Int)) = false := decide_eq_false (by omega)
            have HR2 := Lib.hid hr2
            have HKK := Lib.hid hk'
            have HNO := Lib.hid hno
            obtain ⟨t, ht⟩ := HIV.out
            have HIT := Lib.hid ht
            have HIV2 := Lib.hid (⟨t + 1, ht.inc HG.out hno⟩ : ∃ t, Inv room ws (Maxmin.inc h o) o t)
            obtain ⟨A, hA⟩ : ∃ A, acts j o = A := ⟨_, rfl⟩
            have HA := Lib.hid hA
            have HAI := Lib.hid (show ∀ i ∈ A, i < j from fun i hi => (acts_in.1 (by rw [hA]; exact hi)).1)
            have HAD := Lib.hid (show A.Nodup by rw [← hA]; exact acts_nodup j o)
            have HS0 : Hid (Mem w0 w7 G1 G3 j (.slice (some ⟨G2, 0, none⟩) n1 c2) (rt j h A 0) (lv room ws h A 0 0) (ci A)) := Lib.hid (by rw [rt_zero, lv_zero, ← hA]; exact HM7.out)
            rw [hA] at HM0
            clear hm2 hr2 hno hk' ht HM7 hA HIV
            go_wp2_with fail
            go_loopw [59] (fun iv wr => ∃ a : Nat, a ≤ m2 ∧ iv = .int .i64 a ∧ Hid (Mem w0 wr G1 G3 j (.slice (some ⟨G2, 0, none⟩) n1 c2) (rt j h A a) (lv room ws h A a 0) (ci A))) (fun i _ => m2 - (intOf i).toNat)
            case atStart => exact ⟨0, Nat.zero_le _, rfl, HS0⟩
            case round =>
              clear HS0
              obtain ⟨a, ha, rfl, HS⟩ := hrel
              by_cases ham : a < m2
              · have v1 : decide ((a : Int) < (m2 : Int)) = true := decide_eq_true (by omega)
                have hal : a < A.length := by rw [← HM0.out]; exact ham
                obtain ⟨w8, rfl⟩ : ∃ z, z = wr := ⟨wr, rfl⟩
                obtain ⟨i, hi⟩ : ∃ i, A[a]?.getD 0 = i := ⟨_, rfl⟩
                have hck := HS.out.o3.cell (j := a) (by rw [ci_len]; exact hal)
                rw [map_get hal, hi] at hck
                have hij : i < j := by rw [← hi]; exact get_in HAI.out hal
                have hil : i < ws.length := by rw [← HN.out]; exact hij
                have hcr := own_cell HS.out.o1 i (by unfold rt; rw [lt_len]; exact hij)
                rw [rt_get HAD.out hal hi hij] at hcr
                have hfr := own_fz HS.out.o1 i
                have hb1 := (HIT.out.any i hil).1
                have hb2 := HIT.out.top HG.out hil
                have HT := Lib.hid (HS.out.set1 i (h i + 1) (wf_small (by omega)))
                rw [rt_set HAD.out hal hi] at HT
                have hwr := wrap_in (n := h i + 1) (by omega)
                obtain ⟨b2, off2, rfl, hrow⟩ := rows_both HI.out (by omega)
                obtain ⟨q1, c1, hlz, hrw⟩ := hrow i hil
                have hckr := (hrw _ HT.out.bel).1
                have hcb2 := HBX.out _ HT.out.bel
                obtain ⟨z, hz⟩ : ∃ z, (row ws i).length = z := ⟨_, rfl⟩
                rw [hz] at hckr hlz
                have HRW := Lib.hid (fun W hW => (hrw W hW).2)
                have HII := Lib.hid hi
                have HIL := Lib.hid hil
                have HZ := Lib.hid hz
                have HAL := Lib.hid hal
                have hij' : (i : Int) < (j : Int) := by omega
                generalize h i = y at hcr hb1 hb2 HT hwr hckr hcb2
                obtain ⟨w9, hw9⟩ : ∃ w9, w8.setCell ⟨G1, i, none⟩ (.int .i64 (y + 1)) = w9 := ⟨_, rfl⟩
                have HT9 := HT
                rw [hw9] at HT9
                have HW9 := Lib.hid hw9
                clear hrow hrw hi hil hz hal hw9
                go_wp2_with fail
                go_loopw [74] (fun kv wr => ∃ b : Nat, b ≤ z ∧ kv = .int .i64 b ∧ Hid (Mem w0 wr G1 G3 j (.slice (some ⟨G2, 0, none⟩) n1 c2) (rt j h A (a + 1)) (lv room ws h A a b) (ci A))) (fun k _ => z - (intOf k).toNat)
                case atStart => exact ⟨0, Nat.zero_le _, rfl, HT⟩
                case round =>
                  clear HT HT9 HS
                  obtain ⟨b, hb, rfl, HU⟩ := hrel
                  by_cases hbz : b < z
                  · have v2 : decide ((b : Int) < (z : Int)) = true := decide_eq_true (by omega)
                    have hbl : b < (row ws i).length := by rw [HZ.out]; exact hbz
                    obtain ⟨x, hx, hx6, hxL⟩ := link_at HG.out HIL.out hbl
                    obtain ⟨b3, off3, rfl, _, hcc⟩ := (HRW.out wr HU.out.bel).2.2.2 (by omega)
                    have hck3 := hcc b hbl
                    rw [hx] at hck3
                    have hxn : (x : Int) < (n1 : Int) := by rw [HN1.out]; omega
                    have hcl := own_cell HU.out.o2 x (by unfold lv; rw [lt_len]; exact hxL)
                    have hfl := own_fz HU.out.o2 x
                    have hA5 : A.length ≤ 5 := by rw [← HM0.out]; omega
                    obtain ⟨h0, h1⟩ := tk_part5 (ws := ws) (amt := fun _ => 1) (A := A) HG.out.once (B := 1) (fun _ => ⟨by decide, Int.le_refl _⟩) hA5 a b (x : Int)
                    have hlf := lf_in HG.out HIT.out hxL
                    obtain ⟨s, hs⟩ : ∃ s, (lv room ws h A a b)[x]?.getD 0 = s := ⟨_, rfl⟩
                    have hs2 : lf room ws h (x : Int) - tk (part ws (fun _ => 1) A a b) (x : Int) = s := by
                      rw [← hs]; unfold lv; rw [lt_get _ _ _ hxL]
                    rw [hs] at hcl
                    have hs3 : -10 ≤ s ∧ s ≤ 1000 := by omega
                    have HV := Lib.hid (HU.out.set2 x (s - 1) (wf_small (by omega)))
                    rw [lv_set HII.out hbl hx (s - 1) (by rw [hs2])] at HV
                    have hwr := wrap_in (n := s - 1) (by omega)
                    clear hcc hbl hx hx6 hxL hA5 h0 h1 hlf hs hs2
                    go_wp2_with fail
                    go_roundw
                    case rel => exact ⟨b + 1, by omega, by first | rfl | go_num, HV⟩
                    case measure => simp [intOf]; omega
                  · obtain rfl : b = z := by omega
                    have v2 : decide ((b : Int) < (b : Int)) = false := decide_eq_false (by omega)
                    have HU2 : Hid (Mem w0 wr G1 G3 j (.slice (some ⟨G2, 0, none⟩) n1 c2) (rt j h A (a + 1)) (lv room ws h A (a + 1) 0) (ci A)) := Lib.hid (by
                      have hh := HU.out
                      rw [← HZ.out, lv_next HAL.out HII.out] at hh
                      exact hh)
                    go_wp2_with fail
                    go_roundw
                    case rel => exact ⟨a + 1, by omega, by first | rfl | go_num, HU2⟩
                    case measure => simp [intOf]; omega
              · obtain rfl : a = m2 := by omega
                have v1 : decide ((a : Int) < (a : Int)) = false := decide_eq_false (by omega)
                have HE : Hid (Mem w0 wr G1 G3 j (.slice (some ⟨G2, 0, none⟩) n1 c2) (lt j fun y => Maxmin.inc h o y.toNat) (lt room.length fun y => lf room ws (Maxmin.inc h o) y) (ci (acts j o))) := Lib.hid (by
                  have hh := HS.out
                  have e1 : rt j h A a = lt j fun y => Maxmin.inc h o y.toNat := by rw [HM0.out, ← HA.out]; exact rt_all
                  have e2 : lv room ws h A a 0 = lt room.length fun y => lf room ws (Maxmin.inc h o) y := by rw [HM0.out, ← HA.out, HN.out]; exact lv_all HG.out.once
                  rw [e1, e2, ← HA.out] at hh
                  exact hh)
                have HM1 := Lib.hid (show a = (acts j o).length by rw [HA.out]; exact HM0.out)
                go_wp2_with fail
                go_roundg k'
                case measure => exact HKK.out
                case rel => exact ⟨a, Maxmin.inc h o, o, rfl, HM1, HE, HR2, HIV2⟩
end Go.Proofs.YtggnpecmldnmnaaDoor.Maxmin
