/- The functions of package aimd return what the document specifies: the law returns true for every input. No condition beyond what the card itself lists (the variable errors.errorType). -/
import Derived.Test.YtbjoabggdhndmaaDoorAimdRef
import Derived.Test.YtbjoabggdhndmaaDoorAimd3
import Derived.Test.YtbjoabggdhndmaaDoorRising
import Derived.Test.YtbjoabggdhndmaaDoorSame
import Derived.Test.YtbjoabggdhndmaaDoorRttIn
import Derived.Test.YtbjoabggdhndmaaDoorAs
import Derived.Test.YtbjoabggdhndmaaDoorCards
import Derived.Test.YtbjoabggdhndmaaDoorTie
import Derived.Deep.DeepHandedRow
import Derived.Lib.LaidTab
import Derived.LaidHandle
import Derived.SevenTiedAt

namespace Go.Proofs.YtbjoabggdhndmaaDoor.aimdSaysP
open Go.ChangeShapes Go.WideShapes Go.ChangeAt Go.RowKit
open Go.Proofs.YtbjoabggdhndmaaDoor.Kit Go.Proofs.YtbjoabggdhndmaaDoor.App Go.Proofs.YtbjoabggdhndmaaDoor.Err Go.Proofs.YtbjoabggdhndmaaDoor.AimdMath Go.Proofs.YtbjoabggdhndmaaDoor.Aimd Go.Proofs.YtbjoabggdhndmaaDoor.AimdRef Go.Proofs.YtbjoabggdhndmaaDoor.As
set_option linter.unusedVariables false
set_option maxRecDepth 20000

theorem err_same (c : Int) (w : World) (hg : Handle w) : Calls Tryd.prog 5 #[er c, .int .i64 c] w fun e w' => e = .returned (.bool true) ∧ Below w.heap.size w w' :=
  (error_any c c w hg).mono fun e w' ⟨h1, h2⟩ => ⟨by rw [h1]; simp, h2⟩
abbrev Law (p : Option Addr) (cap n : Nat) (room s : Int) (w : World) : Prop := Calls Tryd.prog 3 #[.slice p n cap, .int .i64 room, .int .i64 s] w fun e w' => e = .returned (.bool true) ∧ Below w.heap.size w w'
set_option maxHeartbeats 4000000 in
theorem law_a2b (p : Option Addr) (cap n : Nat) (l : List Int) (room : Int) (s : Int) (w : World) (hg : Handle w) (hn : n = l.length) (hi : Ints w p cap l) (h0 : bad l room ≠ 0) (hd : bad l 1 ≠ 0) : Law p cap n room s w := by
  have hlen := hi.len_le
  rw [← hn] at hlen
  obtain ⟨c, hc⟩ : ∃ c, c = bad l room := ⟨_, rfl⟩
  have FL := Lib.hid (fun W (hb : Below w.heap.size w W) => flows_any p cap n room l W hn (hi.below hb) c hc)
  have CK := Lib.hid (fun W (hb : Below w.heap.size w W) => check_any p cap n room l W hn (hi.below hb) c hc)
  have hcr : c = badR l room s := by rw [badR, if_neg h0]; exact hc
  have RB := Lib.hid (fun W (hb : Below w.heap.size w W) => run_bad p cap n room s l W hn (hi.below hb) c hcr (by rw [hc]; exact h0))
  have ERc := Lib.hid (fun w' (hb : Below w.heap.size w w') => err_same c w' (hg.below hb))
  have EQ := Lib.hid (fun W => ints_any none none 0 0 0 0 [] [] W rfl rfl (Ints.nil W) (Ints.nil W) true rfl)
  rw [← hc] at h0
  have tc : (c == 0) = false := by rw [beq_eq_false_iff_ne]; exact h0
  rw [er_ne h0] at CK ERc
  clear hcr hc h0
  obtain ⟨d, hdd⟩ : ∃ d, d = bad l 1 := ⟨_, rfl⟩
  have FL1 := Lib.hid (fun W (hb : Below w.heap.size w W) => flows_any p cap n 1 l W hn (hi.below hb) d hdd)
  have AP := Lib.hid (fun W (hb : Below w.heap.size w W) => apart_bad p cap n l W hn (hi.below hb) d hdd (by rw [hdd]; exact hd))
  rw [← hdd] at hd
  have td : (d == 0) = false := by rw [beq_eq_false_iff_ne]; exact hd
  have ERd := Lib.hid (fun w' (hb : Below w.heap.size w w') => err_same d w' (hg.below hb))
  rw [er_ne hd] at ERd
  clear hdd hd
  clear hi hn hg
  unfold Law
  go_enter Tryd.func3, Tryd.ntmps3
  go_wp2_with fail
  refine (FL.out _ (brefl _)).mono ?_; rintro e w1 ⟨rfl, rfl⟩
  go_wp2_with fail
  refine (CK.out _ (brefl _)).mono ?_; rintro e w2 ⟨rfl, rfl⟩
  go_wp2_with fail
  refine (ERc.out _ (brefl _)).mono ?_; rintro e w3 ⟨rfl, hB⟩
  clear FL CK
  go_wp2_with fail
  refine (RB.out _ hB).mono ?_; rintro e w5 ⟨rfl, rfl⟩
  go_wp2_with fail
  refine (ERc.out _ hB).mono ?_; rintro e w6 ⟨rfl, hb⟩
  replace hB := bcall hB hb
  clear hb
  go_wp2_with fail
  refine (EQ.out _).mono ?_; rintro e w7 ⟨rfl, hb⟩
  replace hB := bcall hB hb
  clear hb
  go_wp2_with fail
  refine (FL1.out _ hB).mono ?_; rintro e w8 ⟨rfl, rfl⟩
  go_wp2_with fail
  refine (AP.out _ hB).mono ?_; rintro e w9 ⟨rfl, rfl⟩
  go_wp2_with fail
  refine (ERd.out _ hB).mono ?_; rintro e w10 ⟨rfl, hb⟩
  replace hB := bcall hB hb
  clear hb
  go_wp2_with fail
  go_ret
  exact ⟨rfl, hB⟩
set_option maxHeartbeats 4000000 in
theorem law_a2g (p : Option Addr) (cap n : Nat) (l : List Int) (room : Int) (s : Int) (w : World) (hg : Handle w) (hn : n = l.length) (hi : Ints w p cap l) (h0 : bad l room ≠ 0) (hd : bad l 1 = 0) : Law p cap n room s w := by
  have hlen := hi.len_le
  rw [← hn] at hlen
  obtain ⟨c, hc⟩ : ∃ c, c = bad l room := ⟨_, rfl⟩
  have FL := Lib.hid (fun W (hb : Below w.heap.size w W) => flows_any p cap n room l W hn (hi.below hb) c hc)
  have CK := Lib.hid (fun W (hb : Below w.heap.size w W) => check_any p cap n room l W hn (hi.below hb) c hc)
  have hcr : c = badR l room s := by rw [badR, if_neg h0]; exact hc
  have RB := Lib.hid (fun W (hb : Below w.heap.size w W) => run_bad p cap n room s l W hn (hi.below hb) c hcr (by rw [hc]; exact h0))
  have ERc := Lib.hid (fun w' (hb : Below w.heap.size w w') => err_same c w' (hg.below hb))
  have EQ := Lib.hid (fun W => ints_any none none 0 0 0 0 [] [] W rfl rfl (Ints.nil W) (Ints.nil W) true rfl)
  rw [← hc] at h0
  have tc : (c == 0) = false := by rw [beq_eq_false_iff_ne]; exact h0
  rw [er_ne h0] at CK ERc
  clear hcr hc h0
  have FL1 := Lib.hid (fun W (hb : Below w.heap.size w W) => flows_any p cap n 1 l W hn (hi.below hb) 0 hd.symm)
  have hd0 := bad_zero.1 hd
  have hdf := fits_all hd0.2.2.1
  have RI := Lib.hid (fun W (hb : Below w.heap.size w W) => Rising.rising_any p cap n l W hn (hi.below hb) (by omega) (by omega))
  have AP := Lib.hid (fun W (hb : Below w.heap.size w W) => apart_good p cap n l W hn (hi.below hb) hd _ rfl)
  have bA := hdf _ (hi_mem (l := l) (by omega))
  have bB := hdf _ (lo_mem (l := l) (by omega))
  have hn5 : 1 ≤ n ∧ n ≤ 5 := by omega
  clear hd0 hdf
  generalize AimdMath.hi l = A at RI AP bA
  generalize lo l = B at RI AP bB
  obtain ⟨q, hq⟩ : ∃ q : Nat, n = q + 1 := ⟨n - 1, by omega⟩
  have HQ := Lib.hid hq
  have HAB := Lib.hid (And.intro bA bB)
  clear hq bA bB
  have ERz := Lib.hid (fun w' (hb : Below w.heap.size w w') => err_same 0 w' (hg.below hb))
  rw [er_0] at ERz
  clear hd
  clear hi hn hg
  unfold Law
  go_enter Tryd.func3, Tryd.ntmps3
  go_wp2_with fail
  refine (FL.out _ (brefl _)).mono ?_; rintro e w1 ⟨rfl, rfl⟩
  go_wp2_with fail
  refine (CK.out _ (brefl _)).mono ?_; rintro e w2 ⟨rfl, rfl⟩
  go_wp2_with fail
  refine (ERc.out _ (brefl _)).mono ?_; rintro e w3 ⟨rfl, hB⟩
  clear FL CK
  go_wp2_with fail
  refine (RB.out _ hB).mono ?_; rintro e w5 ⟨rfl, rfl⟩
  go_wp2_with fail
  refine (ERc.out _ hB).mono ?_; rintro e w6 ⟨rfl, hb⟩
  replace hB := bcall hB hb
  clear hb
  go_wp2_with fail
  refine (EQ.out _).mono ?_; rintro e w7 ⟨rfl, hb⟩
  replace hB := bcall hB hb
  clear hb
  go_wp2_with fail
  refine (FL1.out _ hB).mono ?_; rintro e w8 ⟨rfl, rfl⟩
  go_wp2_with fail
  refine (RI.out _ hB).mono ?_; rintro e w9 ⟨⟨v2, r, rfl, ho, hrl, hr0, hr1⟩, hb⟩
  replace hB := bcall hB hb
  obtain ⟨g, cap2, rfl, _, _, hc1, hc2⟩ := own_pos ho (by omega)
  rw [hrl] at ho hc1 ⊢
  have c0 := own_cell ho 0 (by omega)
  have cq := own_cell ho q (by have := HQ.out; omega)
  rw [hr0] at c0
  rw [show q = n - 1 by have := HQ.out; omega, hr1, ← show q = n - 1 by have := HQ.out; omega] at cq
  have hnq : (n : Int) - 1 = (q : Int) := by have := HQ.out; omega
  have hqn : (q : Int) < (n : Int) := by have := HQ.out; omega
  have hwq := wrap_in (n := (n : Int) - 1) (by omega)
  have hwI := wrap_in (n := A - B) (by have := HAB.out; omega)
  rw [hnq] at hwq
  clear ho hr0 hr1 hrl hb HAB RI
  go_wp2_with fail
  go_quiet (fail)
  rename_i nq
  replace hB := bdrewN hB nq
  clear c0 cq
  generalize w9.drewN nq = w10 at hB ⊢
  go_wp2_with fail
  refine (AP.out _ hB).mono ?_; rintro e w11 ⟨rfl, rfl⟩
  go_wp2_with fail
  refine (ERz.out _ hB).mono ?_; rintro e w12 ⟨rfl, hb⟩
  replace hB := bcall hB hb
  clear hb
  go_wp2_with fail
  go_ret
  exact ⟨by first | rfl | simp, hB⟩
set_option maxHeartbeats 4000000 in
theorem law_a1 (p : Option Addr) (cap n : Nat) (l : List Int) (room : Int) (s : Int) (w : World) (hg : Handle w) (hn : n = l.length) (hi : Ints w p cap l) (h0 : bad l room = 0) (hd : bad l 1 = 0) (hs : ¬ (0 ≤ s ∧ s ≤ 1000)) : Law p cap n room s w := by
  have hlen := hi.len_le
  rw [← hn] at hlen
  have FL := Lib.hid (fun W (hb : Below w.heap.size w W) => flows_any p cap n room l W hn (hi.below hb) 0 h0.symm)
  have CK := Lib.hid (fun W (hb : Below w.heap.size w W) => check_any p cap n room l W hn (hi.below hb) 0 h0.symm)
  have hcr : 1 = badR l room s := by rw [badR, if_pos h0, if_neg hs]
  have RB := Lib.hid (fun W (hb : Below w.heap.size w W) => run_bad p cap n room s l W hn (hi.below hb) 1 hcr (by omega))
  have ERo := Lib.hid (fun w' (hb : Below w.heap.size w w') => err_same 1 w' (hg.below hb))
  have EQ := Lib.hid (fun W => ints_any none none 0 0 0 0 [] [] W rfl rfl (Ints.nil W) (Ints.nil W) true rfl)
  have IN := Lib.hid (fun W => Rtt.in_any s 0 1000 W false (in_false hs))
  rw [er_0] at CK
  rw [er_1] at ERo
  clear hcr hs
  have FL1 := Lib.hid (fun W (hb : Below w.heap.size w W) => flows_any p cap n 1 l W hn (hi.below hb) 0 hd.symm)
  have hd0 := bad_zero.1 hd
  have hdf := fits_all hd0.2.2.1
  have RI := Lib.hid (fun W (hb : Below w.heap.size w W) => Rising.rising_any p cap n l W hn (hi.below hb) (by omega) (by omega))
  have AP := Lib.hid (fun W (hb : Below w.heap.size w W) => apart_good p cap n l W hn (hi.below hb) hd _ rfl)
  have bA := hdf _ (hi_mem (l := l) (by omega))
  have bB := hdf _ (lo_mem (l := l) (by omega))
  have hn5 : 1 ≤ n ∧ n ≤ 5 := by omega
  clear hd0 hdf
  generalize AimdMath.hi l = A at RI AP bA
  generalize lo l = B at RI AP bB
  obtain ⟨q, hq⟩ : ∃ q : Nat, n = q + 1 := ⟨n - 1, by omega⟩
  have HQ := Lib.hid hq
  have HAB := Lib.hid (And.intro bA bB)
  clear hq bA bB
  have ERz := Lib.hid (fun w' (hb : Below w.heap.size w w') => err_same 0 w' (hg.below hb))
  rw [er_0] at ERz
  clear hd h0
  clear hi hn hg
  unfold Law
  go_enter Tryd.func3, Tryd.ntmps3
  go_wp2_with fail
  refine (FL.out _ (brefl _)).mono ?_; rintro e w1 ⟨rfl, rfl⟩
  go_wp2_with fail
  refine (CK.out _ (brefl _)).mono ?_; rintro e w2 ⟨rfl, rfl⟩
  go_wp2_with fail
  refine (ERz.out _ (brefl _)).mono ?_; rintro e w3 ⟨rfl, hB⟩
  clear FL CK
  go_wp2_with fail
  refine (IN.out _).mono ?_; rintro e w4 ⟨rfl, rfl⟩
  go_wp2_with fail
  refine (RB.out _ hB).mono ?_; rintro e w5 ⟨rfl, rfl⟩
  go_wp2_with fail
  refine (ERo.out _ hB).mono ?_; rintro e w6 ⟨rfl, hb⟩
  replace hB := bcall hB hb
  clear hb
  go_wp2_with fail
  refine (EQ.out _).mono ?_; rintro e w7 ⟨rfl, hb⟩
  replace hB := bcall hB hb
  clear hb
  go_wp2_with fail
  refine (FL1.out _ hB).mono ?_; rintro e w8 ⟨rfl, rfl⟩
  go_wp2_with fail
  refine (RI.out _ hB).mono ?_; rintro e w9 ⟨⟨v2, r, rfl, ho, hrl, hr0, hr1⟩, hb⟩
  replace hB := bcall hB hb
  obtain ⟨g, cap2, rfl, _, _, hc1, hc2⟩ := own_pos ho (by omega)
  rw [hrl] at ho hc1 ⊢
  have c0 := own_cell ho 0 (by omega)
  have cq := own_cell ho q (by have := HQ.out; omega)
  rw [hr0] at c0
  rw [show q = n - 1 by have := HQ.out; omega, hr1, ← show q = n - 1 by have := HQ.out; omega] at cq
  have hnq : (n : Int) - 1 = (q : Int) := by have := HQ.out; omega
  have hqn : (q : Int) < (n : Int) := by have := HQ.out; omega
  have hwq := wrap_in (n := (n : Int) - 1) (by omega)
  have hwI := wrap_in (n := A - B) (by have := HAB.out; omega)
  rw [hnq] at hwq
  clear ho hr0 hr1 hrl hb HAB RI
  go_wp2_with fail
  go_quiet (fail)
  rename_i nq
  replace hB := bdrewN hB nq
  clear c0 cq
  generalize w9.drewN nq = w10 at hB ⊢
  go_wp2_with fail
  refine (AP.out _ hB).mono ?_; rintro e w11 ⟨rfl, rfl⟩
  go_wp2_with fail
  refine (ERz.out _ hB).mono ?_; rintro e w12 ⟨rfl, hb⟩
  replace hB := bcall hB hb
  clear hb
  go_wp2_with fail
  go_ret
  exact ⟨by first | rfl | simp, hB⟩
set_option maxHeartbeats 4000000 in
theorem law_good (p : Option Addr) (cap n : Nat) (l : List Int) (room : Int) (s : Nat) (w : World) (hg : Handle w) (hn : n = l.length) (hi : Ints w p cap l) (h0 : bad l room = 0) (hd : bad l 1 = 0) (hs : s ≤ 1000) : Law p cap n room s w := by
  have hlen := hi.len_le
  rw [← hn] at hlen
  have FL := Lib.hid (fun W (hb : Below w.heap.size w W) => flows_any p cap n room l W hn (hi.below hb) 0 h0.symm)
  have CK := Lib.hid (fun W (hb : Below w.heap.size w W) => check_any p cap n room l W hn (hi.below hb) 0 h0.symm)
  have RG := Lib.hid (fun W (hb : Below w.heap.size w W) => run_good p cap n s room l W hn (hi.below hb) h0 hs)
  have RF := Lib.hid (fun W (hb : Below w.heap.size w W) => ref_aimd p cap n s room l W hn (hi.below hb) h0 hs)
  have hrl : (rates room l s).length = n := by rw [rates_len, hn]
  have EQ := Lib.hid (fun p1 p2 c1 c2 W (h1 : Ints W p1 c1 (rates room l s)) (h2 : Ints W p2 c2 (rates room l s)) => ints_any p1 p2 c1 c2 n n (rates room l s) (rates room l s) W hrl.symm hrl.symm h1 h2 true (by simp))
  have IN := Lib.hid (fun W => Rtt.in_any (s : Int) 0 1000 W true (in_true (by omega)))
  have HRL := Lib.hid hrl
  rw [er_0] at CK
  clear hrl
  generalize rates room l s = m at RG RF EQ HRL
  generalize (H room l s : Int) = hv at RG RF
  have FL1 := Lib.hid (fun W (hb : Below w.heap.size w W) => flows_any p cap n 1 l W hn (hi.below hb) 0 hd.symm)
  have hd0 := bad_zero.1 hd
  have hdf := fits_all hd0.2.2.1
  have RI := Lib.hid (fun W (hb : Below w.heap.size w W) => Rising.rising_any p cap n l W hn (hi.below hb) (by omega) (by omega))
  have AP := Lib.hid (fun W (hb : Below w.heap.size w W) => apart_good p cap n l W hn (hi.below hb) hd _ rfl)
  have bA := hdf _ (hi_mem (l := l) (by omega))
  have bB := hdf _ (lo_mem (l := l) (by omega))
  have hn5 : 1 ≤ n ∧ n ≤ 5 := by omega
  clear hd0 hdf
  generalize AimdMath.hi l = A at RI AP bA
  generalize lo l = B at RI AP bB
  obtain ⟨q, hq⟩ : ∃ q : Nat, n = q + 1 := ⟨n - 1, by omega⟩
  have HQ := Lib.hid hq
  have HAB := Lib.hid (And.intro bA bB)
  clear hq bA bB
  have ERz := Lib.hid (fun w' (hb : Below w.heap.size w w') => err_same 0 w' (hg.below hb))
  rw [er_0] at ERz
  clear hd h0 hs
  clear hi hn hg
  unfold Law
  go_enter Tryd.func3, Tryd.ntmps3
  go_wp2_with fail
  refine (FL.out _ (brefl _)).mono ?_; rintro e w1 ⟨rfl, rfl⟩
  go_wp2_with fail
  refine (CK.out _ (brefl _)).mono ?_; rintro e w2 ⟨rfl, rfl⟩
  go_wp2_with fail
  refine (ERz.out _ (brefl _)).mono ?_; rintro e w3 ⟨rfl, hB⟩
  clear FL CK
  go_wp2_with fail
  refine (IN.out _).mono ?_; rintro e w4 ⟨rfl, rfl⟩
  go_wp2_with fail
  refine (RF.out _ hB).mono ?_; rintro e w5 ⟨⟨p5, c5, rfl, hi5⟩, hb⟩
  replace hB := bcall hB hb
  have HI5 := Lib.hid hi5
  clear hb hi5 RF
  go_wp2_with fail
  refine (RG.out _ hB).mono ?_; rintro e w6 ⟨⟨v6, rfl, ho⟩, hb⟩
  replace hB := bcall hB hb
  obtain ⟨p6, c6, rfl, hi6⟩ := ho.form
  rw [HRL.out]
  have HI6 := Lib.hid hi6
  have HI5b := Lib.hid (HI5.out.below hb)
  clear hb ho hi6 RG HI5
  go_wp2_with fail
  refine (ERz.out _ hB).mono ?_; rintro e w7 ⟨rfl, hb⟩
  replace hB := bcall hB hb
  have C := Lib.hid (EQ.out _ _ _ _ _ (HI6.out.below hb) (HI5b.out.below hb))
  clear hb EQ
  go_wp2_with fail
  refine C.out.mono ?_; rintro e w8 ⟨rfl, hb⟩
  replace hB := bcall hB hb
  clear hb
  go_wp2_with fail
  refine (FL1.out _ hB).mono ?_; rintro e w8 ⟨rfl, rfl⟩
  go_wp2_with fail
  refine (RI.out _ hB).mono ?_; rintro e w9 ⟨⟨v2, r, rfl, ho, hrl, hr0, hr1⟩, hb⟩
  replace hB := bcall hB hb
  obtain ⟨g, cap2, rfl, _, _, hc1, hc2⟩ := own_pos ho (by omega)
  rw [hrl] at ho hc1 ⊢
  have c0 := own_cell ho 0 (by omega)
  have cq := own_cell ho q (by have := HQ.out; omega)
  rw [hr0] at c0
  rw [show q = n - 1 by have := HQ.out; omega, hr1, ← show q = n - 1 by have := HQ.out; omega] at cq
  have hnq : (n : Int) - 1 = (q : Int) := by have := HQ.out; omega
  have hqn : (q : Int) < (n : Int) := by have := HQ.out; omega
  have hwq := wrap_in (n := (n : Int) - 1) (by omega)
  have hwI := wrap_in (n := A - B) (by have := HAB.out; omega)
  rw [hnq] at hwq
  clear ho hr0 hr1 hrl hb HAB RI
  go_wp2_with fail
  go_quiet (fail)
  rename_i nq
  replace hB := bdrewN hB nq
  clear c0 cq
  generalize w9.drewN nq = w10 at hB ⊢
  go_wp2_with fail
  refine (AP.out _ hB).mono ?_; rintro e w11 ⟨rfl, rfl⟩
  go_wp2_with fail
  refine (ERz.out _ hB).mono ?_; rintro e w12 ⟨rfl, hb⟩
  replace hB := bcall hB hb
  clear hb
  go_wp2_with fail
  go_ret
  exact ⟨by first | rfl | simp, hB⟩

theorem reads : Tryd.f3.params.toList.all (fun t => Tryd.prog.readableRec t && decide (t < Tryd.prog.types.size)) = true := by kernel_rfl
theorem et : Tryd.prog.globalNamed "errors.errorType" = some 0 := by kernel_rfl
theorem rt : (Tryd.prog.cutTypes.find? (·.1 == "internal/reflectlite.rtype")).map (·.2) = some 63 := by kernel_rfl
theorem oneRow : ((List.range Tryd.prog.types.size).filter fun t => Tryd.prog.rowNamed t [101, 114, 114, 111, 114]) = [26] := by kernel_rfl

theorem handle_of_laid {W : World} (h : laidMetH Tryd.prog Rows.aimdSaysRow.laid W) : Handle W := by
  have h' : laidMet Tryd.prog [] W ∧ handlesMet Tryd.prog Rows.aimdSaysRow.laid W := h
  obtain ⟨name, u, ty, e1, e2, e3, e4, e5⟩ := h'.2 _ (List.mem_singleton.2 rfl)
  have en : name = [101, 114, 114, 111, 114] := (Option.some.inj e1).symm
  subst en
  obtain rfl := Option.some.inj (rt.symm.trans e2)
  have hm : ty ∈ (List.range Tryd.prog.types.size).filter fun t => Tryd.prog.rowNamed t [101, 114, 114, 111, 114] := List.mem_filter.2 ⟨List.mem_range.2 e3, e4⟩
  rw [oneRow] at hm
  obtain rfl := List.mem_singleton.1 hm
  have hh : typeHandle Tryd.prog 26 = .pointer (some ⟨1, 26, none⟩) := by kernel_rfl
  rw [hh] at e5
  have e6 := World.var?_cell et e5 0
  unfold Handle
  simpa using e6

noncomputable def laidWorld (os : Os) : World :=
  { World.holding Tryd.prog os ⟨#[], #[], []⟩ with heap := (World.holding Tryd.prog os ⟨#[], #[], []⟩).heap.modify 0 fun
      | .cells _ t frozen => .cells #[.iface 63 (.agg #[.pointer (some ⟨1, 26, none⟩)])] t frozen
      | o => o }
theorem laid_met (os : Os) : laidMetH Tryd.prog Rows.aimdSaysRow.laid ((laidWorld os).forCall (fun _ _ => 0) ⟨#[], #[.slice none 0 0, .int .i64 0, .int .i64 0], []⟩).memory :=
  laidMetH_of_parts (laidMet_nil _ _) (by kernel_rfl)
theorem reads_wit (os : Os) {H : Type} (enc : TypeId × Value → H) : ∃ places, DataW.whole enc Tryd.prog ((laidWorld os).forCall (fun _ _ => 0) ⟨#[], #[.slice none 0 0, .int .i64 0, .int .i64 0], []⟩).memory Tryd.f3.params.toList Rows.aimdSaysSpec.vars false (#[.slice none 0 0, .int .i64 0, .int .i64 0] : Array Value).toList 8 = some ([.nil, .lit (.int .i64 0), .lit (.int .i64 0)], [], places) :=
  ⟨[], by kernel_rfl⟩

theorem contract (H : Type) (enc : TypeId × Value → H) (W : World) (base : Nat) (args : Array Value) (ds gs : List (DataW H)) (before : List MemPlace)
    (hval : ∀ (j : Nat) t v, Tryd.f3.params[j]? = some t → args[j]? = some v → Value.okWide Tryd.prog W .any base t v)
    (hW : DataW.Whole enc Tryd.prog Tryd.f3.params.toList Rows.aimdSaysSpec.vars false W args.toList ds gs before) (hL : laidMetH Tryd.prog Rows.aimdSaysRow.laid W) :
    Calls Tryd.prog 3 args W fun e W' => ∃ v, e = .returned v ∧ Rows.aimdSaysSpec.post enc Tryd.prog Tryd.f3 false true false false W args v W' := by
  have hW' := hW
  have hg := handle_of_laid hL
  obtain ⟨p, q, hA0, hV, rfl, hfz, hnd⟩ := hW
  have hA : DataW.TrodAll enc Tryd.prog W 0 (fun _ => true) true Tryd.f3.params.toList args.toList ds p := hA0
  have hlt := hA.lt
  rw [Tryd.params3] at hA hval
  obtain ⟨v0, vs0, d0, ds0, p0, q0, hargs, rfl, rfl, h0, r0⟩ := trodAll_cons hA
  obtain ⟨v1, vs1, d1, ds1, p1, q1, hvs1, rfl, rfl, h1, r1⟩ := trodAll_cons r0
  obtain ⟨v2, vs2, d2, ds2, p2, q2, hvs2, rfl, rfl, h2, r2⟩ := trodAll_cons r1
  obtain ⟨hvsn, rfl, rfl⟩ := trodAll_nil r2
  simp only [hvsn, hvs2, hvs1] at hargs
  obtain rfl : args = #[v0, v1, v2] := by cases args; simp_all
  obtain ⟨p0a, cap0, l0, rfl, i0⟩ := open_intsl Tryd.underlying22 Tryd.underlying3 (by kernel_rfl) (hval 0 22 v0 rfl rfl) h0 (fun x hx => hlt x (by simp [hx]))
  obtain ⟨a1, rfl, rfl, rfl, w1⟩ := open_int Tryd.underlying3 (hval 1 3 v1 rfl rfl) h1
  have b1 := bounds_int w1
  obtain ⟨a2, rfl, rfl, rfl, w2⟩ := open_int Tryd.underlying3 (hval 2 3 v2 rfl rfl) h2
  have b2 := bounds_int w2
  obtain ⟨rfl, rfl⟩ := trodVars_none hV
  clear hA0
  exact law_post 4 laid reads rfl Tryd.underlying4 rfl hW' ⟨rfl, rfl, rfl⟩ (by
    by_cases h : bad l0 a1 = 0
    · obtain ⟨h1, h5, hf, _⟩ := bad_zero.1 h
      have hd : bad l0 1 = 0 := bad_zero.2 ⟨h1, h5, hf, by omega, by omega⟩
      by_cases hs : 0 ≤ a2 ∧ a2 ≤ 1000
      · obtain ⟨s, rfl⟩ : ∃ k : Nat, a2 = k := ⟨a2.toNat, by omega⟩
        exact law_good p0a cap0 l0.length l0 a1 s W hg rfl i0 h hd (by omega)
      · exact law_a1 p0a cap0 l0.length l0 a1 a2 W hg rfl i0 h hd hs
    · by_cases hd : bad l0 1 = 0
      · exact law_a2g p0a cap0 l0.length l0 a1 a2 W hg rfl i0 h hd
      · exact law_a2b p0a cap0 l0.length l0 a1 a2 W hg rfl i0 h hd)

set_option maxRecDepth 100000 in
theorem lifted (os : Os) (started : os.Started) (H : Type) (enc : TypeId × Value → H) (F : Stop.Interp) :
    ReturnsInHanded {} Tryd.checked os 3 .any ((OpenSpec.ofChange Rows.aimdSaysSpec).preRow enc Tryd.prog Tryd.f3 Rows.aimdSaysRow.domain false Rows.aimdSaysRow.laid) (((OpenSpec.ofChange Rows.aimdSaysSpec).at F).post enc Tryd.prog Tryd.f3 false true false false) := by
  obtain ⟨places, hx⟩ := reads_wit os enc
  refine returnsInHanded_of_row (C := Tryd.checked) (s := (OpenSpec.ofChange Rows.aimdSaysSpec)) own started (by kernel_rfl) Tryd.func3
    (witness_row_at (enc := enc) (C := Tryd.checked) false (laidWorld os) #[.slice none 0 0, .int .i64 0, .int .i64 0] rfl (by kernel_rfl) (by kernel_rfl) (by kernel_rfl)
      (OpenSpec.preRow_of_cond 8 hx (by kernel_rfl) (fun k hk => by cases hk) (by kernel_rfl) (laid_met os))) ?_
  intro W base args ds gs before hval hW _ hcond _ hL _ _
  exact contract H enc W base args ds gs before hval hW hL

theorem said : Rows.AimdSaysSaid :=
  OpenClaim.holds_of_cond 3 Tryd.f3 rfl rfl rfl rfl rfl rfl rfl ⟨rfl, rfl, rfl, rfl, rfl⟩ rfl rfl rfl rfl rfl (by kernel_rfl) Tryd.func3 (by kernel_rfl)
    (of_decide_eq_true (by kernel_rfl)) (by unfold Func.isWrapper; first | (rw [if_pos (by decide +kernel)]; kernel_rfl) | (rw [if_neg (by decide +kernel)]; exact ⟨rfl, rfl⟩))
    (fun os started H enc _ F => by rw [OpenClaim.pre_eq_preRow]; exact lifted os started H enc F)

theorem plain (f : FuncId) (fn : Func) (hf : Tryd.pinned.checked.prog.funcNamed Rows.aimdSaysRow.func = some f) (hfn : Tryd.pinned.checked.prog.funcs[f]? = some fn) :
    true = Tryd.pinned.checked.prog.looks [] ∧ ∀ (j : Nat) t, fn.params[j]? = some t → Tryd.pinned.checked.prog.wantsStandIn t = false := by
  obtain rfl : f = 3 := Option.some.inj ((show Tryd.prog.funcNamed Rows.aimdSaysRow.func = some 3 by kernel_rfl).symm.trans hf) |>.symm
  obtain rfl : fn = Tryd.f3 := (Option.some.inj (Tryd.func3.symm.trans hfn)).symm
  refine ⟨by kernel_rfl, fun j t ht => ?_⟩
  have hall : Tryd.f3.params.toList.all (fun t => !Tryd.prog.wantsStandIn t) = true := by kernel_rfl
  have hm : t ∈ Tryd.f3.params.toList := by simpa using Array.mem_of_getElem? ht
  have := List.all_eq_true.1 hall t hm
  show Tryd.prog.wantsStandIn t = false
  simpa using this

theorem proved : Rows.AimdSaysCardSaid :=
  Claim7.holds_tied_plain_at .later [] _ _ _ _ said (fun _ h => by cases h) (by kernel_rfl) (fun _ h => by cases h) aimdSays_row_tie rfl ⟨rfl, rfl⟩ (by kernel_rfl) rfl plain (by kernel_rfl)
end Go.Proofs.YtbjoabggdhndmaaDoor.aimdSaysP
