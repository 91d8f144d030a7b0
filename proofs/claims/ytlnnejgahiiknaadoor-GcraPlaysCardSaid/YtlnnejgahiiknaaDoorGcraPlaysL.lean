/- GcraPlays: for any arrival times, the decisions and theoretical arrival times are as specified: for every input, the row's handle laid as the card says. -/
import Derived.Test.YtlnnejgahiiknaaDoorCards
import Derived.Test.YtlnnejgahiiknaaDoorTie
import Derived.Deep.DeepHandedRow
import Derived.Lib.LaidTab
import Derived.LaidHandle
import Derived.SevenTiedAt
import Derived.Test.YtlnnejgahiiknaaDoorGcraLeak
import Derived.Test.YtlnnejgahiiknaaDoorGcraRef
import Derived.Test.YtlnnejgahiiknaaDoorRttIn
import Derived.Test.YtlnnejgahiiknaaDoorErrSame
namespace Go.Proofs.YtlnnejgahiiknaaDoor.GcraPlaysL
open Go.ChangeShapes Go.WideShapes Go.ChangeAt Go.RowKit Go.Proofs.YtlnnejgahiiknaaDoor.Kit Go.Proofs.YtlnnejgahiiknaaDoor.App Go.Proofs.YtlnnejgahiiknaaDoor.Err Go.Proofs.YtlnnejgahiiknaaDoor.GcraMath Go.Proofs.YtlnnejgahiiknaaDoor.Truth Go.Proofs.YtlnnejgahiiknaaDoor.Gcra Go.Proofs.YtlnnejgahiiknaaDoor.GcraRef Go.Proofs.YtlnnejgahiiknaaDoor.As
set_option linter.unusedVariables false
set_option maxRecDepth 20000
set_option maxHeartbeats 2000000

abbrev Law (s x : Int) (p : Option Addr) (n cap : Nat) (w : World) : Prop := Calls Tryd.prog 3 #[.int .i64 s, .int .i64 x, .slice p n cap] w fun e w' => e = .returned (.bool true) ∧ Below w.heap.size w w'
theorem prog_any (s x : Int) (p : Option Addr) (n cap : Nat) (l : List Int) (w : World) (hn : n = l.length) (hi : Ints w p cap l) (c : Int) (hc : code s x l = c) (u : List Bool) (hu : (if c = 0 then mays s x l else []) = u) (m : Nat) (hm : u.length = m) : Calls Tryd.prog 5 #[.int .i64 s, .int .i64 x, .slice p n cap] w fun e w' => (∃ q cq, e = .returned (.tuple #[.slice q m cq, er c]) ∧ Tru w' q cq u) ∧ Below w.heap.size w w' := by
  refine (leak_any s x p n cap l w hn hi c hc).mono fun e w' h1 => ?_
  obtain ⟨⟨h0, rfl⟩ | ⟨rfl, rfl, ho⟩, hb⟩ := h1
  · rw [if_neg h0] at hu
    subst hu
    obtain rfl : m = 0 := hm.symm
    exact ⟨⟨none, 0, rfl, Tru.nil _⟩, hb⟩
  · rw [if_pos rfl] at hu
    rw [hu] at ho
    have ht := ho.tru
    have e1 : n = m := ht.1.trans hm
    subst e1
    exact ⟨⟨_, _, rfl, ht.2⟩, hb⟩
theorem law_bad (s x : Int) (p : Option Addr) (n cap : Nat) (l : List Int) (w : World) (hH : Handle w) (hn : n = l.length) (hi : Ints w p cap l) (h : ¬ Right s x) : Law s x p n cap w := by
  obtain ⟨c, hc⟩ : ∃ c, code s x l = c := ⟨_, rfl⟩
  obtain ⟨u, hu⟩ : ∃ u, (if c = 0 then mays s x l else []) = u := ⟨_, rfl⟩
  obtain ⟨m, hm⟩ : ∃ m, u.length = m := ⟨_, rfl⟩
  have LR := Lib.hid (ref_any s x p n cap l w hn hi c hc u hu m hm)
  have LP := Lib.hid (fun W (hb : Below w.heap.size w W) => prog_any s x p n cap l W hn (hi.below hb) c hc u hu m hm)
  have ER := Lib.hid (fun W (hb : Below w.heap.size w W) => err_same c W (hH.below hb))
  have BB := Lib.hid (fun W q c1 r c2 (h1 : Tru W q c1 u) (h2 : Tru W r c2 u) => bools_any q r c1 c2 m m u u W hm.symm hm.symm h1 h2 true (by simp))
  have HH := Lib.hid (fun W (hb : Below w.heap.size w W) => hH.below hb)
  have hlen := hi.len_le
  rw [← hn] at hlen
  have NB := Lib.hid (fun W => new_bad s x W h)
  rw [er_1] at NB
  have E1 := Lib.hid (fun W (hb : Below w.heap.size w W) => err_same 1 W (hH.below hb))
  rw [er_1] at E1
  unfold Law
  by_cases h1 : 1 ≤ s ∧ s ≤ 20
  · have IN := Lib.hid (fun W => Go.Proofs.YtlnnejgahiiknaaDoor.Rtt.in_any s 1 20 W true (in_true h1))
    have IN2 := Lib.hid (fun W => Go.Proofs.YtlnnejgahiiknaaDoor.Rtt.in_any x 0 100 W false (in_false (fun h2 => h ⟨h1, h2⟩)))
    clear h h1 hi hn hc hu hm hH
    generalize er c = V at LP ER
    go_enter Tryd.func3, Tryd.ntmps3
    go_wp2_with fail
    refine LR.out.mono ?_; rintro e w1 ⟨⟨q1, k1, rfl, ht1⟩, hb1⟩
    have HB1 := Lib.hid hb1
    have HT1 := Lib.hid ht1
    clear hb1 ht1 LR
    go_wp2_with fail
    refine (LP.out _ HB1.out).mono ?_; rintro e w2 ⟨⟨q2, k2, rfl, ht2⟩, hb2⟩
    have HB2 := Lib.hid (bcall HB1.out hb2)
    have HT2 := Lib.hid (And.intro (HT1.out.below hb2) ht2)
    clear hb2 ht2 LP HT1 HB1
    go_wp2_with fail
    refine (ER.out _ HB2.out).mono ?_; rintro e w3 ⟨rfl, hb3⟩
    have HB3 := Lib.hid (bcall HB2.out hb3)
    have BC := Lib.hid (BB.out w3 _ _ _ _ (HT2.out.2.below hb3) (HT2.out.1.below hb3))
    clear hb3 HT2 HB2 ER BB
    go_wp2_with fail
    refine BC.out.mono ?_; rintro e w4 ⟨rfl, m4, rfl⟩
    have HB5 := Lib.hid (bdrewN HB3.out m4)
    clear BC HB3
    generalize w3.drewN m4 = w5 at HB5 ⊢
    go_wp2_with fail
    refine (NB.out _).mono ?_; rintro e w6 ⟨rfl, rfl⟩
    go_wp2_with fail
    refine (IN.out _).mono ?_; rintro e w6 ⟨rfl, rfl⟩
    go_wp2_with fail
    refine (IN2.out _).mono ?_; rintro e w6 ⟨rfl, rfl⟩
    go_wp2_with fail
    refine (E1.out _ HB5.out).mono ?_; rintro e w7 ⟨rfl, hb7⟩
    go_wp2_with fail
    go_ret
    exact ⟨rfl, bcall HB5.out hb7⟩
  · have IN := Lib.hid (fun W => Go.Proofs.YtlnnejgahiiknaaDoor.Rtt.in_any s 1 20 W false (in_false h1))
    clear h h1 hi hn hc hu hm hH
    generalize er c = V at LP ER
    go_enter Tryd.func3, Tryd.ntmps3
    go_wp2_with fail
    refine LR.out.mono ?_; rintro e w1 ⟨⟨q1, k1, rfl, ht1⟩, hb1⟩
    have HB1 := Lib.hid hb1
    have HT1 := Lib.hid ht1
    clear hb1 ht1 LR
    go_wp2_with fail
    refine (LP.out _ HB1.out).mono ?_; rintro e w2 ⟨⟨q2, k2, rfl, ht2⟩, hb2⟩
    have HB2 := Lib.hid (bcall HB1.out hb2)
    have HT2 := Lib.hid (And.intro (HT1.out.below hb2) ht2)
    clear hb2 ht2 LP HT1 HB1
    go_wp2_with fail
    refine (ER.out _ HB2.out).mono ?_; rintro e w3 ⟨rfl, hb3⟩
    have HB3 := Lib.hid (bcall HB2.out hb3)
    have BC := Lib.hid (BB.out w3 _ _ _ _ (HT2.out.2.below hb3) (HT2.out.1.below hb3))
    clear hb3 HT2 HB2 ER BB
    go_wp2_with fail
    refine BC.out.mono ?_; rintro e w4 ⟨rfl, m4, rfl⟩
    have HB5 := Lib.hid (bdrewN HB3.out m4)
    clear BC HB3
    generalize w3.drewN m4 = w5 at HB5 ⊢
    go_wp2_with fail
    refine (NB.out _).mono ?_; rintro e w6 ⟨rfl, rfl⟩
    go_wp2_with fail
    refine (IN.out _).mono ?_; rintro e w6 ⟨rfl, rfl⟩
    go_wp2_with fail
    refine (E1.out _ HB5.out).mono ?_; rintro e w7 ⟨rfl, hb7⟩
    go_wp2_with fail
    go_ret
    exact ⟨rfl, bcall HB5.out hb7⟩
set_option maxHeartbeats 8000000 in
theorem law_good (s x : Int) (p : Option Addr) (n cap : Nat) (l : List Int) (w : World) (hH : Handle w) (hn : n = l.length) (hi : Ints w p cap l) (h : Right s x) : Law s x p n cap w := by
  obtain ⟨c, hc⟩ : ∃ c, code s x l = c := ⟨_, rfl⟩
  obtain ⟨u, hu⟩ : ∃ u, (if c = 0 then mays s x l else []) = u := ⟨_, rfl⟩
  obtain ⟨m, hm⟩ : ∃ m, u.length = m := ⟨_, rfl⟩
  have LR := Lib.hid (ref_any s x p n cap l w hn hi c hc u hu m hm)
  have LP := Lib.hid (fun W (hb : Below w.heap.size w W) => prog_any s x p n cap l W hn (hi.below hb) c hc u hu m hm)
  have ER := Lib.hid (fun W (hb : Below w.heap.size w W) => err_same c W (hH.below hb))
  have BB := Lib.hid (fun W q c1 r c2 (h1 : Tru W q c1 u) (h2 : Tru W r c2 u) => bools_any q r c1 c2 m m u u W hm.symm hm.symm h1 h2 true (by simp))
  have HH := Lib.hid (fun W (hb : Below w.heap.size w W) => hH.below hb)
  have hlen := hi.len_le
  rw [← hn] at hlen
  have NG := Lib.hid (fun W => new_good s x W h)
  have IN01 := Lib.hid (fun W => Go.Proofs.YtlnnejgahiiknaaDoor.Rtt.in_any s 1 20 W true (in_true h.1))
  have IN02 := Lib.hid (fun W => Go.Proofs.YtlnnejgahiiknaaDoor.Rtt.in_any x 0 100 W true (in_true h.2))
  have HO0 := Lib.hid (ok_new h)
  have HI := Lib.hid hi
  have HN := Lib.hid hn
  obtain ⟨⟨s1, s2⟩, x1, x2⟩ := h
  clear hi hn hc hu hm hH
  unfold Law
  generalize er c = V at LP ER
  go_enter Tryd.func3, Tryd.ntmps3
  go_wp2_with fail
  refine LR.out.mono ?_; rintro e w1 ⟨⟨q1, k1, rfl, ht1⟩, hb1⟩
  have HB1 := Lib.hid hb1
  have HT1 := Lib.hid ht1
  clear hb1 ht1 LR
  go_wp2_with fail
  refine (LP.out _ HB1.out).mono ?_; rintro e w2 ⟨⟨q2, k2, rfl, ht2⟩, hb2⟩
  have HB2 := Lib.hid (bcall HB1.out hb2)
  have HT2 := Lib.hid (And.intro (HT1.out.below hb2) ht2)
  clear hb2 ht2 LP HT1 HB1
  go_wp2_with fail
  refine (ER.out _ HB2.out).mono ?_; rintro e w3 ⟨rfl, hb3⟩
  have HB3 := Lib.hid (bcall HB2.out hb3)
  have BC := Lib.hid (BB.out w3 _ _ _ _ (HT2.out.2.below hb3) (HT2.out.1.below hb3))
  clear hb3 HT2 HB2 ER BB
  go_wp2_with fail
  refine BC.out.mono ?_; rintro e w4 ⟨rfl, m4, rfl⟩
  have HB5 := Lib.hid (bdrewN HB3.out m4)
  clear BC HB3
  generalize w3.drewN m4 = w5 at HB5 ⊢
  go_wp2_with fail
  refine (NG.out _).mono ?_; rintro e w6 ⟨rfl, hG6, hb6⟩
  have HGG := Lib.hid HB5.out.size
  have HG0 := Lib.hid hG6
  have HB0 := Lib.hid (bcall HB5.out hb6)
  clear hG6 hb6 NG HB5
  generalize w5.heap.size = g at HG0 HGG ⊢
  go_wp2_with fail
  refine (IN01.out _).mono ?_; rintro e w1 ⟨rfl, rfl⟩
  go_wp2_with fail
  refine (IN02.out _).mono ?_; rintro e w1 ⟨rfl, rfl⟩
  clear IN01 IN02
  go_wp2_with fail
  go_loopw [12, 13, 14] (fun nv tv iv wr => ∃ (k : Nat) (N T : Int), k ≤ n ∧ k ≤ 200 ∧ iv = .int .i64 (k : Int) ∧ nv = .int .i64 N ∧ tv = .int .i64 T ∧ Hid (Gat wr g s x N T) ∧ Hid (Ok s x N T) ∧ Hid (Below w.heap.size w wr)) (fun _ _ i _ => n - (intOf i).toNat)
  case atStart => exact ⟨0, 0, 0, Nat.zero_le _, Nat.zero_le _, rfl, rfl, rfl, HG0, HO0, HB0⟩
  case round =>
    obtain ⟨k, N, T, hk, hk2, rfl, rfl, rfl, HGT, HO, HB⟩ := hrel
    clear HG0 HO0 HB0
    by_cases hkn : k < n
    · by_cases hk3 : k < 200
      · have u1 : decide ((k : Int) < (n : Int)) = true := decide_eq_true (by omega)
        have u2 : decide ((k : Int) < 200) = true := decide_eq_true (by omega)
        obtain ⟨b, off, rfl, hbw, hcc⟩ := HI.out.2.2.2 (by have := HN.out; omega)
        have hck := (HB.out.cell (p := ⟨b, off + k, none⟩) hbw).trans (hcc k (by have := HN.out; omega))
        clear hcc hbw
        generalize l[k]?.getD 0 = a at hck
        by_cases h1 : 0 ≤ a ∧ a ≤ 1000
        · by_cases h2 : a < T
          · have C := Lib.hid (come_state g s x N T a wr HGT.out h1 h2)
            rw [er_7] at C
            have IN := Lib.hid (fun W => Go.Proofs.YtlnnejgahiiknaaDoor.Rtt.in_any a 0 1000 W true (in_true h1))
            have t3 : decide (a < T) = true := decide_eq_true h2
            have HO4 := HO
            clear h1 h2
            go_wp2_with fail
            refine (IN.out _).mono ?_; rintro e w2 ⟨rfl, rfl⟩
            go_wp2_with fail
            refine C.out.mono ?_; rintro e w6 ⟨rfl, rfl⟩
            have HG6 := HGT
            have HB6 := HB
            clear C
            have E6 := Lib.hid (err_same 7 w6 (HH.out _ HB6.out))
            rw [er_7] at E6
            go_wp2_with fail
            refine E6.out.mono ?_; rintro e w7 ⟨rfl, hb7⟩
            have HG7 := Lib.hid (HG6.out.below hb7)
            have HB7 := Lib.hid (bcall HB6.out hb7)
            clear hb7 E6 HG6 HB6
            have NX := Lib.hid (next_any g s x N T w7 HG7.out)
            have t7 : (false != false) = false := by simp
            have t8 : (N != N) = false := by simp
            go_wp2_with fail
            refine NX.out.mono ?_; rintro e w8 ⟨rfl, rfl⟩
            go_wp2_with fail
            go_roundw
            case rel => exact ⟨k + 1, N, T, by omega, by omega, by first | rfl | go_num, rfl, rfl, HG7, HO4, HB7⟩
            case measure => simp [intOf]; omega
          · have IN := Lib.hid (fun W => Go.Proofs.YtlnnejgahiiknaaDoor.Rtt.in_any a 0 1000 W true (in_true h1))
            have t3 : decide (a < T) = false := decide_eq_false h2
            have HO4 := Lib.hid (ok_nxt HO.out h1 (by omega))
            have C := Lib.hid (come_any g s x N T a wr HGT.out HO.out h1 h2)
            obtain ⟨a1, a2⟩ := h1
            obtain ⟨_, o5, o6, o7, o8⟩ := id HO.out
            clear h2 HO
            by_cases hm : N - x ≤ a
            · have t5 : decide (N ≤ a + x) = true := decide_eq_true (by omega)
              rw [decide_eq_true hm] at C
              by_cases hn : N < a
              · have t6 : decide (N < a) = true := decide_eq_true hn
                rw [show nxt s x N a = a + s by unfold nxt later; rw [if_pos hm, if_pos hn]] at C HO4
                clear hm hn
                go_wp2_with fail
                refine (IN.out _).mono ?_; rintro e w2 ⟨rfl, rfl⟩
                go_wp2_with fail
                refine C.out.mono ?_; rintro e w6 ⟨rfl, hG6, hg6⟩
                have HG6 := Lib.hid hG6
                have HB6 := Lib.hid (gbelow HB.out (Nat.le_refl _) hg6 HGG.out)
                clear hG6 hg6 HGT HB
                clear C
                have E6 := Lib.hid (err_same 0 w6 (HH.out _ HB6.out))
                rw [er_0] at E6
                go_wp2_with fail
                refine E6.out.mono ?_; rintro e w7 ⟨rfl, hb7⟩
                have HG7 := Lib.hid (HG6.out.below hb7)
                have HB7 := Lib.hid (bcall HB6.out hb7)
                clear hb7 E6 HG6 HB6
                have NX := Lib.hid (next_any g s x (a + s) a w7 HG7.out)
                have t7 : (true != true) = false := by simp
                have t8 : ((a + s) != (a + s)) = false := by simp
                go_wp2_with fail
                refine NX.out.mono ?_; rintro e w8 ⟨rfl, rfl⟩
                go_wp2_with fail
                go_roundw
                case rel => exact ⟨k + 1, (a + s), a, by omega, by omega, by first | rfl | go_num, rfl, rfl, HG7, HO4, HB7⟩
                case measure => simp [intOf]; omega
              · have t6 : decide (N < a) = false := decide_eq_false hn
                rw [show nxt s x N a = N + s by unfold nxt later; rw [if_pos hm, if_neg hn]] at C HO4
                clear hm hn
                go_wp2_with fail
                refine (IN.out _).mono ?_; rintro e w2 ⟨rfl, rfl⟩
                go_wp2_with fail
                refine C.out.mono ?_; rintro e w6 ⟨rfl, hG6, hg6⟩
                have HG6 := Lib.hid hG6
                have HB6 := Lib.hid (gbelow HB.out (Nat.le_refl _) hg6 HGG.out)
                clear hG6 hg6 HGT HB
                clear C
                have E6 := Lib.hid (err_same 0 w6 (HH.out _ HB6.out))
                rw [er_0] at E6
                go_wp2_with fail
                refine E6.out.mono ?_; rintro e w7 ⟨rfl, hb7⟩
                have HG7 := Lib.hid (HG6.out.below hb7)
                have HB7 := Lib.hid (bcall HB6.out hb7)
                clear hb7 E6 HG6 HB6
                have NX := Lib.hid (next_any g s x (N + s) a w7 HG7.out)
                have t7 : (true != true) = false := by simp
                have t8 : ((N + s) != (N + s)) = false := by simp
                go_wp2_with fail
                refine NX.out.mono ?_; rintro e w8 ⟨rfl, rfl⟩
                go_wp2_with fail
                go_roundw
                case rel => exact ⟨k + 1, (N + s), a, by omega, by omega, by first | rfl | go_num, rfl, rfl, HG7, HO4, HB7⟩
                case measure => simp [intOf]; omega
            · have t5 : decide (N ≤ a + x) = false := decide_eq_false (by omega)
              rw [decide_eq_false hm] at C
              rw [show nxt s x N a = N by unfold nxt; rw [if_neg hm]] at C HO4
              clear hm
              go_wp2_with fail
              refine (IN.out _).mono ?_; rintro e w2 ⟨rfl, rfl⟩
              go_wp2_with fail
              refine C.out.mono ?_; rintro e w6 ⟨rfl, hG6, hg6⟩
              have HG6 := Lib.hid hG6
              have HB6 := Lib.hid (gbelow HB.out (Nat.le_refl _) hg6 HGG.out)
              clear hG6 hg6 HGT HB
              clear C
              have E6 := Lib.hid (err_same 0 w6 (HH.out _ HB6.out))
              rw [er_0] at E6
              go_wp2_with fail
              refine E6.out.mono ?_; rintro e w7 ⟨rfl, hb7⟩
              have HG7 := Lib.hid (HG6.out.below hb7)
              have HB7 := Lib.hid (bcall HB6.out hb7)
              clear hb7 E6 HG6 HB6
              have NX := Lib.hid (next_any g s x N a w7 HG7.out)
              have t7 : (false != false) = false := by simp
              have t8 : (N != N) = false := by simp
              go_wp2_with fail
              refine NX.out.mono ?_; rintro e w8 ⟨rfl, rfl⟩
              go_wp2_with fail
              go_roundw
              case rel => exact ⟨k + 1, N, a, by omega, by omega, by first | rfl | go_num, rfl, rfl, HG7, HO4, HB7⟩
              case measure => simp [intOf]; omega
        · have C := Lib.hid (come_range g s x N T a wr HGT.out h1)
          rw [er_1] at C
          have IN := Lib.hid (fun W => Go.Proofs.YtlnnejgahiiknaaDoor.Rtt.in_any a 0 1000 W false (in_false h1))
          have HO4 := HO
          clear h1
          go_wp2_with fail
          refine (IN.out _).mono ?_; rintro e w2 ⟨rfl, rfl⟩
          go_wp2_with fail
          refine C.out.mono ?_; rintro e w6 ⟨rfl, rfl⟩
          have HG6 := HGT
          have HB6 := HB
          clear C
          have E6 := Lib.hid (err_same 1 w6 (HH.out _ HB6.out))
          rw [er_1] at E6
          go_wp2_with fail
          refine E6.out.mono ?_; rintro e w7 ⟨rfl, hb7⟩
          have HG7 := Lib.hid (HG6.out.below hb7)
          have HB7 := Lib.hid (bcall HB6.out hb7)
          clear hb7 E6 HG6 HB6
          have NX := Lib.hid (next_any g s x N T w7 HG7.out)
          have t7 : (false != false) = false := by simp
          have t8 : (N != N) = false := by simp
          go_wp2_with fail
          refine NX.out.mono ?_; rintro e w8 ⟨rfl, rfl⟩
          go_wp2_with fail
          go_roundw
          case rel => exact ⟨k + 1, N, T, by omega, by omega, by first | rfl | go_num, rfl, rfl, HG7, HO4, HB7⟩
          case measure => simp [intOf]; omega
      · have u1 : decide ((k : Int) < (n : Int)) = true := decide_eq_true (by omega)
        have u2 : decide ((k : Int) < 200) = false := decide_eq_false (by omega)
        go_wp2_with fail
        go_ret
        exact ⟨rfl, HB.out⟩
    · have u1 : decide ((k : Int) < (n : Int)) = false := decide_eq_false (by omega)
      go_wp2_with fail
      go_ret
      exact ⟨rfl, HB.out⟩

theorem reads : Tryd.f3.params.toList.all (fun t => Tryd.prog.readableRec t && decide (t < Tryd.prog.types.size)) = true := by kernel_rfl
theorem et : Tryd.prog.globalNamed "errors.errorType" = some 0 := by kernel_rfl
theorem rt : (Tryd.prog.cutTypes.find? (·.1 == "internal/reflectlite.rtype")).map (·.2) = some 63 := by kernel_rfl
theorem oneRow : ((List.range Tryd.prog.types.size).filter fun t => Tryd.prog.rowNamed t [101, 114, 114, 111, 114]) = [27] := by kernel_rfl

theorem handle_of_laid {W : World} (h : laidMetH Tryd.prog Rows.gcraPlaysRow.laid W) : Handle W := by
  have h' : laidMet Tryd.prog [] W ∧ handlesMet Tryd.prog Rows.gcraPlaysRow.laid W := h
  obtain ⟨name, u, ty, e1, e2, e3, e4, e5⟩ := h'.2 _ (List.mem_singleton.2 rfl)
  have en : name = [101, 114, 114, 111, 114] := (Option.some.inj e1).symm
  subst en
  obtain rfl := Option.some.inj (rt.symm.trans e2)
  have hm : ty ∈ (List.range Tryd.prog.types.size).filter fun t => Tryd.prog.rowNamed t [101, 114, 114, 111, 114] := List.mem_filter.2 ⟨List.mem_range.2 e3, e4⟩
  rw [oneRow] at hm
  obtain rfl := List.mem_singleton.1 hm
  have hh : typeHandle Tryd.prog 27 = .pointer (some ⟨1, 27, none⟩) := by kernel_rfl
  rw [hh] at e5
  have e6 := World.var?_cell et e5 0
  unfold Handle
  simpa using e6

noncomputable def laidWorld (os : Os) : World :=
  { World.holding Tryd.prog os ⟨#[], #[], []⟩ with heap := (World.holding Tryd.prog os ⟨#[], #[], []⟩).heap.modify 0 fun
      | .cells _ t frozen => .cells #[.iface 63 (.agg #[.pointer (some ⟨1, 27, none⟩)])] t frozen
      | o => o }
theorem laid_met (os : Os) : laidMetH Tryd.prog Rows.gcraPlaysRow.laid ((laidWorld os).forCall (fun _ _ => 0) ⟨#[], #[.int .i64 0, .int .i64 0, .slice none 0 0], []⟩).memory :=
  laidMetH_of_parts (laidMet_nil _ _) (by kernel_rfl)
theorem reads_wit (os : Os) {H : Type} (enc : TypeId × Value → H) : ∃ places, DataW.whole enc Tryd.prog ((laidWorld os).forCall (fun _ _ => 0) ⟨#[], #[.int .i64 0, .int .i64 0, .slice none 0 0], []⟩).memory Tryd.f3.params.toList Rows.gcraPlaysSpec.vars false (#[.int .i64 0, .int .i64 0, .slice none 0 0] : Array Value).toList 8 = some ([.lit (.int .i64 0), .lit (.int .i64 0), .nil], [], places) :=
  ⟨[], by kernel_rfl⟩

theorem contract (H : Type) (enc : TypeId × Value → H) (W : World) (base : Nat) (args : Array Value) (ds gs : List (DataW H)) (before : List MemPlace)
    (hval : ∀ (j : Nat) t v, Tryd.f3.params[j]? = some t → args[j]? = some v → Value.okWide Tryd.prog W .any base t v)
    (hW : DataW.Whole enc Tryd.prog Tryd.f3.params.toList Rows.gcraPlaysSpec.vars false W args.toList ds gs before) (hL : laidMetH Tryd.prog Rows.gcraPlaysRow.laid W) :
    Calls Tryd.prog 3 args W fun e W' => ∃ v, e = .returned v ∧ Rows.gcraPlaysSpec.post enc Tryd.prog Tryd.f3 false true false false W args v W' := by
  have hW' := hW
  have hg := handle_of_laid hL
  obtain ⟨p, q, hA0, hV, rfl, hfz, hnd⟩ := hW
  have hA : DataW.TrodAll enc Tryd.prog W 0 (fun _ => true) true Tryd.f3.params.toList args.toList ds p := hA0
  have hlt := hA.lt
  rw [Tryd.params3] at hA hval
  obtain ⟨v0, vs0, d0, ds0, p0, q0, hargs, rfl, rfl, h0, r0⟩ := trodAll_cons hA
  obtain ⟨v1, vs1, d1, ds1, p1, q1, hvs1, rfl, rfl, h1, r1⟩ := trodAll_cons r0
  obtain ⟨v2, vs2, d2, ds2, p2, q2, hvs2, rfl, rfl, h2, r2⟩ := trodAll_cons r1
  obtain ⟨hvsn, rfl, rfl⟩ := trodAll_nil r2
  simp only [hvsn, hvs2, hvs1] at hargs
  obtain rfl : args = #[v0, v1, v2] := by cases args; simp_all
  obtain ⟨a0, rfl, rfl, rfl, w0⟩ := open_int Tryd.underlying3 (hval 0 3 v0 rfl rfl) h0
  have b0 := bounds_int w0
  obtain ⟨a1, rfl, rfl, rfl, w1⟩ := open_int Tryd.underlying3 (hval 1 3 v1 rfl rfl) h1
  have b1 := bounds_int w1
  obtain ⟨p2a, cap2, l2, rfl, i2⟩ := open_intsl Tryd.underlying22 Tryd.underlying3 (by kernel_rfl) (hval 2 22 v2 rfl rfl) h2 (fun x hx => hlt x (by simp [hx]))
  obtain ⟨rfl, rfl⟩ := trodVars_none hV
  clear hA0
  exact law_post 4 laid reads rfl Tryd.underlying4 rfl hW' ⟨rfl, rfl, rfl⟩ (by
    by_cases h : Right a0 a1
    · exact law_good a0 a1 _ _ _ l2 W hg rfl i2 h
    · exact law_bad a0 a1 _ _ _ l2 W hg rfl i2 h)

set_option maxRecDepth 100000 in
theorem lifted (os : Os) (started : os.Started) (H : Type) (enc : TypeId × Value → H) (F : Stop.Interp) :
    ReturnsInHanded {} Tryd.checked os 3 .any ((OpenSpec.ofChange Rows.gcraPlaysSpec).preRow enc Tryd.prog Tryd.f3 Rows.gcraPlaysRow.domain false Rows.gcraPlaysRow.laid) (((OpenSpec.ofChange Rows.gcraPlaysSpec).at F).post enc Tryd.prog Tryd.f3 false true false false) := by
  obtain ⟨places, hx⟩ := reads_wit os enc
  refine returnsInHanded_of_row (C := Tryd.checked) (s := (OpenSpec.ofChange Rows.gcraPlaysSpec)) own started (by kernel_rfl) Tryd.func3
    (witness_row_at (enc := enc) (C := Tryd.checked) false (laidWorld os) #[.int .i64 0, .int .i64 0, .slice none 0 0] rfl (by kernel_rfl) (by kernel_rfl) (by kernel_rfl)
      (OpenSpec.preRow_of_cond 8 hx (by kernel_rfl) (fun k hk => by cases hk) (by kernel_rfl) (laid_met os))) ?_
  intro W base args ds gs before hval hW _ hcond _ hL _ _
  exact contract H enc W base args ds gs before hval hW hL

theorem said : Rows.GcraPlaysSaid :=
  OpenClaim.holds_of_cond 3 Tryd.f3 rfl rfl rfl rfl rfl rfl rfl ⟨rfl, rfl, rfl, rfl, rfl⟩ rfl rfl rfl rfl rfl (by kernel_rfl) Tryd.func3 (by kernel_rfl)
    (of_decide_eq_true (by kernel_rfl)) (by unfold Func.isWrapper; first | (rw [if_pos (by decide +kernel)]; kernel_rfl) | (rw [if_neg (by decide +kernel)]; exact ⟨rfl, rfl⟩))
    (fun os started H enc _ F => by rw [OpenClaim.pre_eq_preRow]; exact lifted os started H enc F)

theorem plain (f : FuncId) (fn : Func) (hf : Tryd.pinned.checked.prog.funcNamed Rows.gcraPlaysRow.func = some f) (hfn : Tryd.pinned.checked.prog.funcs[f]? = some fn) :
    true = Tryd.pinned.checked.prog.looks [] ∧ ∀ (j : Nat) t, fn.params[j]? = some t → Tryd.pinned.checked.prog.wantsStandIn t = false := by
  obtain rfl : f = 3 := Option.some.inj ((show Tryd.prog.funcNamed Rows.gcraPlaysRow.func = some 3 by kernel_rfl).symm.trans hf) |>.symm
  obtain rfl : fn = Tryd.f3 := (Option.some.inj (Tryd.func3.symm.trans hfn)).symm
  refine ⟨by kernel_rfl, fun j t ht => ?_⟩
  have hall : Tryd.f3.params.toList.all (fun t => !Tryd.prog.wantsStandIn t) = true := by kernel_rfl
  have hm : t ∈ Tryd.f3.params.toList := by simpa using Array.mem_of_getElem? ht
  have := List.all_eq_true.1 hall t hm
  show Tryd.prog.wantsStandIn t = false
  simpa using this

theorem proved : Rows.GcraPlaysCardSaid :=
  Claim7.holds_tied_plain_at .later [] _ _ _ _ said (fun _ h => by cases h) (by kernel_rfl) (fun _ h => by cases h) gcraPlays_row_tie rfl ⟨rfl, rfl⟩ (by kernel_rfl) rfl plain (by kernel_rfl)
end Go.Proofs.YtlnnejgahiiknaaDoor.GcraPlaysL
