/- The document's Leak. No statement is proved here. -/
import Derived.Test.YtlnnejgahiiknaaDoorGcraMath
import Derived.Test.YtlnnejgahiiknaaDoorTruth
import Derived.Test.YtlnnejgahiiknaaDoorIn2
import Derived.Test.YtlnnejgahiiknaaDoorMost2
namespace Go.Proofs.YtlnnejgahiiknaaDoor.GcraRef
open Go.ChangeShapes Go.WideShapes Go.ChangeAt Go.RowKit Go.Proofs.YtlnnejgahiiknaaDoor.Kit Go.Proofs.YtlnnejgahiiknaaDoor.App Go.Proofs.YtlnnejgahiiknaaDoor.Err Go.Proofs.YtlnnejgahiiknaaDoor.GcraMath Go.Proofs.YtlnnejgahiiknaaDoor.Truth Go.Proofs.YtlnnejgahiiknaaDoor.Cells
set_option linter.unusedVariables false
set_option maxRecDepth 20000
set_option maxHeartbeats 2000000

theorem ref_wrong (s x : Int) (p : Option Addr) (n cap : Nat) (w : World) (h : ¬ Right s x) : Calls Tryd.prog 4 #[.int .i64 s, .int .i64 x, .slice p n cap] w fun e w' => e = .returned (.tuple #[.slice none 0 0, .int .i64 1]) ∧ w' = w := by
  by_cases h1 : 1 ≤ s ∧ s ≤ 20
  · have IN := Lib.hid (in2_any s 1 20 w true (in_true h1))
    have IN2 := Lib.hid (in2_any x 0 100 w false (in_false (fun h2 => h ⟨h1, h2⟩)))
    clear h h1
    go_enter Tryd.func4, Tryd.ntmps4
    go_wp2_with fail
    refine IN.out.mono ?_; rintro e w1 ⟨rfl, rfl⟩
    go_wp2_with fail
    refine IN2.out.mono ?_; rintro e w1 ⟨rfl, rfl⟩
    go_wp2_with fail
    go_ret2
    exact ⟨rfl, rfl⟩
  · have IN := Lib.hid (in2_any s 1 20 w false (in_false h1))
    clear h h1
    go_enter Tryd.func4, Tryd.ntmps4
    go_wp2_with fail
    refine IN.out.mono ?_; rintro e w1 ⟨rfl, rfl⟩
    go_wp2_with fail
    go_ret2
    exact ⟨rfl, rfl⟩
theorem ref_full (s x : Int) (p : Option Addr) (n cap : Nat) (w : World) (h : Right s x) (h2 : 200 < n) : Calls Tryd.prog 4 #[.int .i64 s, .int .i64 x, .slice p n cap] w fun e w' => e = .returned (.tuple #[.slice none 0 0, .int .i64 4]) ∧ w' = w := by
  have IN := Lib.hid (in2_any s 1 20 w true (in_true h.1))
  have IN2 := Lib.hid (in2_any x 0 100 w true (in_true h.2))
  have t1 : decide (200 < (n : Int)) = true := decide_eq_true (by omega)
  clear h h2
  go_enter Tryd.func4, Tryd.ntmps4
  go_wp2_with fail
  refine IN.out.mono ?_; rintro e w1 ⟨rfl, rfl⟩
  go_wp2_with fail
  refine IN2.out.mono ?_; rintro e w1 ⟨rfl, rfl⟩
  go_wp2_with fail
  go_ret2
  exact ⟨rfl, rfl⟩
theorem ref_loop (s x : Int) (p : Option Addr) (n cap : Nat) (l : List Int) (w : World) (hn : n = l.length) (hi : Ints w p cap l) (h : Right s x) (h2 : n ≤ 200) (c : Int) (hc : bad 0 l = c) : Calls Tryd.prog 4 #[.int .i64 s, .int .i64 x, .slice p n cap] w fun e w' => ((c ≠ 0 ∧ e = .returned (.tuple #[.slice none 0 0, .int .i64 c])) ∨ (c = 0 ∧ ∃ v, e = .returned (.tuple #[v, .int .i64 0]) ∧ OwnT w' w.heap.size v (mays s x l))) ∧ Below w.heap.size w w' := by
  have IN01 := Lib.hid (in2_any s 1 20 w true (in_true h.1))
  have IN02 := Lib.hid (in2_any x 0 100 w true (in_true h.2))
  have t1 : decide (200 < (n : Int)) = false := decide_eq_false (by omega)
  have hlen := hi.len_le
  rw [← hn] at hlen
  have HI := Lib.hid hi
  have HN := Lib.hid hn
  have HR := Lib.hid hc
  have HX0 := Lib.hid (⟨rfl, rfl, ok_new h, left_zero⟩ : (0 : Int) = lst l 0 ∧ (0 : Int) = tat s x l 0 ∧ Ok s x 0 0 ∧ Behind l 0)
  have HO0 := Lib.hid (OwnT.nil w w.heap.size)
  obtain ⟨⟨s1, s2⟩, x1, x2⟩ := h
  clear hi hn hc
  go_enter Tryd.func4, Tryd.ntmps4
  go_wp2_with fail
  refine IN01.out.mono ?_; rintro e w1 ⟨rfl, rfl⟩
  go_wp2_with fail
  refine IN02.out.mono ?_; rintro e w0 ⟨rfl, rfl⟩
  clear IN01 IN02
  go_wp2_with fail
  go_loopw [8, 9, 10, 11] (fun ov nv tv iv wr => ∃ (k : Nat) (N T : Int) (vv : Value), vv = ov ∧ k ≤ n ∧ iv = .int .i64 (k : Int) ∧ nv = .int .i64 N ∧ tv = .int .i64 T ∧ Hid (T = lst l k ∧ N = tat s x l k ∧ Ok s x N T ∧ Behind l k) ∧ Hid (OwnT wr w0.heap.size vv (maysTo s x l k)) ∧ Hid (Below w0.heap.size w0 wr)) (fun _ _ _ i _ => n - (intOf i).toNat)
  case atStart => exact ⟨0, 0, 0, _, rfl, Nat.zero_le _, rfl, rfl, rfl, HX0, HO0, Lib.hid (brefl _)⟩
  case round =>
    obtain ⟨k, N, T, vv, rfl, hk, rfl, rfl, rfl, HX, HO, HB⟩ := hrel
    clear HX0 HO0
    by_cases hlt : k < n
    · have hkl : k < l.length := by rw [← HN.out]; exact hlt
      obtain ⟨b, off, rfl, hbw, hcc⟩ := HI.out.2.2.2 (by omega)
      have hck := (HB.out.cell (p := ⟨b, off + k, none⟩) hbw).trans (hcc k hkl)
      clear hcc hbw
      obtain ⟨a, ha⟩ : ∃ a, l[k]?.getD 0 = a := ⟨_, rfl⟩
      have HA := Lib.hid (show tm l k = a from ha)
      rw [ha] at hck
      have HK := Lib.hid hkl
      clear ha hkl
      by_cases h1 : 0 ≤ a ∧ a ≤ 1000
      · have IN := Lib.hid (fun W => in2_any a 0 1000 W true (in_true h1))
        by_cases h3 : a < T
        · have t3 : decide (a < T) = true := decide_eq_true h3
          have HC := Lib.hid (show c = 7 by
            have hx := HX.out
            rw [← HR.out]
            exact left_state HK.out hx.2.2.2 (by rw [HA.out]; exact h1) (by rw [HA.out, ← hx.1]; exact h3))
          clear h1 h3
          go_wp2_with fail
          refine (IN.out _).mono ?_; rintro e w2 ⟨rfl, rfl⟩
          go_wp2_with fail
          go_ret2
          exact ⟨.inl ⟨by rw [HC.out]; decide, by rw [HC.out]; rfl⟩, HB.out⟩
        · have t3 : decide (a < T) = false := decide_eq_false h3
          have HX2 := HX.out
          obtain ⟨hT, hN, hO, hL⟩ := HX2
          obtain ⟨_, o5, o6, o7, o8⟩ := id hO
          have HL := Lib.hid (left_step HK.out hL (by rw [HA.out]; exact h1) (by rw [HA.out, ← hT]; exact h3))
          have HNX := Lib.hid (show tat s x l (k + 1) = nxt s x N a by
            show nxt s x (tat s x l k) (tm l k) = _
            rw [HA.out, ← hN])
          have HO2 := Lib.hid (ok_nxt hO h1 (by omega))
          have HML := Lib.hid (show (maysTo s x l k).length ≤ 200 by rw [maysTo_len]; omega)
          have HLT := Lib.hid (show a = lst l (k + 1) from HA.out.symm)
          have hB0 := HB.out.size
          by_cases hm : N - x ≤ a
          · have t5 : decide (N ≤ a + x) = true := decide_eq_true (by omega)
            have HMS := Lib.hid (show maysTo s x l (k + 1) = maysTo s x l k ++ [true] by
              rw [maysTo_succ, show mayAt s x l k = true from decide_eq_true (by rw [HA.out, ← hN]; exact hm)])
            have MO := Lib.hid (fun W => most2_any N a W (later N a) (by unfold later; split <;> split <;> omega))
            have HE := Lib.hid (show nxt s x N a = later N a + s by unfold nxt; rw [if_pos hm])
            have hl2 : 0 ≤ later N a ∧ later N a ≤ 2120 := by unfold later; split <;> omega
            obtain ⟨hl3, hl4⟩ := hl2
            generalize later N a = M at MO HE hl3 hl4
            clear hT hN hO hL HX h3 hm
            obtain ⟨a1, a2⟩ := h1
            go_wp2_with fail
            refine (IN.out _).mono ?_; rintro e w2 ⟨rfl, rfl⟩
            go_wp2_with fail
            refine (MO.out _).mono ?_; rintro e w2 ⟨rfl, rfl⟩
            go_wp2_with (first
              | (at_builtin
                 refine wp_appC tyT rfl (.tmp 53) (.tmp 55) rfl w0.heap.size vv (maysTo s x l k) (some ⟨w2.heap.size, 0, none⟩) 1 1 [true] rfl (OC.alloc HO.out _) rfl rfl (CI.one layT w2 true _) (by have := HML.out; simp at this ⊢; omega) (Nat.le_trans hB0 (by simp)) ?_
                 intro v8 w8 ho8 hg8 hat8
                 have HB8 : Hid (Below w0.heap.size w0 w8) := Lib.hid (below_oneC HB.out hB0 _ HO.out hg8)
                 have HO8 : Hid (OwnT w8 w0.heap.size v8 (maysTo s x l k ++ [true])) := Lib.hid ho8
                 clear ho8 hg8 hat8))
            go_wp2_with fail
            go_roundw
            case rel => exact ⟨k + 1, M + s, a, v8, rfl, by omega, by first | rfl | go_num, rfl, rfl, Lib.hid ⟨HLT.out, by rw [HNX.out, HE.out], by rw [← HE.out]; exact HO2.out, HL.out⟩, Lib.hid (by rw [HMS.out]; exact HO8.out), HB8⟩
            case measure => simp [intOf]; omega
          · have t5 : decide (N ≤ a + x) = false := decide_eq_false (by omega)
            have HMS := Lib.hid (show maysTo s x l (k + 1) = maysTo s x l k ++ [false] by
              rw [maysTo_succ, show mayAt s x l k = false from decide_eq_false (by rw [HA.out, ← hN]; exact hm)])
            have HE := Lib.hid (show nxt s x N a = N by unfold nxt; rw [if_neg hm])
            clear hT hN hO hL HX h3 hm
            obtain ⟨a1, a2⟩ := h1
            go_wp2_with fail
            refine (IN.out _).mono ?_; rintro e w2 ⟨rfl, rfl⟩
            go_wp2_with (first
              | (at_builtin
                 refine wp_appC tyT rfl (.tmp 53) (.tmp 55) rfl w0.heap.size vv (maysTo s x l k) (some ⟨w2.heap.size, 0, none⟩) 1 1 [false] rfl (OC.alloc HO.out _) rfl rfl (CI.one layT w2 false _) (by have := HML.out; simp at this ⊢; omega) (Nat.le_trans hB0 (by simp)) ?_
                 intro v8 w8 ho8 hg8 hat8
                 have HB8 : Hid (Below w0.heap.size w0 w8) := Lib.hid (below_oneC HB.out hB0 _ HO.out hg8)
                 have HO8 : Hid (OwnT w8 w0.heap.size v8 (maysTo s x l k ++ [false])) := Lib.hid ho8
                 clear ho8 hg8 hat8))
            go_wp2_with fail
            go_roundw
            case rel => exact ⟨k + 1, N, a, v8, rfl, by omega, by first | rfl | go_num, rfl, rfl, Lib.hid ⟨HLT.out, by rw [HNX.out, HE.out], by rw [← HE.out]; exact HO2.out, HL.out⟩, Lib.hid (by rw [HMS.out]; exact HO8.out), HB8⟩
            case measure => simp [intOf]; omega
      · have IN := Lib.hid (fun W => in2_any a 0 1000 W false (in_false h1))
        have HC := Lib.hid (show c = 1 by
          have hx := HX.out
          rw [← HR.out]
          exact left_range HK.out hx.2.2.2 (by rw [HA.out]; exact h1))
        clear h1
        go_wp2_with fail
        refine (IN.out _).mono ?_; rintro e w2 ⟨rfl, rfl⟩
        go_wp2_with fail
        go_ret2
        exact ⟨.inl ⟨by rw [HC.out]; decide, by rw [HC.out]; rfl⟩, HB.out⟩
    · obtain rfl : k = n := by omega
      have HC := Lib.hid (show c = 0 by
        rw [← HR.out]
        exact left_end (by rw [← HN.out]; exact HX.out.2.2.2))
      have HE := Lib.hid (show OwnT wr w0.heap.size vv (mays s x l) by unfold mays; rw [← HN.out]; exact HO.out)
      clear HO HX
      go_wp2_with fail
      go_ret2
      exact ⟨.inr ⟨HC.out, _, rfl, HE.out⟩, HB.out⟩
/-- What the slice holds that is returned. -/
theorem ref_any (s x : Int) (p : Option Addr) (n cap : Nat) (l : List Int) (w : World) (hn : n = l.length) (hi : Ints w p cap l) (c : Int) (hc : code s x l = c) (u : List Bool) (hu : (if c = 0 then mays s x l else []) = u) (m : Nat) (hm : u.length = m) : Calls Tryd.prog 4 #[.int .i64 s, .int .i64 x, .slice p n cap] w fun e w' => (∃ q cq, e = .returned (.tuple #[.slice q m cq, .int .i64 c]) ∧ Tru w' q cq u) ∧ Below w.heap.size w w' := by
  have nil : ∀ w' : World, c ≠ 0 → (∃ q cq, Ending.returned (.tuple #[.slice none 0 0, .int .i64 c]) = .returned (.tuple #[.slice q m cq, .int .i64 c]) ∧ Tru w' q cq u) := fun w' h0 => by
    rw [if_neg h0] at hu
    subst hu
    obtain rfl : m = 0 := hm.symm
    exact ⟨none, 0, rfl, Tru.nil _⟩
  unfold code at hc
  by_cases h : Right s x
  · rw [if_pos h] at hc
    by_cases h2 : 200 < n
    · rw [if_pos (by rw [← hn]; exact h2)] at hc
      subst hc
      refine (ref_full s x p n cap w h h2).mono fun e w' h1 => ?_
      obtain ⟨rfl, rfl⟩ := h1
      exact ⟨nil _ (by decide), brefl _⟩
    · rw [if_neg (by rw [← hn]; exact h2)] at hc
      refine (ref_loop s x p n cap l w hn hi h (by omega) c hc).mono fun e w' h1 => ?_
      obtain ⟨⟨h0, rfl⟩ | ⟨rfl, v, rfl, ho⟩, hb⟩ := h1
      · exact ⟨nil _ h0, hb⟩
      · rw [if_pos rfl] at hu
        rw [hu] at ho
        obtain ⟨q, cq, rfl, ht⟩ := ho.form
        rw [hm]
        exact ⟨⟨q, cq, rfl, ht⟩, hb⟩
  · rw [if_neg h] at hc
    subst hc
    refine (ref_wrong s x p n cap w h).mono fun e w' h1 => ?_
    obtain ⟨rfl, rfl⟩ := h1
    exact ⟨nil _ (by decide), brefl _⟩
end Go.Proofs.YtlnnejgahiiknaaDoor.GcraRef
