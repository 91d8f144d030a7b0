/- The contracts of slices.stableCmpFunc, slices.SortStableFunc, slices.Clone, and of frag.Order. No statement is proved here. -/
import Derived.Test.YtaflpdagehocfaaDoorSort4
import Derived.Test.YtaflpdagehocfaaDoorJoinLaws
namespace Go.Proofs.YtaflpdagehocfaaDoor.Srt
open Go.Proofs.YtaflpdagehocfaaDoor.Part
open Go.Shelf Go.RowKit Go.Lib Go.Sort Go.ChangeAt Go.Proofs.YtaflpdagehocfaaDoor.Kit
set_option linter.unusedVariables false
set_option maxRecDepth 100000

theorem insertion_z (blk off cap a b : Nat) (x y : Int) (sz : Nat) (d0 d : Array Tg) (w0 w : World) (hx : x = (a : Int)) (hy : y = (b : Int)) (hsz0 : sz = d.size) (R : RowK encT 3 w0 blk off d0) (hs : d0.size = d.size) (S : SWK encT 3 w0 blk off d w) (hab : a < b) (hb : b ≤ d.size) (hsz : d.size ≤ 40) (hT : ∀ p q, a ≤ p → p < q → q < b → (fn d p).2 < (fn d q).2) :
    Calls Tryd.prog 39 #[.slice (some ⟨blk, off, none⟩) sz cap, .int .i64 x, .int .i64 y, .func (.func 23) #[] #[]] w fun e w' => e = .returned (.tuple #[]) ∧ ∃ d', SWK encT 3 w0 blk off d' w' ∧ d'.size = d.size ∧ PermIn a b d d' ∧ Inc a b (fn d') := by
  subst hx; subst hy
  exact insertion_any blk off cap a b sz d0 d w0 w hsz0 R hs S hab hb hsz hT
theorem insertion_none_z (p : Option Addr) (blk off cap a sz : Nat) (g : Value) (w : World) (h : a ≤ 1000) (x : Int) (hx : x = (a : Int)) :
    Calls Tryd.prog 39 #[.slice p sz cap, .int .i64 x, .int .i64 x, g] w fun e w' => e = .returned (.tuple #[]) ∧ w' = w := by
  subst hx
  exact insertion_none p blk off cap a sz g w h
theorem sym_z (blk off cap a m b : Nat) (x y z : Int) (sz : Nat) (d0 d : Array Tg) (w0 w : World) (hx : x = (a : Int)) (hy : y = (m : Int)) (hz : z = (b : Int)) (R : RowK encT 3 w0 blk off d0) (hs : d0.size = sz) (hsz : sz ≤ 40) (hd : d.size = sz) (S : SWK encT 3 w0 blk off d w) (ham : a < m) (hmb : m < b) (hb : b ≤ sz) (hP : Pre a m b (fn d)) :
    Calls Tryd.prog 40 #[.slice (some ⟨blk, off, none⟩) sz cap, .int .i64 x, .int .i64 y, .int .i64 z, .func (.func 23) #[] #[]] w fun e w' => e = .returned (.tuple #[]) ∧ ∃ d', SWK encT 3 w0 blk off d' w' ∧ d'.size = d.size ∧ PermIn a b d d' ∧ Inc a b (fn d') := by
  subst hx; subst hy; subst hz
  exact sym_any blk off cap sz d0 w0 R hs hsz (b - a) a m b d w (Nat.le_refl _) hd S ham hmb hb hP
theorem stable_none (p : Option Addr) (cap : Nat) (w : World) :
    Calls Tryd.prog 32 #[.slice p 0 cap, .int .i64 0, .func (.func 23) #[] #[]] w fun e w' => e = .returned (.tuple #[]) ∧ w' = w := by
  have IN : Aside _ := @insertion_none_z
  go_enter Tryd.func32, Tryd.ntmps32
  go_wp2_with fail
  refine wp_loop_rounds 1 ?_
  rw [rounds_succ]
  go_wp2_with fail
  refine (IN.out p 0 0 cap 0 0 _ _ (by omega) 0 rfl).mono ?_
  rintro e w9 ⟨rfl, rfl⟩
  go_wp2_with fail
  refine wp_loop_rounds 1 ?_
  rw [rounds_succ]
  go_wp2_with fail
  go_end0
  exact ⟨rfl, rfl⟩
set_option maxHeartbeats 2000000 in
theorem stable_few (blk off cap sz : Nat) (d0 d : Array Tg) (w0 w : World) (hsz0 : sz = d.size) (R : RowK encT 3 w0 blk off d0) (hs : d0.size = d.size) (S : SWK encT 3 w0 blk off d w) (hsz : d.size ≤ 40) (h0 : 0 < d.size) (h20 : d.size < 20) (hT : ∀ p q, p < q → q < d.size → (fn d p).2 < (fn d q).2) :
    Calls Tryd.prog 32 #[.slice (some ⟨blk, off, none⟩) sz cap, .int .i64 sz, .func (.func 23) #[] #[]] w fun e w' => e = .returned (.tuple #[]) ∧ ∃ d', SWK encT 3 w0 blk off d' w' ∧ d'.size = d.size ∧ PermIn 0 d.size d d' ∧ Inc 0 d.size (fn d') := by
  subst hsz0
  have IA : Aside _ := @insertion_z
  have IN : Aside _ := @insertion_none_z
  have SM : Aside _ := @sym_z
  have T : Aside _ := hT
  have S0 : Aside (SWK encT 3 w0 blk off d w) := S
  clear S hT
  have t1 : decide ((20 : Int) ≤ (d.size : Int)) = false := decide_eq_false (by omega)
  have t2 : decide ((20 : Int) < (d.size : Int)) = false := decide_eq_false (by omega)
  go_enter Tryd.func32, Tryd.ntmps32
  go_wp2_with fail
  refine wp_loop_rounds 1 ?_
  rw [rounds_succ]
  go_wp2_with fail
  refine (IA.out blk off cap (0) (d.size) (0) ((d.size : Int)) d.size d0 d w0 _ rfl rfl (by omega) R (by omega) S0.out (by omega) (by omega) (by omega) (fun p q _ h1 h2 => T.out p q h1 h2)).mono ?_
  rintro e w1 ⟨rfl, d1, S1, hd1, hp1, hi1⟩
  have T1 : Aside _ := S1
  have Q1 := Lib.hid (And.intro hp1 hi1)
  clear S1 hp1 hi1
  go_wp2_with fail
  refine wp_loop_rounds 1 ?_
  rw [rounds_succ]
  go_wp2_with fail
  go_end0
  exact ⟨rfl, d1, T1.out, hd1, Q1.out.1, Q1.out.2⟩
set_option maxHeartbeats 2000000 in
theorem stable_20 (blk off cap sz : Nat) (d0 d : Array Tg) (w0 w : World) (hsz0 : sz = d.size) (R : RowK encT 3 w0 blk off d0) (hs : d0.size = d.size) (S : SWK encT 3 w0 blk off d w) (hsz : d.size ≤ 40) (h20 : d.size = 20) (hT : ∀ p q, p < q → q < d.size → (fn d p).2 < (fn d q).2) :
    Calls Tryd.prog 32 #[.slice (some ⟨blk, off, none⟩) sz cap, .int .i64 sz, .func (.func 23) #[] #[]] w fun e w' => e = .returned (.tuple #[]) ∧ ∃ d', SWK encT 3 w0 blk off d' w' ∧ d'.size = d.size ∧ PermIn 0 d.size d d' ∧ Inc 0 d.size (fn d') := by
  subst hsz0
  have IA : Aside _ := @insertion_z
  have IN : Aside _ := @insertion_none_z
  have SM : Aside _ := @sym_z
  have T : Aside _ := hT
  have S0 : Aside (SWK encT 3 w0 blk off d w) := S
  clear S hT
  have t1 : decide ((20 : Int) ≤ (d.size : Int)) = true := decide_eq_true (by omega)
  have t2 : decide ((20 : Int) < (d.size : Int)) = false := decide_eq_false (by omega)
  have t3 : decide ((40 : Int) ≤ (d.size : Int)) = false := decide_eq_false (by omega)
  have H20 := Lib.hid h20
  have h20a : 20 ≤ d.size := by omega
  clear h20
  go_enter Tryd.func32, Tryd.ntmps32
  go_wp2_with fail
  refine wp_loop_rounds 2 ?_
  rw [rounds_succ]
  go_wp2_with fail
  refine (IA.out blk off cap (0) (20) (0) (20) d.size d0 d w0 _ rfl rfl (by omega) R (by omega) S0.out (by omega) (by omega) (by omega) (fun p q _ h1 h2 => T.out p q h1 (by omega))).mono ?_
  rintro e w1 ⟨rfl, d1, S1, hd1, hp1, hi1⟩
  have T1 : Aside _ := S1
  have Q1 := Lib.hid (And.intro hp1 hi1)
  clear S1 hp1 hi1
  go_wp2_with fail
  rw [rounds_succ]
  go_wp2_with fail
  rw [show ((d.size : Nat) : Int) = 20 by have := H20.out; omega]
  refine (IN.out (some ⟨blk, off, none⟩) blk off cap 20 d.size _ _ (by omega) 20 rfl).mono ?_
  rintro e w9 ⟨rfl, rfl⟩
  go_wp2_with fail
  refine wp_loop_rounds 1 ?_
  rw [rounds_succ]
  go_wp2_with fail
  go_end0
  have h20 := H20.out
  refine ⟨rfl, d1, T1.out, hd1, ?_, ?_⟩
  · rw [h20]; exact Q1.out.1
  · rw [h20]; exact Q1.out.2
set_option maxHeartbeats 2000000 in
theorem stable_30 (blk off cap sz : Nat) (d0 d : Array Tg) (w0 w : World) (hsz0 : sz = d.size) (R : RowK encT 3 w0 blk off d0) (hs : d0.size = d.size) (S : SWK encT 3 w0 blk off d w) (hsz : d.size ≤ 40) (h20 : 20 < d.size) (h40 : d.size < 40) (hT : ∀ p q, p < q → q < d.size → (fn d p).2 < (fn d q).2) :
    Calls Tryd.prog 32 #[.slice (some ⟨blk, off, none⟩) sz cap, .int .i64 sz, .func (.func 23) #[] #[]] w fun e w' => e = .returned (.tuple #[]) ∧ ∃ d', SWK encT 3 w0 blk off d' w' ∧ d'.size = d.size ∧ PermIn 0 d.size d d' ∧ Inc 0 d.size (fn d') := by
  subst hsz0
  have IA : Aside _ := @insertion_z
  have IN : Aside _ := @insertion_none_z
  have SM : Aside _ := @sym_z
  have T : Aside _ := hT
  have S0 : Aside (SWK encT 3 w0 blk off d w) := S
  clear S hT
  have t1 : decide ((20 : Int) ≤ (d.size : Int)) = true := decide_eq_true (by omega)
  have t2 : decide ((20 : Int) < (d.size : Int)) = true := decide_eq_true (by omega)
  have t3 : decide ((40 : Int) ≤ (d.size : Int)) = false := decide_eq_false (by omega)
  have t4 : decide ((40 : Int) < (d.size : Int)) = false := decide_eq_false (by omega)
  go_enter Tryd.func32, Tryd.ntmps32
  go_wp2_with fail
  refine wp_loop_rounds 2 ?_
  rw [rounds_succ]
  go_wp2_with fail
  refine (IA.out blk off cap (0) (20) (0) (20) d.size d0 d w0 _ rfl rfl (by omega) R (by omega) S0.out (by omega) (by omega) (by omega) (fun p q _ h1 h2 => T.out p q h1 (by omega))).mono ?_
  rintro e w1 ⟨rfl, d1, S1, hd1, hp1, hi1⟩
  have T1 : Aside _ := S1
  have Q1 := Lib.hid (And.intro hp1 hi1)
  clear S1 hp1 hi1
  go_wp2_with fail
  rw [rounds_succ]
  go_wp2_with fail
  refine (IA.out blk off cap (20) (d.size) (20) ((d.size : Int)) d.size d0 d1 w0 _ rfl rfl (by omega) R (by omega) T1.out (by omega) (by omega) (by omega) (fun p q h0 h1 h2 => by rw [permIn_fn Q1.out.1 p (.inr h0), permIn_fn Q1.out.1 q (.inr (by omega))]; exact T.out p q h1 h2)).mono ?_
  rintro e w2 ⟨rfl, d2, S2, hd2, hp2, hi2⟩
  have T2 : Aside _ := S2
  have Q2 := Lib.hid (And.intro hp2 hi2)
  clear S2 hp2 hi2
  go_wp2_with fail
  refine wp_loop_rounds 2 ?_
  rw [rounds_succ]
  go_wp2_with fail
  refine wp_loop_rounds 1 ?_
  rw [rounds_succ]
  go_wp2_with fail
  have PR := Lib.hid (⟨fun i j h1 h2 h3 => by rw [permIn_fn Q2.out.1 i (.inl (by omega)), permIn_fn Q2.out.1 j (.inl h3)]; exact Q1.out.2 i j h1 h2 h3, Q2.out.2, fun i j h1 h2 h3 h4 => by
      rw [permIn_fn Q2.out.1 i (.inl h2)]
      refine permIn_all d1 d2 20 d.size (fun y => (fn d1 i).2 < y.2) (by omega) Q2.out.1 (fun j' g1 g2 => ?_) j h3 h4
      have e : d1[j']! = fn d j' := permIn_fn Q1.out.1 j' (.inr g1)
      rw [e]
      exact permIn_all d d1 0 20 (fun x => x.2 < (fn d j').2) (by omega) Q1.out.1 (fun i' g3 g4 => T.out i' j' (by omega) g2) i h1 h2⟩ : Pre 0 20 d.size (fn d2))
  refine (SM.out blk off cap 0 20 d.size 0 20 (d.size : Int) d.size d0 d2 w0 _ rfl rfl (by omega) R (by omega) (by omega) (by omega) T2.out (by omega) (by omega) (by omega) PR.out).mono ?_
  rintro e w3 ⟨rfl, d3, S3, hd3, hp3, hi3⟩
  have T3 : Aside _ := S3
  have Q3 := Lib.hid (And.intro hp3 hi3)
  clear S3 hp3 hi3
  go_wp2_with fail
  rw [rounds_succ]
  go_wp2_with fail
  go_end0
  exact ⟨rfl, d3, T3.out, by omega, permIn_trans _ _ _ _ _ (permIn_trans _ _ _ _ _ (perm_wide Q1.out.1 (Nat.le_refl _) (by omega) (by omega)) (perm_wide Q2.out.1 (by omega) (Nat.le_refl _) (by omega))) Q3.out.1, Q3.out.2⟩
set_option maxHeartbeats 2000000 in
theorem stable_40 (blk off cap sz : Nat) (d0 d : Array Tg) (w0 w : World) (hsz0 : sz = d.size) (R : RowK encT 3 w0 blk off d0) (hs : d0.size = d.size) (S : SWK encT 3 w0 blk off d w) (hsz : d.size ≤ 40) (h40 : d.size = 40) (hT : ∀ p q, p < q → q < d.size → (fn d p).2 < (fn d q).2) :
    Calls Tryd.prog 32 #[.slice (some ⟨blk, off, none⟩) sz cap, .int .i64 sz, .func (.func 23) #[] #[]] w fun e w' => e = .returned (.tuple #[]) ∧ ∃ d', SWK encT 3 w0 blk off d' w' ∧ d'.size = d.size ∧ PermIn 0 d.size d d' ∧ Inc 0 d.size (fn d') := by
  subst hsz0
  have IA : Aside _ := @insertion_z
  have IN : Aside _ := @insertion_none_z
  have SM : Aside _ := @sym_z
  have T : Aside _ := hT
  have S0 : Aside (SWK encT 3 w0 blk off d w) := S
  clear S hT
  have t1 : decide ((20 : Int) ≤ (d.size : Int)) = true := decide_eq_true (by omega)
  have t2 : decide ((20 : Int) < (d.size : Int)) = true := decide_eq_true (by omega)
  have t3 : decide ((40 : Int) ≤ (d.size : Int)) = true := decide_eq_true (by omega)
  have t4 : decide ((60 : Int) ≤ (d.size : Int)) = false := decide_eq_false (by omega)
  have t5 : decide ((80 : Int) ≤ (d.size : Int)) = false := decide_eq_false (by omega)
  have t6 : decide ((60 : Int) < (d.size : Int)) = false := decide_eq_false (by omega)
  have t7 : decide ((40 : Int) < (d.size : Int)) = false := decide_eq_false (by omega)
  have H40 := Lib.hid h40
  have h40a : 40 ≤ d.size := by omega
  clear h40
  go_enter Tryd.func32, Tryd.ntmps32
  go_wp2_with fail
  refine wp_loop_rounds 3 ?_
  rw [rounds_succ]
  go_wp2_with fail
  refine (IA.out blk off cap (0) (20) (0) (20) d.size d0 d w0 _ rfl rfl (by omega) R (by omega) S0.out (by omega) (by omega) (by omega) (fun p q _ h1 h2 => T.out p q h1 (by omega))).mono ?_
  rintro e w1 ⟨rfl, d1, S1, hd1, hp1, hi1⟩
  have T1 : Aside _ := S1
  have Q1 := Lib.hid (And.intro hp1 hi1)
  clear S1 hp1 hi1
  go_wp2_with fail
  rw [rounds_succ]
  go_wp2_with fail
  refine (IA.out blk off cap (20) (d.size) (20) (40) d.size d0 d1 w0 _ rfl (by have := H40.out; omega) (by omega) R (by omega) T1.out (by omega) (by omega) (by omega) (fun p q h0 h1 h2 => by rw [permIn_fn Q1.out.1 p (.inr h0), permIn_fn Q1.out.1 q (.inr (by omega))]; exact T.out p q h1 h2)).mono ?_
  rintro e w2 ⟨rfl, d2, S2, hd2, hp2, hi2⟩
  have T2 : Aside _ := S2
  have Q2 := Lib.hid (And.intro hp2 hi2)
  clear S2 hp2 hi2
  go_wp2_with fail
  rw [rounds_succ]
  go_wp2_with fail
  rw [show ((d.size : Nat) : Int) = 40 by have := H40.out; omega]
  refine (IN.out (some ⟨blk, off, none⟩) blk off cap 40 d.size _ _ (by omega) 40 rfl).mono ?_
  rintro e w9 ⟨rfl, rfl⟩
  go_wp2_with fail
  refine wp_loop_rounds 2 ?_
  rw [rounds_succ]
  go_wp2_with fail
  refine wp_loop_rounds 2 ?_
  rw [rounds_succ]
  go_wp2_with fail
  have PR := Lib.hid (⟨fun i j h1 h2 h3 => by rw [permIn_fn Q2.out.1 i (.inl (by omega)), permIn_fn Q2.out.1 j (.inl h3)]; exact Q1.out.2 i j h1 h2 h3, Q2.out.2, fun i j h1 h2 h3 h4 => by
      rw [permIn_fn Q2.out.1 i (.inl h2)]
      refine permIn_all d1 d2 20 d.size (fun y => (fn d1 i).2 < y.2) (by omega) Q2.out.1 (fun j' g1 g2 => ?_) j h3 h4
      have e : d1[j']! = fn d j' := permIn_fn Q1.out.1 j' (.inr g1)
      rw [e]
      exact permIn_all d d1 0 20 (fun x => x.2 < (fn d j').2) (by omega) Q1.out.1 (fun i' g3 g4 => T.out i' j' (by omega) g2) i h1 h2⟩ : Pre 0 20 d.size (fn d2))
  refine (SM.out blk off cap 0 20 d.size 0 20 40 d.size d0 d2 w0 _ rfl rfl (by have := H40.out; omega) R (by omega) (by omega) (by omega) T2.out (by omega) (by omega) (by omega) PR.out).mono ?_
  rintro e w3 ⟨rfl, d3, S3, hd3, hp3, hi3⟩
  have T3 : Aside _ := S3
  have Q3 := Lib.hid (And.intro hp3 hi3)
  clear S3 hp3 hi3
  go_wp2_with fail
  rw [rounds_succ]
  go_wp2_with fail
  rw [rounds_succ]
  go_wp2_with fail
  go_end0
  exact ⟨rfl, d3, T3.out, by omega, permIn_trans _ _ _ _ _ (permIn_trans _ _ _ _ _ (perm_wide Q1.out.1 (Nat.le_refl _) (by omega) (by omega)) (perm_wide Q2.out.1 (by omega) (Nat.le_refl _) (by omega))) Q3.out.1, Q3.out.2⟩

theorem stable_any (blk off cap sz : Nat) (d0 d : Array Tg) (w0 w : World) (hsz0 : sz = d.size) (R : RowK encT 3 w0 blk off d0) (hs : d0.size = d.size) (S : SWK encT 3 w0 blk off d w) (hsz : d.size ≤ 40) (h0 : 0 < d.size) (hT : ∀ p q, p < q → q < d.size → (fn d p).2 < (fn d q).2) :
    Calls Tryd.prog 32 #[.slice (some ⟨blk, off, none⟩) sz cap, .int .i64 sz, .func (.func 23) #[] #[]] w fun e w' => e = .returned (.tuple #[]) ∧ ∃ d', SWK encT 3 w0 blk off d' w' ∧ d'.size = d.size ∧ PermIn 0 d.size d d' ∧ Inc 0 d.size (fn d') := by
  by_cases h1 : d.size < 20
  · exact stable_few blk off cap sz d0 d w0 w hsz0 R hs S hsz h0 h1 hT
  · by_cases h2 : d.size = 20
    · exact stable_20 blk off cap sz d0 d w0 w hsz0 R hs S hsz h2 hT
    · by_cases h3 : d.size < 40
      · exact stable_30 blk off cap sz d0 d w0 w hsz0 R hs S hsz (by omega) h3 hT
      · exact stable_40 blk off cap sz d0 d w0 w hsz0 R hs S hsz (by omega) hT
end Go.Proofs.YtaflpdagehocfaaDoor.Srt
