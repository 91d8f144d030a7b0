/- Package stp: Tree. No statement is proved here. -/
import Derived.Test.YtedhippamfioeaaStpMath
import Derived.Test.YtedhippamfioeaaSpf6
import Derived.Test.YtedhippamfioeaaRw1
import Derived.Test.YtedhippamfioeaaTrio
import Derived.Test.YtedhippamfioeaaOwnI
import Derived.OwnWalk
namespace Go.Proofs.Ytedhippamfioeaa.Stp
open Go.ChangeShapes Go.WideShapes Go.ChangeAt Go.RowKit Go.Proofs.Ytedhippamfioeaa.Kit Go.Proofs.Ytedhippamfioeaa.App Go.Proofs.Ytedhippamfioeaa.Cells Go.Proofs.Ytedhippamfioeaa.Err Go.Proofs.Ytedhippamfioeaa.Vector Go.Proofs.Ytedhippamfioeaa.Spf
set_option linter.unusedVariables false
set_option maxRecDepth 20000
set_option maxHeartbeats 1000000

theorem wf_in {x : Int} (h : -9223372036854775808 ≤ x ∧ x ≤ 9223372036854775807) : (Lit.int .i64 x).wf = true := by
  simp [Lit.wf, IntKind.min, IntKind.max, IntKind.signed, IntKind.bits]; omega
theorem results_tmp4 {fn : Func} {t u v x : Tmp} (h : fn.results = #[.tmp t, .tmp u, .tmp v, .tmp x]) (tmps : Array Value) (P : Program) (w : World) :
    (results fn tmps).run P w = .ok (.tuple #[tmps.getD t undef, tmps.getD u undef, tmps.getD v undef, tmps.getD x undef]) w := by
  simp [results, h]
theorem reach_any (x : Int) (w : World) (b : Bool) (hb : decide (x < 1000) = b) :
    Calls Try.prog 34 #[.int .i64 x] w fun e w' => e = .returned (.bool b) ∧ w' = w := by
  go_enter Try.func34, Try.ntmps34
  go_wp2_with fail
  go_ret
  exact ⟨by rw [← hb]; rfl, rfl⟩
/-- The first number below 1000. -/
theorem index_any (p : Option Addr) (cap n r : Nat) (l : List Int) (w : World) (hn : n = l.length) (hi : Ints w p cap l) (hr : r < n) (h1 : l[r]?.getD 0 < 1000) (h2 : ∀ j, j < r → ¬ l[j]?.getD 0 < 1000) :
    Calls Try.prog 33 #[.slice p n cap, .func (.func 34) #[] #[]] w fun e w' => e = .returned (.int .i64 (r : Int)) ∧ w' = w := by
  have hlen := hi.len_le
  rw [← hn] at hlen
  obtain ⟨b0, off, rfl, _, hc⟩ := hi.2.2.2 (by omega)
  have CL := Lib.hid (fun k (hk : k < n) => hc k (by omega))
  have YES := Lib.hid (show decide (l[r]?.getD 0 < 1000) = true from decide_eq_true h1)
  have NO := Lib.hid (fun j (hj : j < r) => (show decide (l[j]?.getD 0 < 1000) = false from decide_eq_false (h2 j hj)))
  clear hi hc hn h1 h2
  go_enter Try.func33, Try.ntmps33
  go_wp2_with fail
  go_loopw [8] (fun iv wr => ∃ k : Nat, k ≤ r ∧ iv = .int .i64 k ∧ wr = w) (fun i _ => n - (intOf i).toNat)
  case atStart => exact ⟨0, Nat.zero_le _, rfl, rfl⟩
  case round =>
    obtain ⟨k, hk, rfl, rfl⟩ := hrel
    have u1 : decide ((k : Int) < (n : Int)) = true := decide_eq_true (by omega)
    have u2 : (k : Int) < (n : Int) := by omega
    have hck := CL.out k (by omega)
    by_cases hlt : k < r
    · have hno := NO.out k hlt
      obtain ⟨x, hx⟩ : ∃ x, l[k]?.getD 0 = x := ⟨_, rfl⟩
      rw [hx] at hck hno
      have C := Lib.hid (reach_any x wr false hno)
      clear hx hno
      go_wp2_with fail
      refine C.out.mono ?_; rintro e w1 ⟨rfl, rfl⟩
      go_wp2_with fail
      go_roundw
      case rel => exact ⟨k + 1, by omega, by first | rfl | go_num, by first | trivial | rfl⟩
      case measure => simp [intOf]; omega
    · obtain rfl : k = r := by omega
      have hyes := YES.out
      obtain ⟨x, hx⟩ : ∃ x, l[k]?.getD 0 = x := ⟨_, rfl⟩
      rw [hx] at hck hyes
      have C := Lib.hid (reach_any x wr true hyes)
      clear hx hyes
      go_wp2_with fail
      refine C.out.mono ?_; rintro e w1 ⟨rfl, rfl⟩
      go_wp2_with fail
      go_ret
      exact ⟨rfl, rfl⟩
/-- The numbers of the roots. -/
noncomputable def rtI (ls : List Lk) (i : Nat) : Int := (rt ls i : Int)
theorem tree_bad (n : Int) (p : Option Addr) (cap m : Nat) (ls : List Lk) (w : World) (hm : m = ls.length) (hi : CI layL w p cap ls) (c : Int) (hc : code n ls = c) (h0 : c ≠ 0) :
    Calls Try.prog 17 #[.int .i64 n, .slice p m cap] w fun e w' => e = .returned (.tuple #[.slice none 0 0, .slice none 0 0, .slice none 0 0, er c]) ∧ Below w.heap.size w w' := by
  have C := Lib.hid (check_any n p cap m ls w hm hi c hc)
  rw [er_ne h0] at C ⊢
  clear hm hi hc h0
  go_enter Try.func17, Try.ntmps17
  go_wp2_with fail
  refine C.out.mono ?_; rintro e w1 ⟨rfl, hb⟩
  have HB2 := Lib.hid hb
  clear hb C
  go_wp2_with fail
  (try simp only [Exit.inBlock, Exit.then]); refine bodyPost_ret (results_tmp4 rfl _ _ _) rfl ?_
  exact ⟨rfl, HB2.out⟩
theorem tree_good (n : Nat) (p : Option Addr) (cap m : Nat) (ls : List Lk) (w : World) (hm : m = ls.length) (hi : CI layL w p cap ls) (g : Vector.Good n ls) :
    Calls Try.prog 17 #[.int .i64 (n : Int), .slice p m cap] w fun e w' => ∃ u v x, e = .returned (.tuple #[u, v, x, .nilIface]) ∧ Trio w w' u v x (rw1 n (rtI ls)) (rw1 n (fr ls)) (rw1 n (ov ls)) := by
  have hn8 := g.up
  have C := Lib.hid (check_any n p cap m ls w hm hi 0 (code_good g))
  rw [er_0] at C
  have FR := Lib.hid (fun W (hW : Below w.heap.size w W) s (hs : s < n) => from_own n s p cap m ls W hm (hi.below hW) g hs)
  have HG := Lib.hid g
  clear hm hi g
  go_enter Try.func17, Try.ntmps17
  go_wp2_with fail
  refine C.out.mono ?_; rintro e w1 ⟨rfl, hb⟩
  have HT0 := Lib.hid (show Trio w w1 (.slice none 0 0) (.slice none 0 0) (.slice none 0 0) ((rw1 n (rtI ls)).take 0) ((rw1 n (fr ls)).take 0) ((rw1 n (ov ls)).take 0) from Trio.nil hb)
  clear hb C
  go_wp2_with fail
  go_loopw [4, 5, 6, 21] (fun u1 v1 x1 iv wr => ∃ (k : Nat) (uv vv xv : Value), k ≤ n ∧ iv = .int .i64 k ∧ uv = u1 ∧ vv = v1 ∧ xv = x1 ∧ Hid (Trio w wr uv vv xv ((rw1 n (rtI ls)).take k) ((rw1 n (fr ls)).take k) ((rw1 n (ov ls)).take k))) (fun _ _ _ i _ => n - (intOf i).toNat)
  case atStart => exact ⟨0, _, _, _, Nat.zero_le _, rfl, rfl, rfl, rfl, HT0⟩
  case round =>
    obtain ⟨k, uv, vv, xv, hk, rfl, rfl, rfl, rfl, HT⟩ := hrel
    clear HT0
    by_cases hlt : k < n
    · have u1 : decide ((k : Int) < (n : Int)) = true := decide_eq_true (by omega)
      have hr := rt_is HG.out k
      have hrn := rt_lt HG.out hlt
      have T1 := Lib.hid (rw1_take (f := rtI ls) hlt)
      have T2 := Lib.hid (rw1_take (f := fr ls) hlt)
      have T3 := Lib.hid (rw1_take (f := ov ls) hlt)
      have L1 := Lib.hid (rw1_tlen (f := rtI ls) hk)
      have L2 := Lib.hid (rw1_tlen (f := fr ls) hk)
      have L3 := Lib.hid (rw1_tlen (f := ov ls) hk)
      obtain ⟨A, hA⟩ : ∃ A, (rw1 n (rtI ls)).take k = A := ⟨_, rfl⟩
      obtain ⟨B, hB⟩ : ∃ B, (rw1 n (fr ls)).take k = B := ⟨_, rfl⟩
      obtain ⟨D, hD⟩ : ∃ D, (rw1 n (ov ls)).take k = D := ⟨_, rfl⟩
      rw [hA] at HT T1 L1
      rw [hB] at HT T2 L2
      rw [hD] at HT T3 L3
      clear hA hB hD
      have FK := Lib.hid (FR.out wr HT.out.bel k hlt)
      have hx1 : ds ls k (rt ls k) = fr ls k := rfl
      have hx2 : hop ls k (rt ls k) = ov ls k := rfl
      have hx3 : rtI ls k = (rt ls k : Int) := rfl
      rw [hx3] at T1
      have b1 := fr_b HG.out k
      have b2 := ov_b HG.out k
      have IX := Lib.hid (fun W pu cu (hW : Ints W pu cu (rw1 n (ds ls k))) => index_any pu cu n (rt ls k) _ W (rw1_len _ _).symm hW hrn (by rw [rw1_get _ _ hrn]; have := fr_few HG.out k; omega) (fun j hj => by rw [rw1_get _ _ (by omega), hr.2 j hj]; omega))
      have G1 := Lib.hid (rw1_get n (ds ls k) hrn)
      have G2 := Lib.hid (rw1_get n (hop ls k) hrn)
      rw [hx1] at G1
      rw [hx2] at G2
      generalize rt ls k = r at *
      generalize fr ls k = f at *
      generalize ov ls k = o at *
      have N1 := Lib.hid (rw1_len n (ds ls k))
      have N2 := Lib.hid (rw1_len n (hop ls k))
      generalize rw1 n (ds ls k) = DS at *
      generalize rw1 n (hop ls k) = HS at *
      have hr' : (r : Int) < (n : Int) := by omega
      clear hr hx1 hx2 hx3
      obtain ⟨w3, hw3⟩ : ∃ z, z = wr := ⟨wr, rfl⟩
      rw [← hw3] at HT FK ⊢
      clear hw3
      go_wp2_with fail
      refine FK.out.mono ?_; rintro e w4 ⟨du, dv, rfl, hu, hv, hb⟩
      have HT4 := Lib.hid (HT.out.below hb)
      have A1 := Lib.hid (Apt.split (u := uv) (v := du) w3.heap.size (fun k hk => (HT.out.o1.lt k hk).2) (fun k hk => (hu.lt k hk).1))
      have A2 := Lib.hid (Apt.split (u := uv) (v := dv) w3.heap.size (fun k hk => (HT.out.o1.lt k hk).2) (fun k hk => (hv.lt k hk).1))
      have A3 := Lib.hid (Apt.split (u := vv) (v := dv) w3.heap.size (fun k hk => (HT.out.o2.lt k hk).2) (fun k hk => (hv.lt k hk).1))
      obtain ⟨gu, cu, rfl, _, _, _, _⟩ := own_pos hu (by rw [N1.out]; omega)
      obtain ⟨gv, cv, rfl, _, _, _, _⟩ := own_pos hv (by rw [N2.out]; omega)
      rw [N1.out] at hu A1 ⊢
      rw [N2.out] at hv A2 A3 ⊢
      have IU := Lib.hid (show Ints w4 (some ⟨gu, 0, none⟩) cu DS by
        obtain ⟨_, _, e, i1⟩ := hu.form
        injection e with e1 _ e3
        rw [e1, e3]; exact i1)
      have OU := Lib.hid hu
      have OV := Lib.hid hv
      clear hb hu hv HT FK
      go_wp2_with fail
      refine (IX.out w4 _ cu IU.out).mono ?_; rintro e w5 ⟨rfl, rfl⟩
      clear IX IU
      have HA1 := Lib.hid (HT4.out.alloc (.cells #[.int .i64 (r : Int)] 3))
      go_wp2_with (first
        | (at_builtin
           refine wp_app rfl (.tmp 37) (.tmp 39) rfl w.heap.size uv A (some ⟨w5.heap.size, 0, none⟩) 1 1 [(r : Int)] rfl HA1.out.o1 rfl rfl (Ints.one w5 (r : Int) (wf_in (by omega))) (by rw [L1.out, List.length_singleton]; omega) HA1.out.bel.size ?_
           intro u2 w6 ho6 hg6 hat6
           have HT6 := Lib.hid (HA1.out.app1 ho6 hg6 hat6)
           have cu6 := own_cell ((OU.out.alloc (.cells #[.int .i64 (r : Int)] 3)).more hg6 A1.out.symm.ne) r (by rw [N1.out]; omega)
           rw [G1.out] at cu6
           have OV6 := Lib.hid ((OV.out.alloc (.cells #[.int .i64 (r : Int)] 3)).more hg6 A2.out.symm.ne)
           have HA2 := Lib.hid (HT6.out.alloc (.cells #[.int .i64 f] 3))
           clear ho6 hg6 hat6)
        | (at_builtin
           refine wp_app rfl (.tmp 41) (.tmp 46) rfl w.heap.size vv B (some ⟨w6.heap.size, 0, none⟩) 1 1 [f] rfl HA2.out.o2 rfl rfl (Ints.one w6 f (wf_in (by omega))) (by rw [L2.out, List.length_singleton]; omega) HA2.out.bel.size ?_
           intro v2 w7 ho7 hg7 hat7
           have HT7 := Lib.hid (HA2.out.app2 ho7 hg7 hat7)
           have cv7 := own_cell ((OV6.out.alloc (.cells #[.int .i64 f] 3)).more hg7 A3.out.symm.ne) r (by rw [N2.out]; omega)
           rw [G2.out] at cv7
           have HA3 := Lib.hid (HT7.out.alloc (.cells #[.int .i64 o] 3))
           clear ho7 hg7 hat7)
        | (at_builtin
           refine wp_app rfl (.tmp 48) (.tmp 53) rfl w.heap.size xv D (some ⟨w7.heap.size, 0, none⟩) 1 1 [o] rfl HA3.out.o3 rfl rfl (Ints.one w7 o (wf_in (by omega))) (by rw [L3.out, List.length_singleton]; omega) HA3.out.bel.size ?_
           intro x2 w8 ho8 hg8 hat8
           have HT8 := Lib.hid (HA3.out.app3 ho8 hg8 hat8)
           clear ho8 hg8 hat8))
      go_roundw
      case rel => exact ⟨k + 1, u2, v2, x2, by omega, by first | rfl | go_num, rfl, rfl, rfl, Lib.hid (by rw [T1.out, T2.out, T3.out]; exact HT8.out)⟩
      case measure => simp [intOf]; omega
    · obtain rfl : k = n := by omega
      have u1 : decide ((k : Int) < (k : Int)) = false := decide_eq_false (by omega)
      have HF := Lib.hid (show Trio w wr uv vv xv (rw1 k (rtI ls)) (rw1 k (fr ls)) (rw1 k (ov ls)) by have := HT.out; rwa [rw1_full, rw1_full, rw1_full] at this)
      clear HT
      go_wp2_with fail
      (try simp only [Exit.inBlock, Exit.then]); refine bodyPost_ret (results_tmp4 rfl _ _ _) rfl ?_
      exact ⟨uv, vv, xv, rfl, HF.out⟩
end Go.Proofs.Ytedhippamfioeaa.Stp
