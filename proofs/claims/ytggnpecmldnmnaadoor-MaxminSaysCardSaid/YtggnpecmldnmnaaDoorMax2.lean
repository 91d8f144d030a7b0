/- Package maxmin: shortage, the function that it returns, and the function of Share that asks it of each link of a flow. No statement is proved here. -/
import Derived.Test.YtggnpecmldnmnaaDoorMax1
import Derived.Test.YtggnpecmldnmnaaDoorAskFn
import Derived.BigQuiet
namespace Go.Proofs.YtggnpecmldnmnaaDoor.Maxmin
open Go.ChangeShapes Go.WideShapes Go.ChangeAt Go.RowKit Go.Proofs.YtggnpecmldnmnaaDoor.Kit Go.Proofs.YtggnpecmldnmnaaDoor.App Go.Proofs.YtggnpecmldnmnaaDoor.Err Go.Proofs.YtggnpecmldnmnaaDoor.Drr Go.Proofs.YtggnpecmldnmnaaDoor.RowQ
set_option linter.unusedVariables false
set_option maxRecDepth 20000
set_option maxHeartbeats 1000000

theorem users_new (w : World) : Blk 51 (w.alloc (.cells #[.int .i64 0, .int .i64 0, .int .i64 0, .int .i64 0, .int .i64 0, .int .i64 0] 51)) w.heap.size (ar 6 fun _ => .int .i64 0) := Blk.new w 51 (ar 6 fun _ => .int .i64 0)
/-- What shortage has counted behind j flows and k links of the next; V is what is left, boxed. -/
structure Usr (ws : List (List Int)) (A : List Nat) (w W : World) (V : Value) (j k : Nat) : Prop where
  bel : Below w.heap.size w W
  box : W.cell? ⟨w.heap.size, 0, none⟩ = some V
  blk : Blk 51 W (w.heap.size + 1) (ar 6 fun y => .int .i64 (tk (part ws (fun _ => 1) A j k) (y : Int)))
theorem Usr.step {ws : List (List Int)} {A : List Nat} {w W : World} {V : Value} {j k i x : Nat} (H : Usr ws A w W V j k) (hi : A[j]?.getD 0 = i) (hk : k < (row ws i).length) (hx : (row ws i)[k]?.getD 0 = (x : Int)) (t : Int) (ht : tk (part ws (fun _ => 1) A j k) (x : Int) + 1 = t) :
    Usr ws A w (W.setCell ⟨w.heap.size + 1, x, none⟩ (.int .i64 t)) V j (k + 1) := by
  refine ⟨below_set H.bel _ _ _ (by omega), box_keep H.box (set_grown W (w.heap.size + 1) x _) (by omega), ?_⟩
  have := H.blk.set x (.int .i64 t)
  rw [ar_set] at this
  have e : (ar 6 fun y => Value.int .i64 (tk (part ws (fun _ => 1) A j (k + 1)) (y : Int))) = ar 6 fun y => if y = x then .int .i64 t else .int .i64 (tk (part ws (fun _ => 1) A j k) (y : Int)) := ar_congr fun y _ => by
    rw [part_step hi hk, tk_snoc, hx]
    by_cases e : y = x
    · subst e
      rw [if_pos rfl, if_pos rfl, ht]
    · rw [if_neg e, if_neg (by omega), Int.add_zero]
  rw [e]
  exact this
theorem Usr.next {ws : List (List Int)} {A : List Nat} {w W : World} {V : Value} {j i : Nat} (H : Usr ws A w W V j (row ws i).length) (hj : j < A.length) (hi : A[j]?.getD 0 = i) : Usr ws A w W V (j + 1) 0 := by
  refine ⟨H.bel, H.box, ?_⟩
  have := H.blk
  rwa [part_next hj hi] at this
/-- Numbers of flows as numbers. -/
def ci (A : List Nat) : List Int := A.map fun i : Nat => (i : Int)
theorem ci_len (A : List Nat) : (ci A).length = A.length := List.length_map ..
theorem map_get {A : List Nat} {j : Nat} (hj : j < A.length) : (ci A)[j]?.getD 0 = ((A[j]?.getD 0 : Nat) : Int) := by simp [ci, hj]
theorem get_in {A : List Nat} {n j : Nat} (hA : ∀ i ∈ A, i < n) (hj : j < A.length) : A[j]?.getD 0 < n := by
  rw [List.getElem?_eq_getElem hj]; exact hA _ (List.getElem_mem hj)
theorem link_at {room : List Int} {ws : List (List Int)} (hg : Good room ws) {i k : Nat} (hi : i < ws.length) (hk : k < (row ws i).length) : ∃ x : Nat, (row ws i)[k]?.getD 0 = (x : Int) ∧ x < 6 ∧ x < room.length := by
  have h := hg.here _ (row_in hi) ((row ws i)[k]) (List.getElem_mem hk)
  have hl := hg.links
  refine ⟨((row ws i)[k]).toNat, ?_, by omega, by omega⟩
  rw [List.getElem?_eq_getElem hk]
  show (row ws i)[k] = _
  omega
theorem short_new (room : List Int) (p : Option Addr) (cap n : Nat) (ws : List (List Int)) (V : Value) (pv : Option Addr) (nv cv : Nat) (hV : V = .slice pv nv cv) (q : Option Addr) (cq m : Nat) (A : List Nat) (w : World) (hg : Good room ws) (hn : n = ws.length) (hi : RowsI w p cap ws) (hm : m = A.length) (hA : ∀ i ∈ A, i < n) (hA5 : A.length ≤ 5) (hq : Ints w q cq (ci A)) :
    Calls Tryd.prog 17 #[.slice pv nv cv, .slice p n cap, .slice q m cq] w fun e w' => e = .returned (.func (.func 23) #[] #[.pointer (some ⟨w.heap.size, 0, none⟩), .pointer (some ⟨w.heap.size + 1, 0, none⟩)]) ∧ Usr ws A w w' V m 0 := by
  have hlen := hi.len_le
  rw [← hn] at hlen
  have hm5 : m ≤ 5 := by omega
  have HU : Hid (Usr ws A w ((w.alloc (.cells #[.slice pv nv cv] 22)).alloc (.cells #[.int .i64 0, .int .i64 0, .int .i64 0, .int .i64 0, .int .i64 0, .int .i64 0] 51)) V 0 0) := Lib.hid ⟨balloc (balloc (brefl w) _) _, by rw [hV]; go_simp, by
    have := users_new (w.alloc (.cells #[.slice pv nv cv] 22))
    have e : (ar 6 fun y => Value.int .i64 (tk (part ws (fun _ => 1) A 0 0) (y : Int))) = ar 6 fun _ => .int .i64 0 := by rw [part_zero]; rfl
    rw [e]
    simpa using this⟩
  have HG := Lib.hid hg
  have HI := Lib.hid hi
  have HN := Lib.hid hn
  have HM := Lib.hid hm
  have HA := Lib.hid hA
  have HA5 := Lib.hid hA5
  have HQ := Lib.hid hq
  clear hg hi hn hm hA hA5 hq hV
  go_enter Tryd.func17, Tryd.ntmps17
  go_wp2_with fail
  go_loopw [14] (fun iv wr => ∃ j : Nat, j ≤ m ∧ iv = .int .i64 j ∧ Hid (Usr ws A w wr V j 0)) (fun i _ => m - (intOf i).toNat)
  case atStart => exact ⟨0, Nat.zero_le _, rfl, HU⟩
  case round =>
    obtain ⟨j, hj, rfl, H⟩ := hrel
    by_cases hjm : j < m
    · have v1 : decide ((j : Int) < (m : Int)) = true := decide_eq_true (by omega)
      have hjl : j < A.length := by rw [← HM.out]; exact hjm
      obtain ⟨w0, rfl⟩ : ∃ z, z = wr := ⟨wr, rfl⟩
      have hqw := HQ.out.below H.out.bel
      obtain ⟨b, off, rfl, _, hcc⟩ := hqw.2.2.2 (by rw [ci_len]; omega)
      have hck := hcc j (by rw [ci_len]; omega)
      rw [map_get hjl] at hck
      obtain ⟨i, hii⟩ : ∃ i, A[j]?.getD 0 = i := ⟨_, rfl⟩
      have hin : i < n := by rw [← hii]; exact get_in HA.out hjl
      rw [hii] at hck
      have hil : i < ws.length := by rw [← HN.out]; exact hin
      obtain ⟨b2, off2, rfl, hrow⟩ := rows_both HI.out (by omega)
      obtain ⟨q1, c1, hlz, hrw⟩ := hrow i hil
      have hckr := (hrw w0 H.out.bel).1
      obtain ⟨z, hz⟩ : ∃ z, (row ws i).length = z := ⟨_, rfl⟩
      rw [hz] at hckr hlz
      have HR := Lib.hid (fun W hW => (hrw W hW).2)
      have HII := Lib.hid hii
      have HIL := Lib.hid hil
      have HZ := Lib.hid hz
      have HJL := Lib.hid hjl
      have hin' : (i : Int) < (n : Int) := by omega
      clear hcc hqw hrow hrw hii hil hz hjl
      go_wp2_with fail
      go_loopw [23] (fun kv wr => ∃ k : Nat, k ≤ z ∧ kv = .int .i64 k ∧ Hid (Usr ws A w wr V j k)) (fun k _ => z - (intOf k).toNat)
      case atStart => exact ⟨0, Nat.zero_le _, rfl, H⟩
      case round =>
        obtain ⟨k, hk, rfl, HK⟩ := hrel
        by_cases hkz : k < z
        · have v2 : decide ((k : Int) < (z : Int)) = true := decide_eq_true (by omega)
          have hkl : k < (row ws i).length := by rw [HZ.out]; exact hkz
          obtain ⟨x, hx, hx6, _⟩ := link_at HG.out HIL.out hkl
          obtain ⟨b3, off3, rfl, _, hcc⟩ := (HR.out wr HK.out.bel).2.2.2 (by omega)
          have hck3 := hcc k hkl
          rw [hx] at hck3
          have hx6' : (x : Int) < 6 := by omega
          have hcu := HK.out.blk.cell x _ (ar_get _ hx6)
          have hfu := HK.out.blk.fz x
          obtain ⟨h0, h1⟩ := tk_part5 (ws := ws) (amt := fun _ => 1) (A := A) HG.out.once (B := 1) (fun _ => ⟨by decide, Int.le_refl _⟩) HA5.out j k (x : Int)
          obtain ⟨t, ht⟩ : ∃ t, tk (part ws (fun _ => 1) A j k) (x : Int) = t := ⟨_, rfl⟩
          rw [ht] at hcu h0 h1
          have HS := Lib.hid (show Usr ws A w (wr.setCell ⟨w.heap.size + 1, x, none⟩ (.int .i64 (t + 1))) V j (k + 1) from HK.out.step HII.out hkl hx (t + 1) (by rw [ht]))
          have hwr := wrap_in (n := t + 1) (by omega)
          clear hcc hkl hx hx6 ht
          go_wp2_with fail
          go_roundw
          case rel => exact ⟨k + 1, by omega, by first | rfl | go_num, HS⟩
          case measure => simp [intOf]; omega
        · obtain rfl : k = z := by omega
          have v2 : decide ((k : Int) < (k : Int)) = false := decide_eq_false (by omega)
          have HN2 := Lib.hid (show Usr ws A w wr V (j + 1) 0 from Usr.next (i := i) (by rw [HZ.out]; exact HK.out) HJL.out HII.out)
          go_wp2_with fail
          go_roundw
          case rel => exact ⟨j + 1, by omega, by first | rfl | go_num, HN2⟩
          case measure => simp [intOf]; omega
    · obtain rfl : j = m := by omega
      have v1 : decide ((j : Int) < (j : Int)) = false := decide_eq_false (by omega)
      go_wp2_with fail
      go_ret
      exact ⟨rfl, H.out⟩

theorem short_any (x : Nat) (g gu G2 L c2 : Nat) (lv uv : Int) (w : World) (hx : x < L) (hx6 : x < 6) (hL : L ≤ 1000) (hb : w.cell? ⟨g, 0, none⟩ = some (.slice (some ⟨G2, 0, none⟩) L c2)) (hl : w.cell? ⟨G2, x, none⟩ = some (.int .i64 lv)) (hu : w.cell? ⟨gu, x, none⟩ = some (.int .i64 uv)) (R : Bool) (hR : decide (lv < uv) = R) :
    Calls Tryd.prog 23 #[.int .i64 (x : Int), .pointer (some ⟨g, 0, none⟩), .pointer (some ⟨gu, 0, none⟩)] w fun e w' => e = .returned (.bool R) ∧ ∃ m, w' = w.drewN m := by
  have t1 : (x : Int) < 6 := by omega
  have t2 : (x : Int) < (L : Int) := by omega
  go_enter Tryd.func23, Tryd.ntmps23
  go_wp2_with fail
  go_quiet (fail)
  go_wp2_with fail
  go_ret
  exact ⟨rfl, _, rfl⟩
theorem enters_short : Enters Tryd.prog 23 := enters_of Tryd.func23 (by kernel_rfl) rfl
theorem enters_hit : Enters Tryd.prog 19 := enters_of Tryd.func19 (by kernel_rfl) rfl
/-- What the function of Share finds in memory: the flows, boxed in block B; what is left, in block G2, boxed in block g; how many use each link, in block gu; the function that compares them, boxed in block bs. -/
structure Asked (room : List Int) (ws : List (List Int)) (h : Nat → Int) (o : Nat → Bool) (w0 : World) (p : Option Addr) (n cap B g gu bs G2 c2 : Nat) (W : World) : Prop where
  bel : Below w0.heap.size w0 W
  rows : W.cell? ⟨B, 0, none⟩ = some (.slice p n cap)
  box : W.cell? ⟨g, 0, none⟩ = some (.slice (some ⟨G2, 0, none⟩) room.length c2)
  blk : Blk 51 W gu (ar 6 fun y => .int .i64 (us ws o (y : Int)))
  fn : W.cell? ⟨bs, 0, none⟩ = some (.func (.func 23) #[] #[.pointer (some ⟨g, 0, none⟩), .pointer (some ⟨gu, 0, none⟩)])
  left : ∀ x : Nat, x < room.length → W.cell? ⟨G2, x, none⟩ = some (.int .i64 (lf room ws h (x : Int)))
variable {room : List Int} {ws : List (List Int)} {h : Nat → Int} {o : Nat → Bool} {w0 : World} {p : Option Addr} {n cap B g gu bs G2 c2 : Nat}
theorem Asked.drewN {W : World} (H : Asked room ws h o w0 p n cap B g gu bs G2 c2 W) (m : Nat) : Asked room ws h o w0 p n cap B g gu bs G2 c2 (W.drewN m) :=
  ⟨bdrewN H.bel m, H.rows, H.box, H.blk, H.fn, H.left⟩
theorem hits (i : Nat) (hg : Good room ws) (hn : n = ws.length) (hi : i < n) (hr : RowsI w0 p cap ws) (W : World) (H : Asked room ws h o w0 p n cap B g gu bs G2 c2 W) (R : Bool) (hR : hit room ws h o i = R) :
    Calls Tryd.prog 19 #[.int .i64 (i : Int), .pointer (some ⟨B, 0, none⟩), .pointer (some ⟨bs, 0, none⟩)] W fun e w' => e = .returned (.bool R) ∧ ∃ m, w' = W.drewN m := by
  have hil : i < ws.length := by rw [← hn]; exact hi
  have hlen := hr.len_le
  rw [← hn] at hlen
  obtain ⟨b, off, rfl, hrow⟩ := rows_both hr (by omega)
  obtain ⟨q, c, hlz, hrw⟩ := hrow i hil
  have hck := (hrw W H.bel).1
  have hin' : (i : Int) < (n : Int) := by omega
  have C : Hid (∀ nq, Calls Tryd.prog 20 #[.slice q (row ws i).length c, .func (.func 23) #[] #[.pointer (some ⟨g, 0, none⟩), .pointer (some ⟨gu, 0, none⟩)]] (W.drewN nq) fun e w' => e = .returned (.bool R) ∧ ∃ m, w' = (W.drewN nq).drewN m) := Lib.hid fun nq =>
    contains_any (fun W' => ∃ m, W' = W.drewN m) _ g gu (fun x => decide (lf room ws h x < us ws o x)) q c _ (row ws i) (W.drewN nq) enters_short (fun m => ⟨nq + m, by simp [World.drewN_drewN]⟩)
      (fun W' x hW' hx => by
        obtain ⟨m, rfl⟩ := hW'
        have h1 := hg.here _ (row_in hil) x hx
        have h2 := hg.links
        obtain ⟨y, rfl⟩ : ∃ y : Nat, x = (y : Int) := ⟨x.toNat, by omega⟩
        have H2 := H.drewN m
        exact short_any y g gu G2 room.length c2 _ _ _ (by omega) (by omega) (by omega) H2.box (H2.left y (by omega)) (H2.blk.cell y _ (ar_get _ (by omega))) _ rfl)
      rfl ((hrw W H.bel).2.below (bdrewN (brefl W) nq)) R (by rw [← hR]; rfl)
  have hrows := H.rows
  have hfn := H.fn
  clear hrow hrw H hr hg hn hil hR
  generalize (row ws i).length = z at hck hlz C
  go_enter Tryd.func19, Tryd.ntmps19
  go_wp2_with fail
  go_quiet ((go_at_call 20; refine Calls.quiet_of (C.out _)))
  go_wp2_with fail
  go_ret
  exact ⟨rfl, _, rfl⟩
end Go.Proofs.YtggnpecmldnmnaaDoor.Maxmin
