/- The document's answer on shares: Share. No statement is proved here. -/
import Derived.Test.YtggnpecmldnmnaaDoorMaxRef0
import Derived.Test.YtggnpecmldnmnaaDoorMaxLeft
import Derived.Test.YtggnpecmldnmnaaDoorSetList
import Derived.Test.YtggnpecmldnmnaaDoorBehind
import Derived.Test.YtggnpecmldnmnaaDoorTru
import Derived.BigRegion
import Derived.Deep.LoopGhost
namespace Go.Proofs.YtggnpecmldnmnaaDoor.Maxmin
open Go.ChangeShapes Go.WideShapes Go.ChangeAt Go.RowKit Go.Proofs.YtggnpecmldnmnaaDoor.Kit Go.Proofs.YtggnpecmldnmnaaDoor.App Go.Proofs.YtggnpecmldnmnaaDoor.Err Go.Proofs.YtggnpecmldnmnaaDoor.Drr Go.Proofs.YtggnpecmldnmnaaDoor.Truth
set_option linter.unusedVariables false
set_option maxRecDepth 20000
set_option maxHeartbeats 4000000

/-- Truths as a map over the numbers below n. -/
def sh (n : Nat) (f : Nat → Bool) : List Bool := (List.range n).map f
theorem sh_len (n : Nat) (f : Nat → Bool) : (sh n f).length = n := by simp [sh]
theorem sh_get {n k : Nat} (f : Nat → Bool) (hk : k < n) : (sh n f)[k]? = some (f k) := by simp [sh, hk]
theorem sh_congr {n : Nat} {f g : Nat → Bool} (h : ∀ k, k < n → f k = g k) : sh n f = sh n g := List.map_congr_left fun j hj => h j (List.mem_range.1 hj)
theorem sh_set (n : Nat) (f : Nat → Bool) (k : Nat) (v : Bool) : (sh n f).set k v = sh n (fun j => if j = k then v else f j) := by
  refine List.ext_getElem? fun j => ?_
  rw [List.getElem?_set]
  by_cases e : k = j
  · subst e
    by_cases hk : k < n
    · simp [sh, hk]
    · simp [sh, hk]
  · rw [if_neg e]
    by_cases hj : j < n
    · simp [sh, hj, Ne.symm e]
    · simp [sh, hj]
/-- Has one of the first k links of flow i too little left? -/
def hk (room : List Int) (ws : List (List Int)) (h : Nat → Int) (o : Nat → Bool) (i k : Nat) : Bool := ((row ws i).take k).any fun x => decide (lf room ws h x < us ws o x)
variable {room : List Int} {ws : List (List Int)} {h : Nat → Int} {o : Nat → Bool} {n : Nat}
theorem hk_zero (i : Nat) : hk room ws h o i 0 = false := by simp [hk]
theorem hk_step {i k x : Nat} (hk1 : k < (row ws i).length) (hx : (row ws i)[k]?.getD 0 = (x : Int)) : hk room ws h o i (k + 1) = (hk room ws h o i k || decide (lf room ws (inc h o) (x : Int) < 0)) := by
  unfold hk
  have e : (row ws i).take (k + 1) = (row ws i).take k ++ [(row ws i)[k]?.getD 0] := by rw [List.take_add_one, List.getElem?_eq_getElem hk1]; rfl
  rw [e, List.any_append, hx, lf_inc]
  congr 1
  simp only [List.any_cons, List.any_nil, Bool.or_false]
  rw [decide_eq_decide]
  omega
theorem hk_all (i : Nat) : hk room ws h o i (row ws i).length = hit room ws h o i := by unfold hk hit; rw [List.take_length]
/-- Who is shut, before flow i; and in the midst of flow i. -/
def sL (room : List Int) (ws : List (List Int)) (n : Nat) (h : Nat → Int) (o : Nat → Bool) (i : Nat) : List Bool := sh n fun j => if j < i then !cut room ws h o j else !o j
def sM (room : List Int) (ws : List (List Int)) (n : Nat) (h : Nat → Int) (o : Nat → Bool) (i k : Nat) : List Bool := sh n fun j => if j < i then !cut room ws h o j else if j = i then hk room ws h o i k else !o j
theorem sL_zero : sL room ws n h o 0 = sh n fun j => !o j := sh_congr fun j _ => by rw [if_neg (by omega)]
theorem sL_all : sL room ws n h o n = sh n fun j => !cut room ws h o j := sh_congr fun j hj => by rw [if_pos hj]
theorem sL_skip {i : Nat} (ho : o i = false) : sL room ws n h o i = sL room ws n h o (i + 1) := sh_congr fun j _ => by
  by_cases e : j = i
  · subst e
    rw [if_neg (by omega), if_pos (by omega)]
    unfold cut; rw [ho]; rfl
  · by_cases h1 : j < i
    · rw [if_pos h1, if_pos (by omega)]
    · rw [if_neg h1, if_neg (by omega)]
theorem sM_zero {i : Nat} (ho : o i = true) : sL room ws n h o i = sM room ws n h o i 0 := sh_congr fun j _ => by
  by_cases h1 : j < i
  · rw [if_pos h1, if_pos h1]
  · rw [if_neg h1, if_neg h1]
    by_cases e : j = i
    · subst e
      rw [if_pos rfl, hk_zero, ho]; rfl
    · rw [if_neg e]
theorem sM_same {i k : Nat} (e1 : hk room ws h o i (k + 1) = hk room ws h o i k) : sM room ws n h o i k = sM room ws n h o i (k + 1) := by unfold sM; rw [e1]
theorem sM_set {i k : Nat} (e1 : hk room ws h o i (k + 1) = true) : (sM room ws n h o i k).set i true = sM room ws n h o i (k + 1) := by
  unfold sM
  rw [sh_set]
  refine sh_congr fun j _ => ?_
  by_cases e : j = i
  · subst e
    rw [if_pos rfl, if_neg (by omega), if_pos rfl, e1]
  · rw [if_neg e]
    by_cases h1 : j < i
    · rw [if_pos h1, if_pos h1]
    · rw [if_neg h1, if_neg h1, if_neg e, if_neg e]
theorem sM_all {i : Nat} (ho : o i = true) : sM room ws n h o i (row ws i).length = sL room ws n h o (i + 1) := sh_congr fun j _ => by
  by_cases e : j = i
  · subst e
    rw [if_neg (by omega), if_pos rfl, if_pos (by omega), hk_all]
    unfold cut; rw [ho]; simp
  · by_cases h1 : j < i
    · rw [if_pos h1, if_pos (by omega)]
    · rw [if_neg h1, if_neg e, if_neg (by omega)]
/-- The rates, the first i of them raised. -/
def hL (n : Nat) (h : Nat → Int) (o : Nat → Bool) (i : Nat) : List Int := lt n fun y => if y.toNat < i then inc h o y.toNat else h y.toNat
theorem hL_zero : hL n h o 0 = lt n fun y => h y.toNat := lt_congr fun j _ => by rw [if_neg (by omega)]
theorem hL_all : hL n h o n = lt n fun y => inc h o y.toNat := lt_congr fun j hj => by rw [if_pos (by omega)]
theorem hL_skip {i : Nat} (ho : o i = false) : hL n h o i = hL n h o (i + 1) := lt_congr fun j _ => by
  rw [Int.toNat_natCast]
  by_cases e : j = i
  · subst e
    rw [if_neg (by omega), if_pos (by omega)]
    unfold inc; rw [ho]; simp
  · by_cases h1 : j < i
    · rw [if_pos h1, if_pos (by omega)]
    · rw [if_neg h1, if_neg (by omega)]
theorem hL_get {i : Nat} (hi : i < n) : (hL n h o i)[i]?.getD 0 = h i := by
  unfold hL
  rw [lt_get _ _ _ hi, Int.toNat_natCast, if_neg (by omega)]
theorem hL_set {i : Nat} (ho : o i = true) : (hL n h o i).set i (h i + 1) = hL n h o (i + 1) := by
  unfold hL
  rw [lt_set]
  refine lt_congr fun j _ => ?_
  rw [Int.toNat_natCast]
  by_cases e : j = i
  · subst e
    rw [if_pos rfl, if_pos (by omega)]
    unfold inc; rw [if_pos ho]
  · rw [if_neg (by omega)]
    by_cases h1 : j < i
    · rw [if_pos h1, if_pos (by omega)]
    · rw [if_neg h1, if_neg (by omega)]
theorem cp_two (room : List Int) : ((room ++ [0]) ++ [0]).set room.length 0 = lt (room.length + 2) (cp room) := by
  refine List.ext_getElem (by rw [lt_len]; simp) fun j h1 h2 => ?_
  rw [lt_len] at h2
  have h3 := lt_get (room.length + 2) (cp room) j h2
  rw [List.getElem?_eq_getElem (by rw [lt_len]; exact h2)] at h3
  have h4 : (lt (room.length + 2) (cp room))[j] = cp room (j : Int) := h3
  rw [h4]
  unfold cp
  rw [Int.toNat_natCast, List.getElem_set]
  by_cases e : j < room.length
  · rw [if_neg (by omega), List.getElem_append_left (by simp; omega), List.getElem_append_left e, List.getElem?_eq_getElem e]; rfl
  · rw [List.getElem?_eq_none (by omega)]
    by_cases e2 : room.length = j
    · rw [if_pos e2]; rfl
    · rw [if_neg e2, List.getElem_append_right (by simp; omega)]
      simp
/-- What the document's Share has in memory. -/
structure Dc (w0 W : World) (G1 G2 n : Nat) (hs : List Int) (s : List Bool) : Prop where
  bel : Below w0.heap.size w0 W
  o1 : OwnI W w0.heap.size (.slice (some ⟨G1, 0, none⟩) n n) hs
  o2 : OwnT W w0.heap.size (.slice (some ⟨G2, 0, none⟩) n n) s
  ne : G1 ≠ G2
variable {w0 W W' : World} {G1 G2 : Nat} {hs : List Int} {s : List Bool}
theorem Dc.drewN (H : Dc w0 W G1 G2 n hs s) (m : Nat) : Dc w0 (W.drewN m) G1 G2 n hs s := ⟨bdrewN H.bel m, H.o1, H.o2, H.ne⟩
theorem Dc.call (H : Dc w0 W G1 G2 n hs s) (hb : Below W.heap.size W W') : Dc w0 W' G1 G2 n hs s := ⟨bcall H.bel hb, H.o1.below hb, H.o2.below hb, H.ne⟩
theorem Dc.set1 (H : Dc w0 W G1 G2 n hs s) (k : Nat) (x : Int) (hx : (Lit.int .i64 x).wf = true) : Dc w0 (W.setCell ⟨G1, k, none⟩ (.int .i64 x)) G1 G2 n (hs.set k x) s :=
  ⟨gbelow H.bel (Nat.le_refl _) (set_grown W G1 k _) (H.o1.lt G1 rfl).1, own_set H.o1 k x hx, H.o2.more (set_grown W G1 k _) (.inr fun e => H.ne (Option.some.inj e).symm), H.ne⟩
theorem Dc.set2 (H : Dc w0 W G1 G2 n hs s) (k : Nat) (x : Bool) : Dc w0 (W.setCell ⟨G2, k, none⟩ (.bool x)) G1 G2 n hs (s.set k x) :=
  ⟨gbelow H.bel (Nat.le_refl _) (set_grown W G2 k _) (H.o2.lt G2 rfl).1, H.o1.more (set_grown W G2 k _) (.inr fun e => H.ne (Option.some.inj e)), H.o2.set k x, H.ne⟩

theorem rshare_good (p1 : Option Addr) (cap1 n1 : Nat) (room : List Int) (p : Option Addr) (cap n : Nat) (ws : List (List Int)) (w : World) (hn1 : n1 = room.length) (hi1 : Ints w p1 cap1 room) (hn : n = ws.length) (hi : RowsI w p cap ws) (hg : Good room ws) (N : Nat) (r : Nat → Int) (hr : Runs room ws (fun _ => 0) all N r) :
    Calls Tryd.prog 7 #[.slice p1 n1 cap1, .slice p n cap] w fun e w' => ∃ c, e = .returned (.slice c n n) ∧ OwnI w' w.heap.size (.slice c n n) (lt n fun y => r y.toNat) ∧ Below w.heap.size w w' := by
  have hlp := hi.len_le
  rw [← hn] at hlp
  have hn5 : n ≤ 5 := by rw [hn]; exact hg.flows
  have hl6 : n1 ≤ 6 := by rw [hn1]; exact hg.links
  have BE := Lib.hid (fun W (hW : Below w.heap.size w W) => behind_own p1 cap1 n1 room 0 W hn1 (hi1.below hW) (by have := hg.links; omega) (by decide))
  obtain ⟨w1, hm1, ho1, hg1⟩ := made_ints w n (by omega)
  obtain ⟨w2, hm2, ho2, hg2⟩ := made_truth w1 n (by omega)
  have hb1 : Below w.heap.size w w1 := (brefl w).grown hg1 (Nat.le_refl _) (fun k hk => by cases hk)
  have hb2 : Below w1.heap.size w1 w2 := (brefl w1).grown hg2 (Nat.le_refl _) (fun k hk => by cases hk)
  have HD0 : Hid (Dc w w2 w.heap.size w1.heap.size n (lt n fun y => (fun _ => (0 : Int)) y.toNat) (sh n fun j => !all j)) := Lib.hid ⟨bcall hb1 hb2, by
    have := ho1.below hb2
    rwa [show List.replicate n (0 : Int) = lt n fun y => (fun _ => (0 : Int)) y.toNat by unfold lt; rw [List.map_const', List.length_range]] at this, by
    have := ho2.mono hb1.size
    rwa [show List.replicate n false = sh n fun j => !all j by unfold sh all; rw [show (fun j : Nat => !true) = fun _ => false from rfl, List.map_const', List.length_range]] at this, by have h9 : w.heap.size < w1.heap.size := (ho1.lt w.heap.size rfl).2; omega⟩
  have HG := Lib.hid hg
  have HN1 := Lib.hid hn1
  have HN := Lib.hid hn
  have HI := Lib.hid hi
  have HR := Lib.hid hr
  have HIV := Lib.hid (⟨0, Inv.start hg⟩ : ∃ t, Inv room ws (fun _ => 0) all t)
  obtain ⟨G2, hG2⟩ : ∃ G2, w1.heap.size = G2 := ⟨_, rfl⟩
  rw [hG2] at HD0 hm2
  clear hn1 hi1 hn hi hg hr ho1 ho2 hg1 hg2 hb1 hb2 hG2
  go_enter Tryd.func7, Tryd.ntmps7
  go_wp2_with fail
  clear hm1 hm2
  go_loopg [] N (fun gk wr => ∃ (h : Nat → Int) (o : Nat → Bool), Hid (Dc w wr w.heap.size G2 n (lt n fun y => h y.toNat) (sh n fun j => !o j)) ∧ Hid (Runs room ws h o gk r) ∧ Hid (∃ t, Inv room ws h o t))
  case atStart => exact ⟨fun _ => 0, all, HD0, HR, HIV⟩
  case round =>
    clear HD0 HR HIV
    obtain ⟨h, o, HD, HR, HIV⟩ := hrel
    obtain ⟨w5, rfl⟩ : ∃ z, z = wr := ⟨wr, rfl⟩
    go_wp2_with fail
    refine (BE.out w5 HD.out.bel).mono ?_; rintro e w3 ⟨g, c, rfl, hog, hg3, hb3⟩
    have HB3 := Lib.hid hb3
    have HOG := Lib.hid hog
    clear hog hg3 hb3
    have hB0 := HB3.out.size
    go_wp2_with (first
      | (at_builtin
         refine wp_app rfl (.tmp 23) (.tmp 24) rfl w5.heap.size _ (room ++ [0]) (some ⟨w3.heap.size, 0, none⟩) 1 1 [0] rfl (HOG.out.alloc _) rfl rfl (Ints.one _ 0 (by decide)) (by have := HN1.out; simp; omega) (Nat.le_trans hB0 (by simp)) ?_
         intro v8 w8 ho8 hg8 hat8
         have HB8 := Lib.hid (below_one HB3.out hB0 _ HOG.out hg8)
         have HN18 := Lib.hid (show n1 + 2 = ((room ++ [0]) ++ [0]).length by rw [HN1.out]; simp)
         obtain ⟨p8, c8, hv8, hi8⟩ := ho8.form
         rw [← HN18.out] at hv8
         subst hv8
         have ST := Lib.hid (set_list p8 c8 (n1 + 2) ((room ++ [0]) ++ [0]) n1 0 w8 HN18.out hi8 (by rw [← HN18.out]; omega) (by omega) (by decide))
         rw [HN1.out, cp_two, ← HN1.out] at ST
         clear ho8 hg8 hat8 hi8))
    refine ST.out.mono ?_; rintro e w9 ⟨g9, c9, rfl, ho9, hg9, hb9⟩
    obtain ⟨M, hM⟩ : ∃ M, n1 + 2 = M := ⟨_, rfl⟩
    have HL0 : Hid (Lft room ws n M (am n (inc h o)) w5 w9 g9 c9 0 0) := Lib.hid ⟨bcall HB8.out hb9, by
      rw [lt_congr (g := cp room) fun y _ => by rw [tak_zero, Int.sub_zero]]
      rw [hM] at ho9
      exact own_mono ho9 HB8.out.size⟩
    have HG9 := Lib.hid (show w5.heap.size ≤ g9 by have := HB8.out.size; omega)
    have HDW := Lib.hid (fun W (hW : Below w5.heap.size w5 W) => HD.out.call hW)
    rw [hM]
    clear BE ST ho9 hg9 hb9 HB8 HB3 HOG hB0
    obtain ⟨t0, ht0⟩ := HIV.out
    have HIT := Lib.hid ht0
    have HIN := Lib.hid (show ∀ i, i < n → 0 ≤ inc h o i ∧ inc h o i ≤ 1001 from fun i hi => by
      have h1 := ht0.any i (by rw [← HN.out]; exact hi)
      have h2 := ht0.top HG.out (i := i) (by rw [← HN.out]; exact hi)
      unfold inc
      split <;> omega)
    clear ht0 HIV
    go_wp2_with fail
    go_loopw [8] (fun iv wr => ∃ i : Nat, i ≤ n ∧ iv = .int .i64 i ∧ Hid (Lft room ws n M (am n (inc h o)) w5 wr g9 c9 i 0)) (fun i _ => n - (intOf i).toNat)
    case atStart => exact ⟨0, Nat.zero_le _, rfl, HL0⟩
    case round =>
      clear HL0
      obtain ⟨i, hin, rfl, HL⟩ := hrel
      by_cases hlt : i < n
      · have u1 : decide ((i : Int) < (n : Int)) = true := decide_eq_true (by omega)
        have HDi := Lib.hid (HDW.out wr HL.out.bel)
        have hch := own_cell HDi.out.o1 i (by rw [lt_len]; exact hlt)
        rw [lt_get _ _ _ hlt, Int.toNat_natCast] at hch
        have hcs := HDi.out.o2.cell i (!o i) (sh_get _ hlt)
        have hil : i < ws.length := by rw [← HN.out]; exact hlt
        have hb1 := HIT.out.any i hil
        have hb2 := HIT.out.top HG.out hil
        obtain ⟨b, off, rfl, hrow⟩ := rows_both HI.out (by omega)
        obtain ⟨q1, c1, hlz, hrw⟩ := hrow i hil
        obtain ⟨z, hz⟩ : ∃ z, (row ws i).length = z := ⟨_, rfl⟩
        rw [hz] at hlz
        have HRW := Lib.hid (fun W hW => hrw W (HDW.out W hW).bel)
        have HIL := Lib.hid hil
        have HZ := Lib.hid hz
        have HRI := Lib.hid (am_at (r := inc h o) hlt)
        have hin' : (i : Int) < (n : Int) := by omega
        have hinc : inc h o i = h i + if o i = true then 1 else 0 := rfl
        rw [hinc] at HRI
        clear hrow hrw hil hz hinc HDi
        obtain ⟨y, hy⟩ : ∃ y, h i = y := ⟨_, rfl⟩
        rw [hy] at hch hb1 hb2 HRI
        cases hoi : o i with
        | true =>
          rw [hoi] at hcs HRI
          rw [if_pos rfl] at HRI
          have hwy := wrap_in (n := y + 1) (by omega)
          clear hy hoi
          go_wp2_with fail
          go_loopw [10] (fun kv wr => ∃ k : Nat, k ≤ z ∧ kv = .int .i64 k ∧ Hid (Lft room ws n M (am n (inc h o)) w5 wr g9 c9 i k)) (fun k _ => z - (intOf k).toNat)
          case atStart => exact ⟨0, Nat.zero_le _, rfl, HL⟩
          case round =>
            clear HL
            obtain ⟨k, hk, rfl, HK⟩ := hrel
            obtain ⟨hck, hik⟩ := HRW.out wr HK.out.bel
            rw [HZ.out] at hck
            by_cases hkz : k < z
            · have v1 : decide ((k : Int) < (z : Int)) = true := decide_eq_true (by omega)
              have hkl : k < (row ws i).length := by rw [HZ.out]; exact hkz
              obtain ⟨x, hx, hx6, hxL⟩ := link_at HG.out HIL.out hkl
              obtain ⟨b3, off3, rfl, _, hcc⟩ := hik.2.2.2 (by omega)
              have hck3 := hcc k hkl
              rw [hx] at hck3
              have hxM : x < M := by have := HN1.out; omega
              have hxM' : (x : Int) < (M : Int) := by omega
              have hcl := HK.out.cell hxM
              have hfl := HK.out.fz x
              have ht := tak_in HG.out.once (am_in (B := 1001) (by omega) HIN.out) hn5 i k (x : Int)
              have hc := cp_in HG.out hxL
              have HV := Lib.hid (HK.out.step hlt hkl hx (cp room (x : Int) - tak ws n (am n (inc h o)) i k (x : Int) - (y + 1)) (by rw [HRI.out]) (by omega))
              obtain ⟨s, hs0⟩ : ∃ s, cp room (x : Int) - tak ws n (am n (inc h o)) i k (x : Int) = s := ⟨_, rfl⟩
              have hs : -10000 ≤ s ∧ s ≤ 10000 := by omega
              rw [hs0] at hcl HV
              clear hs0
              have hwr := wrap_in (n := s - (y + 1)) (by omega)
              have hkz' : (k : Int) < (z : Int) := by omega
              clear hcc hkl hx hx6 hxL ht hc hik
              go_wp2_with fail
              go_region
              go_wp2_with fail
              go_roundw
              case rel => exact ⟨k + 1, by omega, by first | rfl | go_num, by first | exact Lib.hid HV.out.drew | exact HV⟩
              case measure => simp [intOf]; omega
            · obtain rfl : k = z := by omega
              have v1 : decide ((k : Int) < (k : Int)) = false := decide_eq_false (by omega)
              have HN2 := Lib.hid (show Lft room ws n M (am n (inc h o)) w5 wr g9 c9 (i + 1) 0 from Lft.next (by rw [HZ.out]; exact HK.out) hlt)
              clear hik
              go_wp2_with fail
              go_roundw
              case rel => exact ⟨i + 1, by omega, by first | rfl | go_num, HN2⟩
              case measure => simp [intOf]; omega
        | false =>
          rw [hoi] at hcs HRI
          rw [if_neg (by decide), Int.add_zero] at HRI
          clear hy hoi
          go_wp2_with fail
          go_loopw [10] (fun kv wr => ∃ k : Nat, k ≤ z ∧ kv = .int .i64 k ∧ Hid (Lft room ws n M (am n (inc h o)) w5 wr g9 c9 i k)) (fun k _ => z - (intOf k).toNat)
          case atStart => exact ⟨0, Nat.zero_le _, rfl, HL⟩
          case round =>
            clear HL
            obtain ⟨k, hk, rfl, HK⟩ := hrel
            obtain ⟨hck, hik⟩ := HRW.out wr HK.out.bel
            rw [HZ.out] at hck
            by_cases hkz : k < z
            · have v1 : decide ((k : Int) < (z : Int)) = true := decide_eq_true (by omega)
              have hkl : k < (row ws i).length := by rw [HZ.out]; exact hkz
              obtain ⟨x, hx, hx6, hxL⟩ := link_at HG.out HIL.out hkl
              obtain ⟨b3, off3, rfl, _, hcc⟩ := hik.2.2.2 (by omega)
              have hck3 := hcc k hkl
              rw [hx] at hck3
              have hxM : x < M := by have := HN1.out; omega
              have hxM' : (x : Int) < (M : Int) := by omega
              have hcl := HK.out.cell hxM
              have hfl := HK.out.fz x
              have ht := tak_in HG.out.once (am_in (B := 1001) (by omega) HIN.out) hn5 i k (x : Int)
              have hc := cp_in HG.out hxL
              have HV := Lib.hid (HK.out.step hlt hkl hx (cp room (x : Int) - tak ws n (am n (inc h o)) i k (x : Int) - (y)) (by rw [HRI.out]) (by omega))
              obtain ⟨s, hs0⟩ : ∃ s, cp room (x : Int) - tak ws n (am n (inc h o)) i k (x : Int) = s := ⟨_, rfl⟩
              have hs : -10000 ≤ s ∧ s ≤ 10000 := by omega
              rw [hs0] at hcl HV
              clear hs0
              have hwr := wrap_in (n := s - (y)) (by omega)
              have hkz' : (k : Int) < (z : Int) := by omega
              clear hcc hkl hx hx6 hxL ht hc hik
              go_wp2_with fail
              go_region
              go_wp2_with fail
              go_roundw
              case rel => exact ⟨k + 1, by omega, by first | rfl | go_num, by first | exact Lib.hid HV.out.drew | exact HV⟩
              case measure => simp [intOf]; omega
            · obtain rfl : k = z := by omega
              have v1 : decide ((k : Int) < (k : Int)) = false := decide_eq_false (by omega)
              have HN2 := Lib.hid (show Lft room ws n M (am n (inc h o)) w5 wr g9 c9 (i + 1) 0 from Lft.next (by rw [HZ.out]; exact HK.out) hlt)
              clear hik
              go_wp2_with fail
              go_roundw
              case rel => exact ⟨i + 1, by omega, by first | rfl | go_num, HN2⟩
              case measure => simp [intOf]; omega
      · obtain rfl : i = n := by omega
        have u1 : decide ((i : Int) < (i : Int)) = false := decide_eq_false (by omega)
        obtain ⟨w6, rfl⟩ : ∃ z, z = wr := ⟨wr, rfl⟩
        have HD6 := Lib.hid (HDW.out w6 HL.out.bel)
        have HS0 : Hid (Dc w w6 w.heap.size G2 i (lt i fun y => h y.toNat) (sL room ws i h o 0)) := Lib.hid (by rw [sL_zero]; exact HD6.out)
        have HLF : Hid (∀ W, w6.grownBy W (some G2) → ∀ x : Nat, x < n1 → W.cell? ⟨g9, x, none⟩ = some (.int .i64 (lf room ws (inc h o) (x : Int)))) := Lib.hid (fun W hW x hx => by
          have h1 := HL.out.left HG.out.once HN.out (x := x) (by omega)
          exact cell_keep h1 hW (fun e => by
            have h2 := (HD.out.o2.lt G2 rfl).2
            have h3 := Option.some.inj e
            have h4 := HG9.out
            omega))
        clear HL HD6 HG9
        go_wp2_with fail
        go_loopw [11, 12, 13] (fun sv ov iv wr => ∃ (j : Nat) (sm op : Bool), j ≤ i ∧ sv = .bool sm ∧ ov = .bool op ∧ iv = .int .i64 j ∧ Hid (Dc w wr w.heap.size G2 i (lt i fun y => h y.toNat) (sL room ws i h o j)) ∧ Hid (w6.grownBy wr (some G2)) ∧ Hid (sm = true ↔ ∃ j', j' < j ∧ o j' = true ∧ hit room ws h o j' = true) ∧ Hid (op = true ↔ ∃ j', j' < j ∧ o j' = true)) (fun _ _ j _ => i - (intOf j).toNat)
        case atStart => exact ⟨0, false, false, Nat.zero_le _, rfl, rfl, rfl, HS0, Lib.hid (grefl w6 (some G2)), Lib.hid ⟨fun h => (nomatch h), fun ⟨k', h, _⟩ => absurd h (Nat.not_lt_zero _)⟩, Lib.hid ⟨fun h => (nomatch h), fun ⟨k', h, _⟩ => absurd h (Nat.not_lt_zero _)⟩⟩
        case round =>
          clear HS0
          obtain ⟨j, sm, op, hj, rfl, rfl, rfl, HS, HGR, HSM, HOP⟩ := hrel
          by_cases hji : j < i
          · have v1 : decide ((j : Int) < (i : Int)) = true := decide_eq_true (by omega)
            have hji' : (j : Int) < (i : Int) := by omega
            have hcs := HS.out.o2.cell j (!o j) (by unfold sL; rw [sh_get _ hji, if_neg (by omega)])
            cases hoj : o j with
            | false =>
              rw [hoj] at hcs
              have HS2 := HS
              rw [sL_skip hoj] at HS2
              have HSM2 : Hid (sm = true ↔ ∃ j', j' < j + 1 ∧ o j' = true ∧ hit room ws h o j' = true) := Lib.hid (by
                rw [HSM.out]
                constructor
                · rintro ⟨j', h1, h2⟩; exact ⟨j', by omega, h2⟩
                · rintro ⟨j', h1, h2⟩
                  by_cases e : j' = j
                  · subst e; rw [hoj] at h2; cases h2.1
                  · exact ⟨j', by omega, h2⟩)
              have HOP2 : Hid (op = true ↔ ∃ j', j' < j + 1 ∧ o j' = true) := Lib.hid (by
                rw [HOP.out]
                constructor
                · rintro ⟨j', h1, h2⟩; exact ⟨j', by omega, h2⟩
                · rintro ⟨j', h1, h2⟩
                  by_cases e : j' = j
                  · subst e; rw [hoj] at h2; cases h2
                  · exact ⟨j', by omega, h2⟩)
              clear hoj
              go_wp2_with fail
              go_roundw
              case rel => exact ⟨j + 1, sm, op, by omega, rfl, rfl, by first | rfl | go_num, HS2, HGR, HSM2, HOP2⟩
              case measure => simp [intOf]; omega
            | true =>
              rw [hoj] at hcs
              have HOJ := Lib.hid hoj
              have HS2 := HS
              rw [sM_zero hoj] at HS2
              have hjl : j < ws.length := by rw [← HN.out]; exact hji
              obtain ⟨b, off, rfl, hrow⟩ := rows_both HI.out (by omega)
              obtain ⟨q1, c1, hlz, hrw⟩ := hrow j hjl
              obtain ⟨z, hz⟩ : ∃ z, (row ws j).length = z := ⟨_, rfl⟩
              rw [hz] at hlz
              have HRW := Lib.hid hrw
              have HJL := Lib.hid hjl
              have HZ := Lib.hid hz
              have HSM2 : Hid (sm = true ↔ (∃ j', j' < j ∧ o j' = true ∧ hit room ws h o j' = true) ∨ hk room ws h o j 0 = true) := Lib.hid (by rw [HSM.out, hk_zero]; simp)
              clear hrow hrw hjl hz hoj HS HSM
              go_wp2_with fail
              go_loopw [11, 14] (fun sv kv wr => ∃ (k : Nat) (sm : Bool), k ≤ z ∧ sv = .bool sm ∧ kv = .int .i64 k ∧ Hid (Dc w wr w.heap.size G2 i (lt i fun y => h y.toNat) (sM room ws i h o j k)) ∧ Hid (w6.grownBy wr (some G2)) ∧ Hid (sm = true ↔ (∃ j', j' < j ∧ o j' = true ∧ hit room ws h o j' = true) ∨ hk room ws h o j k = true)) (fun _ k _ => z - (intOf k).toNat)
              case atStart => exact ⟨0, sm, Nat.zero_le _, rfl, rfl, HS2, HGR, HSM2⟩
              case round =>
                clear HS2 HGR HSM2 hcs
                obtain ⟨k, sm, hk1, rfl, rfl, HS, HGR, HSM⟩ := hrel
                obtain ⟨hck, hik⟩ := HRW.out wr HS.out.bel
                rw [HZ.out] at hck
                by_cases hkz : k < z
                · have v2 : decide ((k : Int) < (z : Int)) = true := decide_eq_true (by omega)
                  have hkl : k < (row ws j).length := by rw [HZ.out]; exact hkz
                  obtain ⟨x, hx, hx6, hxL⟩ := link_at HG.out HJL.out hkl
                  obtain ⟨b3, off3, rfl, _, hcc⟩ := hik.2.2.2 (by omega)
                  have hck3 := hcc k hkl
                  rw [hx] at hck3
                  have hxM' : (x : Int) < (M : Int) := by have := HN1.out; omega
                  have hcl := HLF.out wr HGR.out x (by rw [HN1.out]; exact hxL)
                  have hkz' : (k : Int) < (z : Int) := by omega
                  have hst := hk_step (room := room) (h := h) (o := o) hkl hx
                  obtain ⟨y, hy⟩ : ∃ y, lf room ws (inc h o) (x : Int) = y := ⟨_, rfl⟩
                  rw [hy] at hcl hst
                  have hcj := HS.out.o2.cell j (hk room ws h o j k) (by unfold sM; rw [sh_get _ hji, if_neg (by omega), if_pos rfl])
                  have hfj := HS.out.o2.fz j
                  by_cases hneg : y < 0
                  · have t1 : decide (y < 0) = true := decide_eq_true hneg
                    rw [t1, Bool.or_true] at hst
                    have HS3 := Lib.hid (HS.out.set2 j true)
                    rw [sM_set hst] at HS3
                    have HG3 := Lib.hid (grown_set HGR.out j (.bool true))
                    have HSM3 : Hid (true = true ↔ (∃ j', j' < j ∧ o j' = true ∧ hit room ws h o j' = true) ∨ hk room ws h o j (k + 1) = true) := Lib.hid ⟨fun _ => .inr hst, fun _ => rfl⟩
                    clear hcc hkl hx hx6 hxL hy hik hst hneg HS HSM
                    generalize hk room ws h o j k = bb at hcj
                    go_wp2_with fail
                    go_roundw
                    case rel => exact ⟨k + 1, true, by omega, rfl, by first | rfl | go_num, HS3, HG3, HSM3⟩
                    case measure => simp [intOf]; omega
                  · have t1 : decide (y < 0) = false := decide_eq_false hneg
                    rw [t1, Bool.or_false] at hst
                    have HS3 := HS
                    rw [sM_same hst] at HS3
                    have HSM3 : Hid (sm = true ↔ (∃ j', j' < j ∧ o j' = true ∧ hit room ws h o j' = true) ∨ hk room ws h o j (k + 1) = true) := Lib.hid (by rw [hst]; exact HSM.out)
                    clear hcc hkl hx hx6 hxL hy hik hst hneg HS HSM hcj hfj
                    go_wp2_with fail
                    go_roundw
                    case rel => exact ⟨k + 1, sm, by omega, rfl, by first | rfl | go_num, HS3, HGR, HSM3⟩
                    case measure => simp [intOf]; omega
                · obtain rfl : k = z := by omega
                  have v2 : decide ((k : Int) < (k : Int)) = false := decide_eq_false (by omega)
                  have HS3 := HS
                  rw [← HZ.out, sM_all HOJ.out] at HS3
                  have HSM3 : Hid (sm = true ↔ ∃ j', j' < j + 1 ∧ o j' = true ∧ hit room ws h o j' = true) := Lib.hid (by
                    rw [HSM.out, ← HZ.out, hk_all]
                    constructor
                    · rintro (⟨j', h1, h2⟩ | h1)
                      · exact ⟨j', by omega, h2⟩
                      · exact ⟨j, by omega, HOJ.out, h1⟩
                    · rintro ⟨j', h1, h2⟩
                      by_cases e : j' = j
                      · subst e; exact .inr h2.2
                      · exact .inl ⟨j', by omega, h2⟩)
                  have HOP3 : Hid (true = true ↔ ∃ j', j' < j + 1 ∧ o j' = true) := Lib.hid ⟨fun _ => ⟨j, by omega, HOJ.out⟩, fun _ => rfl⟩
                  clear hik HS HSM
                  go_wp2_with fail
                  go_roundw
                  case rel => exact ⟨j + 1, sm, true, by omega, rfl, rfl, by first | rfl | go_num, HS3, HGR, HSM3, HOP3⟩
                  case measure => simp [intOf]; omega
          · obtain rfl : j = i := by omega
            have v1 : decide ((j : Int) < (j : Int)) = false := decide_eq_false (by omega)
            cases op with
            | false =>
              have HE := Lib.hid (show r = h from runs_done HR.out (by
                rw [← HN.out]
                refine List.length_eq_zero_iff.2 (List.eq_nil_iff_forall_not_mem.2 fun k' hk' => ?_)
                have := acts_in.1 hk'
                exact absurd (HOP.out.2 ⟨k', this.1, this.2⟩) (by decide)))
              go_wp2_with fail
              go_ret
              exact ⟨_, rfl, by rw [HE.out]; exact HS.out.o1, HS.out.bel⟩
            | true =>
              obtain ⟨k', hk', hstep⟩ := runs_step HR.out (by
                obtain ⟨i', h1, h2⟩ := HOP.out.1 rfl
                rw [← HN.out]
                exact List.length_pos_of_mem (acts_in.2 ⟨h1, h2⟩))
              have HKK := Lib.hid hk'
              have HS1 := HS
              rw [sL_all] at HS1
              cases sm with
              | true =>
                have HX : Hid (Runs room ws h (Maxmin.cut room ws h o) k' r) := Lib.hid (by
                  rcases hstep with ⟨_, h2⟩ | ⟨h1, _⟩
                  · exact h2
                  · obtain ⟨j', h3, h4, h5⟩ := HSM.out.1 rfl
                    rw [h1 j' (by rw [← HN.out]; exact h3) h4] at h5; cases h5)
                have HIV2 := Lib.hid (⟨t0, HIT.out.cut HG.out⟩ : ∃ t, Inv room ws h (Maxmin.cut room ws h o) t)
                obtain ⟨w7, rfl⟩ : ∃ z, z = wr := ⟨wr, rfl⟩
                clear hstep hk' HS HSM HOP HR
                go_wp2_with fail
                go_loopw [15] (fun iv wr => iv = .int .i64 ((0 : Nat) : Int) ∧ wr = w7) (fun _ _ => 0)
                case atStart => exact ⟨rfl, rfl⟩
                case round =>
                  obtain ⟨rfl, rfl⟩ := hrel
                  by_cases h0 : 0 < j
                  · have v2 : decide (((0 : Nat) : Int) < (j : Int)) = true := decide_eq_true (by omega)
                    have v3 : decide ((0 : Int) < (j : Int)) = true := decide_eq_true (by omega)
                    go_wp2_with fail
                    go_roundg k'
                    case measure => exact HKK.out
                    case rel => exact ⟨h, Maxmin.cut room ws h o, HS1, HX, HIV2⟩
                  · have v2 : decide (((0 : Nat) : Int) < (j : Int)) = false := decide_eq_false (by omega)
                    have v3 : decide ((0 : Int) < (j : Int)) = false := decide_eq_false (by omega)
                    go_wp2_with fail
                    go_roundg k'
                    case measure => exact HKK.out
                    case rel => exact ⟨h, Maxmin.cut room ws h o, HS1, HX, HIV2⟩
              | false =>
                have hno : ∀ i, i < ws.length → o i = true → hit room ws h o i = false := fun i' h1 h2 => by
                  cases hh : hit room ws h o i' with
                  | false => rfl
                  | true => exact absurd (HSM.out.2 ⟨i', by rw [HN.out]; exact h1, h2, hh⟩) (by decide)
                have HX : Hid (Runs room ws (Maxmin.inc h o) o k' r) := Lib.hid (by
                  rcases hstep with ⟨⟨j', h3, h4, h5⟩, _⟩ | ⟨_, h2⟩
                  · rw [hno j' h3 h4] at h5; cases h5
                  · exact h2)
                have HIV2 := Lib.hid (⟨t0 + 1, HIT.out.inc HG.out hno⟩ : ∃ t, Inv room ws (Maxmin.inc h o) o t)
                have HS2 : Hid (Dc w wr w.heap.size G2 j (hL j h o 0) (sh j fun j' => !o j')) := Lib.hid (by
                  rw [hL_zero]
                  have h1 := HS1.out
                  rwa [sh_congr (g := fun j' => !o j') fun k1 hk1 => by
                    unfold Maxmin.cut
                    cases ho : o k1 with
                    | false => rfl
                    | true => rw [hno k1 (by rw [← HN.out]; exact hk1) ho]; rfl] at h1)
                clear hstep hk' HS HSM HOP HR HS1 hno
                go_wp2_with fail
                go_loopw [15] (fun iv wr => ∃ k : Nat, k ≤ j ∧ iv = .int .i64 k ∧ Hid (Dc w wr w.heap.size G2 j (hL j h o k) (sh j fun j' => !o j'))) (fun k _ => j - (intOf k).toNat)
                case atStart => exact ⟨0, Nat.zero_le _, rfl, HS2⟩
                case round =>
                  clear HS2
                  obtain ⟨k, hk1, rfl, HS⟩ := hrel
                  by_cases hkj : k < j
                  · have v2 : decide ((k : Int) < (j : Int)) = true := decide_eq_true (by omega)
                    have hkj' : (k : Int) < (j : Int) := by omega
                    have hcs := HS.out.o2.cell k (!o k) (sh_get _ hkj)
                    cases hok : o k with
                    | false =>
                      rw [hok] at hcs
                      have HS3 := HS
                      rw [hL_skip hok] at HS3
                      clear hok
                      go_wp2_with fail
                      go_roundw
                      case rel => exact ⟨k + 1, by omega, by first | rfl | go_num, HS3⟩
                      case measure => simp [intOf]; omega
                    | true =>
                      rw [hok] at hcs
                      have hch := own_cell HS.out.o1 k (by unfold hL; rw [lt_len]; exact hkj)
                      rw [hL_get hkj] at hch
                      have hfh := own_fz HS.out.o1 k
                      have hb1 := HIT.out.any k (by rw [← HN.out]; exact hkj)
                      have hb2 := HIT.out.top HG.out (i := k) (by rw [← HN.out]; exact hkj)
                      have HS3 := Lib.hid (HS.out.set1 k (h k + 1) (wf_small (by omega)))
                      rw [hL_set hok] at HS3
                      have hwr := wrap_in (n := h k + 1) (by omega)
                      obtain ⟨y, hy⟩ : ∃ y, h k = y := ⟨_, rfl⟩
                      rw [hy] at hch hwr HS3
                      clear hok hb1 hb2 hy
                      go_wp2_with fail
                      go_roundw
                      case rel => exact ⟨k + 1, by omega, by first | rfl | go_num, HS3⟩
                      case measure => simp [intOf]; omega
                  · obtain rfl : k = j := by omega
                    have v2 : decide ((k : Int) < (k : Int)) = false := decide_eq_false (by omega)
                    have HS3 := HS
                    rw [hL_all] at HS3
                    go_wp2_with fail
                    go_roundg k'
                    case measure => exact HKK.out
                    case rel => exact ⟨Maxmin.inc h o, o, HS3, HX, HIV2⟩
end Go.Proofs.YtggnpecmldnmnaaDoor.Maxmin
