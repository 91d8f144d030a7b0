/- RoundsSay: for any queues, Run and Bits return what the document specifies: for every input, the row's handle laid as the card says. -/
import Derived.Test.YtmjkjkiogkmmpaaDoorCards
import Derived.Test.YtmjkjkiogkmmpaaDoorTie
import Derived.Deep.DeepHandedRow
import Derived.Lib.LaidTab
import Derived.LaidHandle
import Derived.SevenTiedAt
import Derived.Test.YtmjkjkiogkmmpaaDoorRoundsRef
import Derived.Test.YtmjkjkiogkmmpaaDoorDrrTot
import Derived.Test.YtmjkjkiogkmmpaaDoorErrSame
import Derived.Test.YtmjkjkiogkmmpaaDoorSame
namespace Go.Proofs.YtmjkjkiogkmmpaaDoor.RoundsSayL
open Go.ChangeShapes Go.WideShapes Go.ChangeAt Go.RowKit Go.Proofs.YtmjkjkiogkmmpaaDoor.Kit Go.Proofs.YtmjkjkiogkmmpaaDoor.App Go.Proofs.YtmjkjkiogkmmpaaDoor.Err Go.Proofs.YtmjkjkiogkmmpaaDoor.Drr Go.Proofs.YtmjkjkiogkmmpaaDoor.Rounds Go.Proofs.YtmjkjkiogkmmpaaDoor.As
set_option linter.unusedVariables false
set_option maxRecDepth 20000
set_option maxHeartbeats 4000000

/-- One slice that is written in place, two that grow. -/
structure Tri (w0 w : World) (G B n : Nat) (A : List Int) (u v : Value) (X Y : List Int) : Prop where
  o1 : OwnI w G (.slice (some ⟨G, 0, none⟩) n n) A
  p1 : OwnI w B u X
  p2 : OwnI w B v Y
  apt : Apt u v
  lo : w0.heap.size ≤ G
  lt : G < B
  siz : B ≤ w.heap.size
  bel : Below w0.heap.size w0 w
variable {w0 w w' : World} {G B n : Nat} {A X Y X' Y' : List Int} {u v u' v' : Value}
theorem Tri.below (H : Tri w0 w G B n A u v X Y) (hb : Below w.heap.size w w') : Tri w0 w' G B n A u v X Y :=
  ⟨H.o1.below hb, H.p1.below hb, H.p2.below hb, H.apt, H.lo, H.lt, Nat.le_trans H.siz hb.size, bcall H.bel hb⟩
theorem Tri.drewN (H : Tri w0 w G B n A u v X Y) (m : Nat) : Tri w0 (w.drewN m) G B n A u v X Y := H.below (bdrewN (brefl w) m)
theorem Tri.drew (H : Tri w0 w G B n A u v X Y) : Tri w0 w.drew G B n A u v X Y := H.below (bdrewN (brefl w) 1)
theorem Tri.alloc (H : Tri w0 w G B n A u v X Y) (ob : Obj) : Tri w0 (w.alloc ob) G B n A u v X Y := H.below (balloc (brefl w) ob)
theorem Tri.set (H : Tri w0 w G B n A u v X Y) (k : Nat) (x : Int) (hx : (Lit.int .i64 x).wf = true) : Tri w0 (w.setCell ⟨G, k, none⟩ (.int .i64 x)) G B n (A.set k x) u v X Y :=
  ⟨own_set H.o1 k x hx, H.p1.more (set_grown w G k _) (own_ge H.p1 H.lt), H.p2.more (set_grown w G k _) (own_ge H.p2 H.lt), H.apt, H.lo, H.lt, by have := (set_grown w G k (.int .i64 x)).size; have := H.siz; omega, below_set H.bel G k _ H.lo⟩
theorem Tri.app1 (H : Tri w0 w G B n A u v X Y) (ho : OwnI w' B u' X') (hg : w.grownBy w' u.ownBlock) (hv : u'.ownBlock = u.ownBlock ∨ u'.ownBlock = some w.heap.size) : Tri w0 w' G B n A u' v X' Y :=
  ⟨H.o1.more hg (.inr (fun e => by have := (H.p1.lt G e.symm).1; have := H.lt; omega)), ho, H.p2.more hg H.apt.symm.ne, (H.apt.symm.grow (fun k hk => (H.p2.lt k hk).2) (Nat.le_refl _) hv).symm, H.lo, H.lt, Nat.le_trans H.siz hg.size,
    H.bel.grown hg H.bel.size (fun k hk => by have := (H.p1.lt k hk).1; have := H.lo; have := H.lt; omega)⟩
theorem Tri.app2 (H : Tri w0 w G B n A u v X Y) (ho : OwnI w' B v' Y') (hg : w.grownBy w' v.ownBlock) (hv : v'.ownBlock = v.ownBlock ∨ v'.ownBlock = some w.heap.size) : Tri w0 w' G B n A u v' X Y' :=
  ⟨H.o1.more hg (.inr (fun e => by have := (H.p2.lt G e.symm).1; have := H.lt; omega)), H.p1.more hg H.apt.ne, ho, H.apt.grow (fun k hk => (H.p1.lt k hk).2) (Nat.le_refl _) hv, H.lo, H.lt, Nat.le_trans H.siz hg.size,
    H.bel.grown hg H.bel.size (fun k hk => by have := (H.p2.lt k hk).1; have := H.lo; have := H.lt; omega)⟩
theorem nums_len (m : List Pk) : (nums m).length = m.length := by simp [nums]
theorem nums_get {m : List Pk} {j : Nat} {p : Pk} (h : m[j]? = some p) : (nums m)[j]?.getD 0 = p.num := by
  unfold nums
  rw [List.getElem?_map, h]; rfl
theorem bits_step (qs : List (List Int)) {m : List Pk} {j : Nat} {p : Pk} (hp : m[j]? = some p) : (Rounds.bits qs 5 m).take (j + 1) = (Rounds.bits qs 5 m).take j ++ [bit qs p.rnd 5] := by
  unfold Rounds.bits
  rw [List.take_add_one, List.getElem?_map, hp]
  rfl

abbrev Law (p : Option Addr) (n cap : Nat) (w : World) : Prop := Calls Tryd.prog 3 #[.slice p n cap] w fun e w' => e = .returned (.bool true) ∧ Below w.heap.size w w'
theorem law_bad (p : Option Addr) (n cap : Nat) (ls : List (List Int)) (w : World) (hH : Handle w) (hn : n = ls.length) (hi : RowsI w p cap ls) (c : Int) (hc : code ls = c) (h0 : c ≠ 0) : Law p n cap w := by
  have D1 := Lib.hid (rqueues_any p cap n ls w hn hi c hc)
  have E1 := Lib.hid (fun W (hb : Below w.heap.size w W) => err_same c W (hH.below hb))
  have RU := Lib.hid (fun W (hW : Below w.heap.size w W) => run_any p cap n ls W hn (hi.below hW) c hc [] (fun h => absurd h h0) (fun _ => rfl) 0 rfl)
  have RB := Lib.hid (fun W (hW : Below w.heap.size w W) => bits_any p cap n ls W hn (hi.below hW) c hc [] (fun h => absurd h h0) (fun _ => rfl) 0 rfl)
  have t0 : (c == 0) = false := by rw [beq_eq_false_iff_ne]; exact h0
  have HB0 := Lib.hid (brefl w)
  have O0 := Lib.hid (Ints.nil w)
  have O1 := Lib.hid (Ints.nil w)
  have O2 := Lib.hid (Ints.nil w)
  obtain ⟨LA, hla⟩ : ∃ l : List Int, l = nums [] := ⟨_, rfl⟩
  obtain ⟨LB, hlb⟩ : ∃ l : List Int, l = ends (sizes []) := ⟨_, rfl⟩
  obtain ⟨LC, hlc⟩ : ∃ l : List Int, l = Rounds.bits ls 5 [] := ⟨_, rfl⟩
  rw [← hla, ← hlb] at RU
  rw [← hlc] at RB
  rw [show ([] : List Int) = LA by rw [hla]; rfl] at O0
  rw [show ([] : List Int) = LB by rw [hlb]; rfl] at O1
  rw [show ([] : List Int) = LC by rw [hlc]; rfl] at O2
  have HLA := Lib.hid (show 0 = LA.length by rw [hla]; rfl)
  have HLB := Lib.hid (show 0 = LB.length by rw [hlb]; rfl)
  have HLC := Lib.hid (show 0 = LC.length by rw [hlc]; rfl)
  clear hn hi hc h0 hH hla hlb hlc
  generalize er c = V at E1 RU RB
  unfold Law
  go_enter Tryd.func3, Tryd.ntmps3
  go_wp2_with fail
  refine D1.out.mono ?_; rintro e w1 ⟨rfl, hw1⟩
  have hw1 := hw1.symm
  subst hw1
  clear D1
  go_wp2_with fail
  refine (RU.out w HB0.out).mono ?_; rintro e w2 ⟨⟨r, cr, r2, cr2, rfl, hI, hI2⟩, hb2⟩
  have HB2 := Lib.hid (bcall HB0.out hb2)
  have HR1 := Lib.hid hI
  have HR2 := Lib.hid hI2
  have HA2 := Lib.hid (O0.out.below hb2)
  have HE2 := Lib.hid (O1.out.below hb2)
  have HC2 := Lib.hid (O2.out.below hb2)
  clear RU hb2 hI hI2 O0 O1 O2
  go_wp2_with fail
  refine (E1.out w2 HB2.out).mono ?_; rintro e w3 ⟨rfl, hb3⟩
  have HB3 := Lib.hid (bcall HB2.out hb3)
  have HE3 := Lib.hid (HE2.out.below hb3)
  have HC3 := Lib.hid (HC2.out.below hb3)
  have HR3 := Lib.hid (HR2.out.below hb3)
  have SM := Lib.hid (ints_any r _ cr _ 0 0 LA LA w3 HLA.out HLA.out (HR1.out.below hb3) (HA2.out.below hb3) true (by simp))
  clear hb3 HR1 HA2 HR2 HE2 HC2
  go_wp2_with fail
  refine SM.out.mono ?_; rintro e w4 ⟨rfl, hb4⟩
  have HB4 := Lib.hid (bcall HB3.out hb4)
  have HC4 := Lib.hid (HC3.out.below hb4)
  have SM2 := Lib.hid (ints_any r2 _ cr2 _ 0 0 LB LB w4 HLB.out HLB.out (HR3.out.below hb4) (HE3.out.below hb4) true (by simp))
  clear SM hb4 HR3 HE3 HC3
  go_wp2_with fail
  refine SM2.out.mono ?_; rintro e w5 ⟨rfl, hb5⟩
  have HB5 := Lib.hid (bcall HB4.out hb5)
  have HC5 := Lib.hid (HC4.out.below hb5)
  clear SM2 hb5 HC4
  go_wp2_with fail
  refine (RB.out w5 HB5.out).mono ?_; rintro e w6 ⟨⟨r3, cr3, rfl, hI3⟩, hb6⟩
  have HB6 := Lib.hid (bcall HB5.out hb6)
  have HC6 := Lib.hid (HC5.out.below hb6)
  have HR6 := Lib.hid hI3
  clear RB hb6 hI3 HC5
  go_wp2_with fail
  refine (E1.out w6 HB6.out).mono ?_; rintro e w7 ⟨rfl, hb7⟩
  have HB7 := Lib.hid (bcall HB6.out hb7)
  have SM3 := Lib.hid (ints_any r3 _ cr3 _ 0 0 LC LC w7 HLC.out HLC.out (HR6.out.below hb7) (HC6.out.below hb7) true (by simp))
  clear hb7 HC6 HR6
  go_wp2_with fail
  refine SM3.out.mono ?_; rintro e w8 ⟨rfl, hb8⟩
  have HB8 := Lib.hid (bcall HB7.out hb8)
  go_wp2_with fail
  go_ret
  exact ⟨by first | rfl | simp, HB8.out⟩
theorem law_good (p : Option Addr) (n cap : Nat) (ls : List (List Int)) (w : World) (hH : Handle w) (hn : n = ls.length) (hi : RowsI w p cap ls) (hc : code ls = 0) : Law p n cap w := by
  have D1 := Lib.hid (rqueues_any p cap n ls w hn hi 0 hc)
  have E1 := Lib.hid (fun W (hb : Below w.heap.size w W) => err_same 0 W (hH.below hb))
  have hg := code_zero.1 hc
  obtain ⟨m, hm⟩ := Srt.some hg
  obtain ⟨k, hk⟩ : ∃ k, m.length = k := ⟨_, rfl⟩
  have RU := Lib.hid (fun W (hW : Below w.heap.size w W) => run_any p cap n ls W hn (hi.below hW) 0 hc m (fun _ => hm) (fun h => absurd rfl h) k hk)
  have RB := Lib.hid (fun W (hW : Below w.heap.size w W) => bits_any p cap n ls W hn (hi.below hW) 0 hc m (fun _ => hm) (fun h => absurd rfl h) k hk)
  have RD := Lib.hid (rrounds_good p cap n ls w hn hi hg m hm k hk)
  have AT := Lib.hid (fun q c1 z l W hz hI hf c hc => all_tot q c1 z l W hz hI hf c hc)
  have HI := Lib.hid (rows_all hi)
  have HN := Lib.hid hn
  have HG := Lib.hid hg
  have HM := Lib.hid hm
  have HF := Lib.hid (hm.few hg)
  have HK := Lib.hid hk
  have hn5 : n ≤ 5 := by rw [hn]; exact hg.1
  have hk40 : k ≤ 40 := by rw [← hk]; exact (hm.few hg).len
  have HLA := Lib.hid (show k = (nums m).length by rw [nums_len, hk])
  have HLB := Lib.hid (show k = (ends (sizes m)).length by rw [ends_len]; unfold sizes; rw [List.length_map, hk])
  have HLC := Lib.hid (show k = (Rounds.bits ls 5 m).length by rw [bits_len, hk])
  clear hn hi hc hH hm hg hk
  generalize er 0 = V at E1 RU RB
  unfold Law
  go_enter Tryd.func3, Tryd.ntmps3
  go_wp2_with fail
  refine D1.out.mono ?_; rintro e w1 ⟨rfl, hw1⟩
  have hw1 := hw1.symm
  subst hw1
  clear D1
  go_wp2_with fail
  refine RD.out.mono ?_; rintro e w1 ⟨ro, co, rr, crr, rfl, hio, hir, hb1⟩
  have HB1 := Lib.hid hb1
  have HO := Lib.hid hio
  have HR := Lib.hid hir
  obtain ⟨w2, hmk, hou, hg2⟩ := made_ints w1 n (by omega)
  obtain ⟨G, hG⟩ : ∃ g, w1.heap.size = g := ⟨_, rfl⟩
  obtain ⟨B, hB⟩ : ∃ g, w2.heap.size = g := ⟨_, rfl⟩
  have hlt := (hou.lt _ rfl).2
  rw [hG] at hmk hou
  have HT0 := Lib.hid (show Tri w1 w2 G B n (atL n ((nums m).take 0)) (.slice none 0 0) (.slice none 0 0) (ends ((sizes m).take 0)) ((Rounds.bits ls 5 m).take 0) by
    refine ⟨by rw [List.take_zero, atL_zero]; exact hou, by rw [List.take_zero]; exact OwnI.nil _ _, by rw [List.take_zero]; exact OwnI.nil _ _, Apt.nil _, Nat.le_of_eq hG, by rw [← hG, ← hB]; exact hlt, Nat.le_of_eq hB.symm, ?_⟩
    exact ⟨hg2.os, hg2.tape, hg2.output, hg2.size, fun k hk => hg2.block k hk (by simp)⟩)
  clear RD hb1 hio hir hou hg2 hlt hG hB
  go_wp2_with fail
  clear hmk
  go_loopw [5, 6, 10, 11] (fun ev bv nv iv wr => ∃ (j : Nat) (t : Int) (u v : Value), j ≤ k ∧ iv = .int .i64 j ∧ nv = .int .i64 t ∧ 0 ≤ t ∧ t ≤ 20 * j ∧ u = ev ∧ v = bv ∧ Hid (t = tot ((sizes m).take j)) ∧ Hid (Tri w1 wr G B n (atL n ((nums m).take j)) u v (ends ((sizes m).take j)) ((Rounds.bits ls 5 m).take j))) (fun _ _ _ i _ => k - (intOf i).toNat)
  case atStart => exact ⟨0, 0, _, _, Nat.zero_le _, rfl, rfl, by omega, by omega, rfl, rfl, Lib.hid (by simp [tot]), HT0⟩
  case round =>
    clear HT0
    obtain ⟨j, t, u, v, hj, rfl, rfl, t0, t1, rfl, rfl, HT, HS⟩ := hrel
    by_cases hjk : j < k
    · have u1 : decide ((j : Int) < (k : Int)) = true := decide_eq_true (by omega)
      obtain ⟨x, hx⟩ : ∃ x, m[j]? = some x := ⟨_, List.getElem?_eq_getElem (by rw [HK.out]; exact hjk)⟩
      obtain ⟨z, hzl, hxz⟩ := HM.out.num x (List.mem_of_getElem? hx)
      obtain ⟨a1, a2, a3⟩ := HM.out.at HG.out hx hxz
      have hzn : z < n := by rw [HN.out]; exact hzl
      obtain ⟨xs1, xs2⟩ := HF.out.size x (List.mem_of_getElem? hx)
      obtain ⟨xr1, xr2⟩ := HF.out.rnd x (List.mem_of_getElem? hx)
      have HES := Lib.hid (ends_step hx)
      have HTS := Lib.hid (sizes_step hx)
      rw [← HT.out] at HES HTS
      have HBS := Lib.hid (bits_step ls hx)
      rw [bit_five (by omega) 5 HG.out.1] at HBS
      have HNS := Lib.hid (show (nums m).take (j + 1) = (nums m).take j ++ [(z : Int)] by rw [nums_step hx, hxz])
      have HOW := Lib.hid (HO.out.below HS.out.bel)
      have HRW := Lib.hid (HR.out.below HS.out.bel)
      obtain ⟨ob, oo, rfl⟩ := some_ints HOW.out (by rw [nums_len, HK.out]; omega)
      obtain ⟨rb, ro2, rfl⟩ := some_ints HRW.out (by rw [rnds_len, HK.out]; omega)
      have c0 := cell_ints HOW.out j (by rw [nums_len, HK.out]; exact hjk)
      rw [nums_get hx, hxz] at c0
      obtain ⟨b, off, rfl, hrow⟩ := HI.out (by omega)
      have HROW := Lib.hid hrow
      have HBW := Lib.hid (bcall HB1.out HS.out.bel)
      obtain ⟨qz, cz, hiz, hcz⟩ := hrow z hzl
      have c1 := hcz wr HBW.out
      have c2 := own_cell HS.out.o1 z (by rw [atL_len]; exact hzn)
      rw [atL_get _ hzn] at c2
      have hzw := hiz.below HBW.out
      obtain ⟨qb, qo, rfl⟩ := some_ints hzw (by omega)
      have c3 := cell_ints hzw (((nums m).take j).count (z : Int)) a1
      rw [← a2] at c3
      have hl1 : ((nums m).take j).length ≤ 40 := by rw [List.length_take]; omega
      have hl2 : (ends ((sizes m).take j)).length ≤ 40 := by rw [ends_len, List.length_take]; omega
      have hl3 : ((Rounds.bits ls 5 m).take j).length ≤ 40 := by rw [List.length_take]; omega
      have hcle : ((nums m).take j).count (z : Int) ≤ 40 := Nat.le_trans List.count_le_length hl1
      have HASET := Lib.hid (atL_set ((nums m).take j) hzn)
      have hfl := (HG.out.row z).1
      have HRC := Lib.hid (fun W (hW : Below w1.heap.size w1 W) => show W.cell? ⟨rb, ro2 + j, none⟩ = some (.int .i64 x.rnd) by
        have := cell_ints (HR.out.below hW) j (by rw [rnds_len, HK.out]; exact hjk)
        rwa [rnds_get hx] at this)
      clear hx hxz hiz hcz hzw hrow a2 a3 HOW HRW
      generalize (nums m).take j = O at HS HASET HNS c2 c3 a1 hcle hl1
      generalize ends ((sizes m).take j) = E at HS HES hl2
      generalize (Rounds.bits ls 5 m).take j = Q at HS HBS hl3
      generalize (row ls z).length = mz at c1 a1 hfl
      generalize x.size = xs at c3 xs1 xs2 HES HTS
      generalize x.rnd = xr at xr1 xr2 HBS HRC
      obtain ⟨a, ha⟩ : ∃ a, O.count (z : Int) = a := ⟨_, rfl⟩
      rw [ha] at c2 c3 a1 hcle HASET
      clear ha
      have w1' := wrap_in (n := t + xs) (by omega)
      go_wp2_with fail
      go_quiet (fail)
      have HS1 := Lib.hid (HS.out.drewN nq)
      have d0 : (wr.drewN nq).cell? ⟨ob, oo + j, none⟩ = some (.int .i64 (z : Int)) := c0
      have d2 : (wr.drewN nq).cell? ⟨G, z, none⟩ = some (.int .i64 (a : Int)) := c2
      have f2 := own_fz HS1.out.o1 z
      clear HS c0 c1 c2 c3 HBW w1'
      generalize wr.drewN nq = w3 at HS1 d0 d2 f2 ⊢
      go_wp2_with fail
      go_region
      have HS2 : Hid (Tri w1 (w3.setCell ⟨G, z, none⟩ (.int .i64 ((a : Int) + 1))).drew G B n (atL n (O ++ [(z : Int)])) u v E Q) := Lib.hid (by
        have h := (HS1.out.set z ((a : Int) + 1) (wf_in (by omega))).drew
        rwa [HASET.out] at h)
      clear HS1 d0 d2 f2 HASET
      generalize (w3.setCell ⟨G, z, none⟩ (.int .i64 ((a : Int) + 1))).drew = w4 at HS2 ⊢
      have HS3 := Lib.hid (HS2.out.alloc (.cells #[.int .i64 (t + xs)] 3))
      go_wp2_with (first
        | (at_builtin
           refine wp_app rfl (.tmp 71) (.tmp 73) rfl B u E (some ⟨w4.heap.size, 0, none⟩) 1 1 [t + xs] rfl HS3.out.p1 rfl rfl (Ints.one w4 (t + xs) (wf_in (by omega))) (by simp; omega) HS3.out.siz ?_
           intro u2 w5 ho2 hg2 hat2
           have HS4 := Lib.hid (HS3.out.app1 ho2 hg2 hat2)
           clear ho2 hg2 hat2))
      have hcr := HRC.out w5 HS4.out.bel
      have HBW := Lib.hid (bcall HB1.out HS4.out.bel)
      clear HS2 HS3
      go_loopw [12, 13] (fun sv kv wr => ∃ (κ : Nat) (s : Int), κ ≤ n ∧ kv = .int .i64 κ ∧ sv = .int .i64 s ∧ 0 ≤ s ∧ s ≤ 160 * κ ∧ Hid (wr = w5) ∧ Hid (s = bit ls xr κ)) (fun _ i _ => n - (intOf i).toNat)
      case atStart => exact ⟨0, 0, Nat.zero_le _, rfl, rfl, by omega, by omega, Lib.hid rfl, Lib.hid rfl⟩
      case round =>
        obtain ⟨κ, s, hκ, rfl, rfl, s0, s1, HW, HB⟩ := hrel
        have hcr : wr.cell? ⟨rb, ro2 + j, none⟩ = some (.int .i64 xr) := by rw [HW.out]; exact HRC.out w5 HS4.out.bel
        by_cases hκn : κ < n
        · have v1 : decide ((κ : Int) < (n : Int)) = true := decide_eq_true (by omega)
          have hκl : κ < ls.length := by rw [← HN.out]; exact hκn
          obtain ⟨qk, ck, hik, hck⟩ := HROW.out κ hκl
          have hc := hck wr (by rw [HW.out]; exact HBW.out)
          obtain ⟨c, hcc⟩ : ∃ c, tot (row ls κ) = c := ⟨_, rfl⟩
          have T := Lib.hid (AT.out qk ck _ (row ls κ) wr rfl (hik.below (by rw [HW.out]; exact HBW.out)) (HG.out.row κ) c hcc)
          have hci := tots_in HG.out κ
          have hbi := bit_in HG.out (r := xr) (by omega) (κ + 1)
          obtain ⟨s', hs'⟩ : ∃ s', bit ls xr (κ + 1) = s' := ⟨_, rfl⟩
          have hs2 : s + min xr c = s' := by rw [HB.out, ← hs', ← hcc]; rfl
          have HB2 := Lib.hid (show s' = bit ls xr (κ + 1) from hs'.symm)
          rw [hcc] at hci
          rw [hs'] at hbi
          obtain ⟨ci1, ci2⟩ := hci
          obtain ⟨bi1, bi2⟩ := hbi
          generalize (row ls κ).length = mk at hc T
          clear hcc hs' hik hck hκl
          by_cases hcx : c < xr
          · have v2 : decide (c < xr) = true := decide_eq_true hcx
            have v3 : s + c = s' := by omega
            clear hs2
            go_wp2_with fail
            refine T.out.mono ?_; rintro e w6 ⟨rfl, rfl⟩
            go_wp2_with fail
            go_roundw
            case rel => exact ⟨κ + 1, s', by omega, by first | rfl | go_num, by first | rfl | go_num | (congr 1), bi1, by omega, HW, HB2⟩
            case measure => simp [intOf]; omega
          · have v2 : decide (c < xr) = false := decide_eq_false hcx
            have v3 : s + xr = s' := by omega
            clear hs2
            go_wp2_with fail
            refine T.out.mono ?_; rintro e w6 ⟨rfl, rfl⟩
            go_wp2_with fail
            go_roundw
            case rel => exact ⟨κ + 1, s', by omega, by first | rfl | go_num, by first | rfl | go_num | (congr 1), bi1, by omega, HW, HB2⟩
            case measure => simp [intOf]; omega
        · obtain rfl : κ = n := by omega
          have v1 : decide ((κ : Int) < (κ : Int)) = false := decide_eq_false (by omega)
          have hbe : s = bit ls xr ls.length := by rw [HB.out, ← HN.out]
          rw [← hbe] at HBS
          have HS5 := Lib.hid (show Tri w1 wr G B κ (atL κ (O ++ [(z : Int)])) u2 v (E ++ [t + xs]) Q by rw [HW.out]; exact HS4.out)
          have HS6 := Lib.hid (HS5.out.alloc (.cells #[.int .i64 s] 3))
          clear hbe HB HS4
          go_wp2_with (first
            | (at_builtin
               refine wp_app rfl (.tmp 101) (.tmp 103) rfl B v Q (some ⟨wr.heap.size, 0, none⟩) 1 1 [s] rfl HS6.out.p2 rfl rfl (Ints.one wr s (wf_in (by omega))) (by simp; omega) HS6.out.siz ?_
               intro v2' w7 ho3 hg3 hat3
               have HS7 := Lib.hid (HS6.out.app2 ho3 hg3 hat3)
               clear ho3 hg3 hat3))
          go_roundw
          case rel => exact ⟨j + 1, t + xs, u2, v2', by omega, by first | rfl | go_num, by first | rfl | go_num, by omega, by omega, rfl, rfl, Lib.hid HTS.out.symm, Lib.hid (by rw [HNS.out, HES.out, HBS.out]; exact HS7.out)⟩
          case measure => simp [intOf]; omega
    · obtain rfl : j = k := by omega
      have u1 : decide ((j : Int) < (j : Int)) = false := decide_eq_false (by omega)
      have hj2 : (sizes m).take j = sizes m := by rw [← HK.out, List.take_of_length_le]; unfold sizes; rw [List.length_map]; exact Nat.le_refl _
      have hj3 : (Rounds.bits ls 5 m).take j = Rounds.bits ls 5 m := by rw [← HK.out, List.take_of_length_le]; rw [bits_len]; exact Nat.le_refl _
      rw [hj2, hj3] at HS
      obtain ⟨p1, q1, e1, i1⟩ := HS.out.p1.form
      obtain ⟨p2, q2, e2, i2⟩ := HS.out.p2.form
      rw [← HLB.out] at e1
      rw [← HLC.out] at e2
      subst e1 e2
      have OB := Lib.hid i1
      have OC := Lib.hid i2
      have OA := Lib.hid (HO.out.below HS.out.bel)
      have HBX := Lib.hid (bcall HB1.out HS.out.bel)
      clear i1 i2 hj2 hj3 HS HT HO HR HI AT
      go_wp2_with fail
      refine (RU.out wr HBX.out).mono ?_; rintro e w2 ⟨⟨r, cr, r2, cr2, rfl, hI, hI2⟩, hb2⟩
      have HB2 := Lib.hid (bcall HBX.out hb2)
      have HR1 := Lib.hid hI
      have HR2 := Lib.hid hI2
      have HA2 := Lib.hid (OA.out.below hb2)
      have HE2 := Lib.hid (OB.out.below hb2)
      have HC2 := Lib.hid (OC.out.below hb2)
      clear RU hb2 hI hI2 OA OB OC
      go_wp2_with fail
      refine (E1.out w2 HB2.out).mono ?_; rintro e w3 ⟨rfl, hb3⟩
      have HB3 := Lib.hid (bcall HB2.out hb3)
      have HE3 := Lib.hid (HE2.out.below hb3)
      have HC3 := Lib.hid (HC2.out.below hb3)
      have HR3 := Lib.hid (HR2.out.below hb3)
      have SM := Lib.hid (ints_any r _ cr _ j j (nums m) (nums m) w3 HLA.out HLA.out (HR1.out.below hb3) (HA2.out.below hb3) true (by simp))
      clear hb3 HR1 HA2 HR2 HE2 HC2
      go_wp2_with fail
      refine SM.out.mono ?_; rintro e w4 ⟨rfl, hb4⟩
      have HB4 := Lib.hid (bcall HB3.out hb4)
      have HC4 := Lib.hid (HC3.out.below hb4)
      have SM2 := Lib.hid (ints_any r2 _ cr2 _ j j (ends (sizes m)) (ends (sizes m)) w4 HLB.out HLB.out (HR3.out.below hb4) (HE3.out.below hb4) true (by simp))
      clear SM hb4 HR3 HE3 HC3
      go_wp2_with fail
      refine SM2.out.mono ?_; rintro e w5 ⟨rfl, hb5⟩
      have HB5 := Lib.hid (bcall HB4.out hb5)
      have HC5 := Lib.hid (HC4.out.below hb5)
      clear SM2 hb5 HC4
      go_wp2_with fail
      refine (RB.out w5 HB5.out).mono ?_; rintro e w6 ⟨⟨r3, cr3, rfl, hI3⟩, hb6⟩
      have HB6 := Lib.hid (bcall HB5.out hb6)
      have HC6 := Lib.hid (HC5.out.below hb6)
      have HR6 := Lib.hid hI3
      clear RB hb6 hI3 HC5
      go_wp2_with fail
      refine (E1.out w6 HB6.out).mono ?_; rintro e w7 ⟨rfl, hb7⟩
      have HB7 := Lib.hid (bcall HB6.out hb7)
      have SM3 := Lib.hid (ints_any r3 _ cr3 _ j j (Rounds.bits ls 5 m) (Rounds.bits ls 5 m) w7 HLC.out HLC.out (HR6.out.below hb7) (HC6.out.below hb7) true (by simp))
      clear hb7 HC6 HR6
      go_wp2_with fail
      refine SM3.out.mono ?_; rintro e w8 ⟨rfl, hb8⟩
      have HB8 := Lib.hid (bcall HB7.out hb8)
      go_wp2_with fail
      go_ret
      exact ⟨by first | rfl | simp, HB8.out⟩

theorem reads : Tryd.f3.params.toList.all (fun t => Tryd.prog.readableRec t && decide (t < Tryd.prog.types.size)) = true := by kernel_rfl
theorem et : Tryd.prog.globalNamed "errors.errorType" = some 0 := by kernel_rfl
theorem rt : (Tryd.prog.cutTypes.find? (·.1 == "internal/reflectlite.rtype")).map (·.2) = some 88 := by kernel_rfl
theorem oneRow : ((List.range Tryd.prog.types.size).filter fun t => Tryd.prog.rowNamed t [101, 114, 114, 111, 114]) = [29] := by kernel_rfl

theorem handle_of_laid {W : World} (h : laidMetH Tryd.prog Rows.roundsSayRow.laid W) : Handle W := by
  have h' : laidMet Tryd.prog [] W ∧ handlesMet Tryd.prog Rows.roundsSayRow.laid W := h
  obtain ⟨name, u, ty, e1, e2, e3, e4, e5⟩ := h'.2 _ (List.mem_singleton.2 rfl)
  have en : name = [101, 114, 114, 111, 114] := (Option.some.inj e1).symm
  subst en
  obtain rfl := Option.some.inj (rt.symm.trans e2)
  have hm : ty ∈ (List.range Tryd.prog.types.size).filter fun t => Tryd.prog.rowNamed t [101, 114, 114, 111, 114] := List.mem_filter.2 ⟨List.mem_range.2 e3, e4⟩
  rw [oneRow] at hm
  obtain rfl := List.mem_singleton.1 hm
  have hh : typeHandle Tryd.prog 29 = .pointer (some ⟨1, 29, none⟩) := by kernel_rfl
  rw [hh] at e5
  have e6 := World.var?_cell et e5 0
  unfold Handle
  simpa using e6

noncomputable def laidWorld (os : Os) : World :=
  { World.holding Tryd.prog os ⟨#[], #[], []⟩ with heap := (World.holding Tryd.prog os ⟨#[], #[], []⟩).heap.modify 0 fun
      | .cells _ t frozen => .cells #[.iface 88 (.agg #[.pointer (some ⟨1, 29, none⟩)])] t frozen
      | o => o }
theorem laid_met (os : Os) : laidMetH Tryd.prog Rows.roundsSayRow.laid ((laidWorld os).forCall (fun _ _ => 0) ⟨#[], #[.slice none 0 0], []⟩).memory :=
  laidMetH_of_parts (laidMet_nil _ _) (by kernel_rfl)
theorem reads_wit (os : Os) {H : Type} (enc : TypeId × Value → H) : ∃ places, DataW.whole enc Tryd.prog ((laidWorld os).forCall (fun _ _ => 0) ⟨#[], #[.slice none 0 0], []⟩).memory Tryd.f3.params.toList Rows.roundsSaySpec.vars false (#[.slice none 0 0] : Array Value).toList 8 = some ([.nil], [], places) :=
  ⟨[], by kernel_rfl⟩

theorem contract (H : Type) (enc : TypeId × Value → H) (W : World) (base : Nat) (args : Array Value) (ds gs : List (DataW H)) (before : List MemPlace)
    (hval : ∀ (j : Nat) t v, Tryd.f3.params[j]? = some t → args[j]? = some v → Value.okWide Tryd.prog W .any base t v)
    (hW : DataW.Whole enc Tryd.prog Tryd.f3.params.toList Rows.roundsSaySpec.vars false W args.toList ds gs before) (hL : laidMetH Tryd.prog Rows.roundsSayRow.laid W) :
    Calls Tryd.prog 3 args W fun e W' => ∃ v, e = .returned v ∧ Rows.roundsSaySpec.post enc Tryd.prog Tryd.f3 false true false false W args v W' := by
  have hW' := hW
  have hg := handle_of_laid hL
  obtain ⟨p, q, hA0, hV, rfl, hfz, hnd⟩ := hW
  have hA : DataW.TrodAll enc Tryd.prog W 0 (fun _ => true) true Tryd.f3.params.toList args.toList ds p := hA0
  have hlt := hA.lt
  rw [Tryd.params3] at hA hval
  obtain ⟨v0, vs0, d0, ds0, p0, q0, hargs, rfl, rfl, h0, r0⟩ := trodAll_cons hA
  obtain ⟨hvsn, rfl, rfl⟩ := trodAll_nil r0
  simp only [hvsn] at hargs
  obtain rfl : args = #[v0] := by cases args; simp_all
  obtain ⟨p0a, cap0, l0, rfl, i0, e0⟩ := open_rows Tryd.underlying22 Tryd.underlying24 Tryd.underlying3 (by kernel_rfl) (by kernel_rfl) (hval 0 22 v0 rfl rfl) h0 (fun x hx => hlt x (by simp [hx]))
  obtain ⟨rfl, rfl⟩ := trodVars_none hV
  clear hA0
  exact law_post 4 laid reads rfl Tryd.underlying4 rfl hW' ⟨rfl, rfl, rfl⟩ (by
    by_cases h : code l0 = 0
    · exact law_good _ _ _ l0 W hg rfl i0 h
    · exact law_bad _ _ _ l0 W hg rfl i0 _ rfl h)

set_option maxRecDepth 100000 in
theorem lifted (os : Os) (started : os.Started) (H : Type) (enc : TypeId × Value → H) (F : Stop.Interp) :
    ReturnsInHanded {} Tryd.checked os 3 .any ((OpenSpec.ofChange Rows.roundsSaySpec).preRow enc Tryd.prog Tryd.f3 Rows.roundsSayRow.domain false Rows.roundsSayRow.laid) (((OpenSpec.ofChange Rows.roundsSaySpec).at F).post enc Tryd.prog Tryd.f3 false true false false) := by
  obtain ⟨places, hx⟩ := reads_wit os enc
  refine returnsInHanded_of_row (C := Tryd.checked) (s := (OpenSpec.ofChange Rows.roundsSaySpec)) own started (by kernel_rfl) Tryd.func3
    (witness_row_at (enc := enc) (C := Tryd.checked) false (laidWorld os) #[.slice none 0 0] rfl (by kernel_rfl) (by kernel_rfl) (by kernel_rfl)
      (OpenSpec.preRow_of_cond 8 hx (by kernel_rfl) (fun k hk => by cases hk) (by kernel_rfl) (laid_met os))) ?_
  intro W base args ds gs before hval hW _ hcond _ hL _ _
  exact contract H enc W base args ds gs before hval hW hL

theorem said : Rows.RoundsSaySaid :=
  OpenClaim.holds_of_cond 3 Tryd.f3 rfl rfl rfl rfl rfl rfl rfl ⟨rfl, rfl, rfl, rfl, rfl⟩ rfl rfl rfl rfl rfl (by kernel_rfl) Tryd.func3 (by kernel_rfl)
    (of_decide_eq_true (by kernel_rfl)) (by unfold Func.isWrapper; first | (rw [if_pos (by decide +kernel)]; kernel_rfl) | (rw [if_neg (by decide +kernel)]; exact ⟨rfl, rfl⟩))
    (fun os started H enc _ F => by rw [OpenClaim.pre_eq_preRow]; exact lifted os started H enc F)

theorem plain (f : FuncId) (fn : Func) (hf : Tryd.pinned.checked.prog.funcNamed Rows.roundsSayRow.func = some f) (hfn : Tryd.pinned.checked.prog.funcs[f]? = some fn) :
    true = Tryd.pinned.checked.prog.looks [] ∧ ∀ (j : Nat) t, fn.params[j]? = some t → Tryd.pinned.checked.prog.wantsStandIn t = false := by
  obtain rfl : f = 3 := Option.some.inj ((show Tryd.prog.funcNamed Rows.roundsSayRow.func = some 3 by kernel_rfl).symm.trans hf) |>.symm
  obtain rfl : fn = Tryd.f3 := (Option.some.inj (Tryd.func3.symm.trans hfn)).symm
  refine ⟨by kernel_rfl, fun j t ht => ?_⟩
  have hall : Tryd.f3.params.toList.all (fun t => !Tryd.prog.wantsStandIn t) = true := by kernel_rfl
  have hm : t ∈ Tryd.f3.params.toList := by simpa using Array.mem_of_getElem? ht
  have := List.all_eq_true.1 hall t hm
  show Tryd.prog.wantsStandIn t = false
  simpa using this

theorem proved : Rows.RoundsSayCardSaid :=
  Claim7.holds_tied_plain_at .later [] _ _ _ _ said (fun _ h => by cases h) (by kernel_rfl) (fun _ h => by cases h) roundsSay_row_tie rfl ⟨rfl, rfl⟩ (by kernel_rfl) rfl plain (by kernel_rfl)
end Go.Proofs.YtmjkjkiogkmmpaaDoor.RoundsSayL
