/- Reverse path forwarding, the document's answer: Flood. No statement is proved here. -/
import Derived.Test.YtedhippamfioeaaDoorRpfFly
import Derived.Test.YtedhippamfioeaaDoorSpfRef
import Derived.Test.YtedhippamfioeaaDoorBehind
import Derived.Test.YtedhippamfioeaaDoorOwnI
import Derived.Test.YtedhippamfioeaaDoorQueue
import Derived.Test.YtedhippamfioeaaDoorKeep
import Derived.BigQuiet
import Derived.Deep.LoopGhost
namespace Go.Proofs.YtedhippamfioeaaDoor.Rpf
open Go.ChangeShapes Go.WideShapes Go.ChangeAt Go.RowKit Go.Proofs.YtedhippamfioeaaDoor.Kit Go.Proofs.YtedhippamfioeaaDoor.App Go.Proofs.YtedhippamfioeaaDoor.Cells Go.Proofs.YtedhippamfioeaaDoor.Err Go.Proofs.YtedhippamfioeaaDoor.Vector Go.Proofs.YtedhippamfioeaaDoor.Spf Go.Proofs.YtedhippamfioeaaDoor.Queue
set_option linter.unusedVariables false
set_option maxRecDepth 20000
set_option maxHeartbeats 4000000

/-- Memory while the document floods: the counts in block B, two queues elsewhere. -/
structure FQ (w0 w : World) (n : Nat) (va vb : Value) (C A H : List Int) : Prop where
  c : OwnI w w0.heap.size (.slice (some ⟨w0.heap.size, 0, none⟩) n n) C
  a : OwnQ w 0 va A
  b : OwnQ w 0 vb H
  na : ∀ k, va.ownBlock = some k → w0.heap.size < k
  nb : ∀ k, vb.ownBlock = some k → w0.heap.size < k
  bel : Below w0.heap.size w0 w
variable {w0 w w' : World} {n : Nat} {va vb v' : Value} {C A H L : List Int}
theorem FQ.lt (h : FQ w0 w n va vb C A H) : w0.heap.size < w.heap.size := (h.c.lt _ rfl).2
theorem FQ.below (h : FQ w0 w n va vb C A H) (hb : Below w.heap.size w w') : FQ w0 w' n va vb C A H :=
  ⟨h.c.below hb, h.a.below hb, h.b.below hb, h.na, h.nb, bcall h.bel hb⟩
theorem FQ.set (h : FQ w0 w n va vb C A H) (j : Nat) (x : Int) (hx : (Lit.int .i64 x).wf = true) : FQ w0 (w.setCell ⟨w0.heap.size, j, none⟩ (.int .i64 x)) n va vb (C.set j x) A H := by
  have hg := set_grown w w0.heap.size j (.int .i64 x)
  have hne : ∀ {v : Value}, (∀ k, v.ownBlock = some k → w0.heap.size < k) → v.ownBlock = none ∨ v.ownBlock ≠ some w0.heap.size := fun {v} h => by
    cases hv : v.ownBlock with
    | none => exact .inl rfl
    | some k => exact .inr (fun e => by injection e with e; have := h k hv; omega)
  exact ⟨own_set h.c j x hx, h.a.more hg (hne h.na), h.b.more hg (hne h.nb), h.na, h.nb, h.bel.grown hg h.bel.size (fun k hk => by injection hk with hk; omega)⟩
theorem FQ.turnA (h : FQ w0 w n va vb C A H) (ha : OwnQ w 0 v' L) (hk : ∀ k, v'.ownBlock = some k → w0.heap.size < k) : FQ w0 w n v' vb C L H := ⟨h.c, ha, h.b, hk, h.nb, h.bel⟩
theorem FQ.turnB (h : FQ w0 w n va vb C A H) (ha : OwnQ w 0 v' L) (hk : ∀ k, v'.ownBlock = some k → w0.heap.size < k) : FQ w0 w n va v' C A L := ⟨h.c, h.a, ha, h.na, hk, h.bel⟩
theorem own_q {base : Nat} (h : OwnI w base v' L) : OwnQ w 0 v' L := (OwnQ.of_own h).mono (Nat.zero_le _)
/-- A slice of numbers, as the walk wants it. -/
theorem q_form (h : OwnQ w 0 v' L) : ∃ p c, v' = .slice p L.length c ∧ Ints w p c L := h.form

/-- Who of those below k goes over p. -/
noncomputable def kidsTo (ls : List Lk) (s : Nat) (p : Nat) (k : Nat) : List Nat := (List.range k).filter fun v => decide (v ≠ s ∧ hop ls v s = (p : Int))
theorem kidsTo_yes {ls : List Lk} {s p k : Nat} (h : k ≠ s ∧ hop ls k s = (p : Int)) : kidsTo ls s p (k + 1) = kidsTo ls s p k ++ [k] := by
  unfold kidsTo
  rw [List.range_succ, List.filter_append]
  simp [h]
theorem kidsTo_no {ls : List Lk} {s p k : Nat} (h : ¬ (k ≠ s ∧ hop ls k s = (p : Int))) : kidsTo ls s p (k + 1) = kidsTo ls s p k := by
  unfold kidsTo
  rw [List.range_succ, List.filter_append, List.filter_cons, if_neg (by rw [decide_eq_true_eq]; exact h), List.filter_nil, List.append_nil]
/-- The counts while p sends: those below k have their copy. -/
noncomputable def hadTo (ls : List Lk) (s : Nat) (P : List Nat) (p k v : Nat) : Nat := had ls s P v + if v < k ∧ gives ls s p v then 1 else 0
theorem hadTo_zero (ls : List Lk) (s : Nat) (P : List Nat) (p : Nat) : hadTo ls s P p 0 = had ls s P := by
  funext v
  unfold hadTo
  rw [if_neg (fun h => Nat.not_lt_zero _ h.1)]
  rfl
theorem hadTo_no {ls : List Lk} {s : Nat} {P : List Nat} {p k : Nat} (h : ¬ gives ls s p k) : hadTo ls s P p (k + 1) = hadTo ls s P p k := by
  funext v
  unfold hadTo
  congr 1
  by_cases h1 : v < k ∧ gives ls s p v
  · rw [if_pos h1, if_pos ⟨by omega, h1.2⟩]
  · rw [if_neg h1, if_neg]
    rintro ⟨h2, h3⟩
    by_cases e : v = k
    · subst e; exact h h3
    · exact h1 ⟨by omega, h3⟩
theorem hadTo_at {ls : List Lk} {s : Nat} {P : List Nat} {p k : Nat} (h : gives ls s p k) : hadTo ls s P p (k + 1) k = hadTo ls s P p k k + 1 := by
  unfold hadTo
  rw [if_pos ⟨by omega, h⟩, if_neg (fun h => Nat.lt_irrefl _ h.1)]
theorem hadTo_off {ls : List Lk} {s : Nat} {P : List Nat} {p k v : Nat} (h : v ≠ k) : hadTo ls s P p (k + 1) v = hadTo ls s P p k v := by
  unfold hadTo
  congr 1
  by_cases h1 : v < k ∧ gives ls s p v
  · rw [if_pos h1, if_pos ⟨by omega, h1.2⟩]
  · rw [if_neg h1, if_neg (fun h2 => h1 ⟨by omega, h2.2⟩)]
theorem hadTo_end {ls : List Lk} {s : Nat} {P : List Nat} {p n v : Nat} (h : v < n) : hadTo ls s P p n v = had ls s (P ++ [p]) v := by
  unfold hadTo
  rw [had_app]
  congr 1
  by_cases h1 : gives ls s p v
  · rw [if_pos ⟨h, h1⟩, if_pos h1]
  · rw [if_neg (fun h2 => h1 h2.2), if_neg h1]
/-- How many p has sent to those below k. -/
noncomputable def outTo (ls : List Lk) (s p k : Nat) : Nat := sm (fun v => if gives ls s p v then 1 else 0) k
theorem outTo_yes {ls : List Lk} {s p k : Nat} (h : gives ls s p k) : outTo ls s p (k + 1) = outTo ls s p k + 1 := by unfold outTo; rw [sm, if_pos h]
theorem outTo_no {ls : List Lk} {s p k : Nat} (h : ¬ gives ls s p k) : outTo ls s p (k + 1) = outTo ls s p k := by unfold outTo; rw [sm, if_neg h]; rfl
theorem outTo_le (ls : List Lk) (s p k : Nat) : outTo ls s p k ≤ k := by
  unfold outTo
  induction k with
  | zero => exact Nat.le_refl _
  | succ k ih => rw [sm]; split <;> omega
theorem had_le_r (ls : List Lk) (s : Nat) (P : List Nat) (v : Nat) : had ls s P v ≤ P.length := by
  unfold had
  induction P with
  | nil => exact Nat.le_refl _
  | cons p P ih => rw [List.map_cons, List.sum_cons, List.length_cons]; split <;> omega
theorem many_le (n : Nat) (ls : List Lk) (s : Nat) (P : List Nat) : many n ls s P ≤ n * P.length := by
  unfold many
  have h : ∀ k, sm (had ls s P) k ≤ k * P.length := fun k => by
    induction k with
    | zero => rw [Nat.zero_mul]; exact Nat.le_refl _
    | succ k ih => rw [sm, Nat.succ_mul]; have := had_le_r ls s P k; omega
  exact h n

theorem rflood_any (n s : Nat) (p : Option Addr) (cap m : Nat) (ls : List Lk) (w : World) (g : Vector.Good n ls) (hm : m = ls.length) (hi : CI layL w p cap ls) (hs : s < n) :
    Calls Tryd.prog 6 #[.int .i64 (n : Int), .slice p m cap, .int .i64 (s : Int)] w fun e w' => ∃ q c, e = .returned (.tuple #[.slice q n c, .int .i64 ((sent n ls s : Nat) : Int)]) ∧ OwnI w' w.heap.size (.slice q n c) (cps n (copies n ls s)) ∧ Below w.heap.size w w' := by
  have hn8 := g.up
  have RC := Lib.hid (fun W (hW : Below w.heap.size w W) (a b : Nat) => rcost_any p cap m ls (a : Int) (b : Int) W hm (hi.below hW))
  have RH := Lib.hid (fun W (hW : Below w.heap.size w W) (v : Nat) (hv : v < n) => rhop_any n v s p cap m ls W g hm (hi.below hW) hv hs)
  have HG := Lib.hid g
  have HSN := Lib.hid hs
  obtain ⟨w1, hmk, hou, hg1⟩ := made_ints w n (by omega)
  have hb1 : Below w.heap.size w w1 := ⟨hg1.os, hg1.tape, hg1.output, hg1.size, fun k hk => hg1.block k hk (by simp)⟩
  have ha := lit_own w1 [(s : Int)] (by intro y hy; simp at hy; rw [hy]; simp [Lit.wf, IntKind.min, IntKind.max, IntKind.signed, IntKind.bits]; omega) (by simp)
  have hb := lit_own (w1.alloc (.cells #[.int .i64 (s : Int)] 3)) [(-1 : Int)] (by intro y hy; simp at hy; rw [hy]; decide) (by simp)
  have hlt1 : w.heap.size < w1.heap.size := (hou.lt _ rfl).2
  have hh0 : hop ls s s = -1 := hop_none g (.inl rfl)
  have HF0 := Lib.hid (show FQ w ((w1.alloc (.cells #[.int .i64 (s : Int)] 3)).alloc (.cells #[.int .i64 (-1)] 3)) n (.slice (some ⟨w1.heap.size, 0, none⟩) 1 1) (.slice (some ⟨w1.heap.size + 1, 0, none⟩) 1 1) (cps n (had ls s [])) ([s].map fun x : Nat => (x : Int)) ([s].map fun x : Nat => hop ls x s) from
    ⟨by rw [show cps n (had ls s []) = List.replicate n 0 from cps_zero n]; exact (hou.alloc _).alloc _, own_q (ha.alloc _), by
      have h := own_q hb
      rw [show (w1.alloc (.cells #[.int .i64 (s : Int)] 3)).heap.size = w1.heap.size + 1 by simp] at h
      rw [List.map_cons, List.map_nil, hh0]
      exact h, fun k hk => by have h : w1.heap.size = k := Option.some.inj hk; omega, fun k hk => by have h : w1.heap.size + 1 = k := Option.some.inj hk; omega, balloc (balloc hb1 _) _⟩)
  have HR0 := Lib.hid (run_start g hs)
  have HM0 := Lib.hid (show 0 = many n ls s [] from (sm_zero (f := had ls s []) (fun v _ => rfl)).symm)
  clear hm hi g hs hou hg1 hb1 ha hb hlt1 hh0
  go_enter Tryd.func6, Tryd.ntmps6
  go_wp2_with fail
  generalize (w1.alloc (.cells #[.int .i64 (s : Int)] 3)).alloc (.cells #[.int .i64 (-1)] 3) = w3 at HF0 ⊢
  clear hmk
  go_loopg [9, 10, 11] (n + 1) (fun kx sv av bv wr => ∃ (P Q : List Nat) (M N : Nat) (pa : Option Addr) (ca : Nat) (pb : Option Addr) (cb : Nat), n + 1 - P.length ≤ kx ∧ sv = .int .i64 (M : Int) ∧ av = .slice pa N ca ∧ bv = .slice pb N cb ∧ Hid (M = many n ls s P) ∧ Hid (N = Q.length) ∧ Hid (Run n ls s P Q) ∧ Hid (FQ w wr n (.slice pa N ca) (.slice pb N cb) (cps n (had ls s P)) (Q.map fun x : Nat => (x : Int)) (Q.map fun x : Nat => hop ls x s)))
  case atStart => exact ⟨[], [s], 0, 1, _, _, _, _, by simp, rfl, rfl, rfl, HM0, Lib.hid rfl, HR0, HF0⟩
  case round =>
    obtain ⟨P, Q, M, N, pa, ca, pb, cb, hkx, rfl, rfl, rfl, HM, HN, HR, HF⟩ := hrel
    clear HF0 HR0 HM0
    by_cases hN : 0 < N
    · have u1 : decide ((N : Int) > 0) = true := decide_eq_true (by omega)
      obtain ⟨x, Qt, rfl⟩ : ∃ x Qt, Q = x :: Qt := by
        cases Q with
        | nil => have := HN.out; simp at this; omega
        | cons x Qt => exact ⟨x, Qt, rfl⟩
      have hx := HR.out.rng x (by simp)
      have hpl := run_len HG.out HR.out
      rw [List.length_cons] at hpl
      have hml := many_le n ls s P
      have hM8 : M ≤ 64 := by
        have h1 := HM.out
        have h2 : n * P.length ≤ 8 * 8 := Nat.mul_le_mul hn8 (by omega)
        omega
      have HRS := Lib.hid (run_step HG.out HR.out)
      have HMS := Lib.hid (many_app (ls := ls) n s x P)
      have HNX := Lib.hid hx
      have HB := Lib.hid HF.out.bel
      obtain ⟨p1, c1, e1, hia⟩ := HF.out.a.form
      obtain ⟨p2, c2, e2, hib⟩ := HF.out.b.form
      injection e1 with e1 e1n e1c
      injection e2 with e2 e2n e2c
      subst e1; subst e2; subst e1c; subst e2c
      obtain ⟨b1, o1, ea, _, hca⟩ := hia.2.2.2 (by simp)
      obtain ⟨b2, o2, eb, _, hcb⟩ := hib.2.2.2 (by simp)
      have q1 : wr.cell? ⟨b1, o1, none⟩ = some (.int .i64 (x : Int)) := hca 0 (by simp)
      have q2 : wr.cell? ⟨b2, o2, none⟩ = some (.int .i64 (hop ls x s)) := hcb 0 (by simp)
      obtain ⟨va2, ta1, ta2, ta3, ta4⟩ := HF.out.a.tail
      obtain ⟨vb2, tb1, tb2, tb3, tb4⟩ := HF.out.b.tail
      have hqa := ta4 wr (fun _ _ => rfl)
      have hqb := tb4 wr (fun _ _ => rfl)
      have hna := HF.out.na
      have hnb := HF.out.nb
      obtain ⟨pa2, ca2, ea2, _⟩ := hqa.form
      obtain ⟨pb2, cb2, eb2, _⟩ := hqb.form
      obtain ⟨N2, hN2⟩ : ∃ N2, Qt.length = N2 := ⟨_, rfl⟩
      rw [List.length_map, hN2] at ea2 eb2
      subst ea2; subst eb2
      have HF2 := Lib.hid (show FQ w wr n (.slice pa2 N2 ca2) (.slice pb2 N2 cb2) (cps n (hadTo ls s P x 0)) ((Qt ++ kidsTo ls s x 0).map fun x : Nat => (x : Int)) ((Qt ++ kidsTo ls s x 0).map fun x : Nat => hop ls x s) from by
        rw [hadTo_zero, show kidsTo ls s x 0 = [] from rfl, List.append_nil]
        exact (HF.out.turnA hqa (fun k hk => hna k (by rw [← ta3]; exact hk))).turnB hqb (fun k hk => hnb k (by rw [← tb3]; exact hk)))
      have HNQ := Lib.hid hN2
      have hN28 : N2 ≤ 8 := by omega
      subst ea; subst eb
      obtain ⟨h, hh⟩ : ∃ h, hop ls x s = h := ⟨_, rfl⟩
      rw [hh] at q2
      have HH := Lib.hid hh
      clear hia hib hca hcb ta3 ta4 tb3 tb4 hqa hqb hna hnb hx hml e1n e2n HF hN2 hh
      go_wp2_with fail
      clear q1 q2 ta1 ta2 tb1 tb2
      go_loopw [9, 10, 11, 14] (fun sv av bv kv wr => ∃ (k M2 N3 : Nat) (pa3 : Option Addr) (ca3 : Nat) (pb3 : Option Addr) (cb3 : Nat), k ≤ n ∧ sv = .int .i64 (M2 : Int) ∧ av = .slice pa3 N3 ca3 ∧ bv = .slice pb3 N3 cb3 ∧ kv = .int .i64 (k : Int) ∧ Hid (M2 = M + outTo ls s x k) ∧ Hid (N3 = (Qt ++ kidsTo ls s x k).length) ∧ Hid (FQ w wr n (.slice pa3 N3 ca3) (.slice pb3 N3 cb3) (cps n (hadTo ls s P x k)) ((Qt ++ kidsTo ls s x k).map fun x : Nat => (x : Int)) ((Qt ++ kidsTo ls s x k).map fun x : Nat => hop ls x s))) (fun _ _ _ k _ => n - (intOf k).toNat)
      case atStart => exact ⟨0, M, N2, pa2, ca2, pb2, cb2, Nat.zero_le _, rfl, rfl, rfl, rfl, Lib.hid rfl, Lib.hid (by rw [show kidsTo ls s x 0 = [] from rfl, List.append_nil]; exact HNQ.out.symm), HF2⟩
      case round =>
        obtain ⟨k, M2, N3, pa3, ca3, pb3, cb3, hk, rfl, rfl, rfl, rfl, HM2, HN3, HQ⟩ := hrel
        clear HF2
        by_cases hkn : k < n
        · have v1 : decide ((k : Int) < (n : Int)) = true := decide_eq_true (by omega)
          by_cases hkh : (k : Int) = h
          · have v2 : ((k : Int) == h) = true := by rw [beq_iff_eq]; exact hkh
            have hng : ¬ gives ls s x k := fun hg => hg.2.2 (by rw [HH.out]; exact hkh.symm)
            have HO1 := Lib.hid (outTo_no hng)
            have HK1 := Lib.hid (kidsTo_no (ls := ls) (s := s) (p := x) (k := k) (fun h => hng (hop_gives HG.out h.2)))
            have HH1 := Lib.hid (hadTo_no (P := P) hng)
            clear hng hkh
            go_wp2_with fail
            go_roundw
            case rel => exact ⟨k + 1, M2, N3, pa3, ca3, pb3, cb3, by omega, rfl, rfl, rfl, by first | rfl | go_num, by rw [HO1.out]; exact HM2, by rw [HK1.out]; exact HN3, by rw [HH1.out, HK1.out]; exact HQ⟩
            case measure => simp [intOf]; omega
          · have v2 : ((k : Int) == h) = false := by rw [beq_eq_false_iff_ne]; exact hkh
            by_cases hkx2 : k = x
            · have v3 : ((k : Int) == (x : Int)) = true := by rw [beq_iff_eq]; omega
              have hng : ¬ gives ls s x k := fun hg => (gives_lt HG.out hg).2.2 hkx2.symm
              have HO1 := Lib.hid (outTo_no hng)
              have HK1 := Lib.hid (kidsTo_no (ls := ls) (s := s) (p := x) (k := k) (fun h => hng (hop_gives HG.out h.2)))
              have HH1 := Lib.hid (hadTo_no (P := P) hng)
              clear hng hkh hkx2
              go_wp2_with fail
              go_roundw
              case rel => exact ⟨k + 1, M2, N3, pa3, ca3, pb3, cb3, by omega, rfl, rfl, rfl, by first | rfl | go_num, by rw [HO1.out]; exact HM2, by rw [HK1.out]; exact HN3, by rw [HH1.out, HK1.out]; exact HQ⟩
              case measure => simp [intOf]; omega
            · have v3 : ((k : Int) == (x : Int)) = false := by rw [beq_eq_false_iff_ne]; omega
              have C := Lib.hid (RC.out wr HQ.out.bel x k)
              obtain ⟨cc, hcc⟩ : ∃ cc, cst ls (x : Int) (k : Int) ls.length = cc := ⟨_, rfl⟩
              rw [hcc] at C
              have hco : co ls x k = cc := hcc
              by_cases hc1 : cc = 1000
              · have v4 : (cc == 1000) = true := by rw [beq_iff_eq]; exact hc1
                have hng : ¬ gives ls s x k := fun hg => hg.2.1 (by rw [hco]; exact hc1)
                have HO1 := Lib.hid (outTo_no hng)
                have HK1 := Lib.hid (kidsTo_no (ls := ls) (s := s) (p := x) (k := k) (fun h => hng (hop_gives HG.out h.2)))
                have HH1 := Lib.hid (hadTo_no (P := P) hng)
                clear hng hkh hkx2 hcc hco hc1
                go_wp2_with fail
                refine C.out.mono ?_; rintro e w8 ⟨rfl, rfl⟩
                go_wp2_with fail
                go_roundw
                case rel => exact ⟨k + 1, M2, N3, pa3, ca3, pb3, cb3, by omega, rfl, rfl, rfl, by first | rfl | go_num, by rw [HO1.out]; exact HM2, by rw [HK1.out]; exact HN3, by rw [HH1.out, HK1.out]; exact HQ⟩
                case measure => simp [intOf]; omega
              · have v4 : (cc == 1000) = false := by rw [beq_eq_false_iff_ne]; exact hc1
                have hgv : gives ls s x k := ⟨HNX.out.2, by rw [hco]; exact hc1, by rw [HH.out]; exact fun e => hkh e.symm⟩
                have HO1 := Lib.hid (outTo_yes hgv)
                have hle := outTo_le ls s x k
                have hM72 : M2 ≤ 80 := by have := HM2.out; omega
                have HC1 := Lib.hid (cps_set (n := n) (f := hadTo ls s P x k) (f' := hadTo ls s P x (k + 1)) hkn (hadTo_at hgv) (fun u hu => hadTo_off hu))
                have hcell := own_cell HQ.out.c k (by rw [cps_len]; exact hkn)
                rw [cps_get n _ hkn] at hcell
                have hfz := own_fz HQ.out.c k
                have hhb : hadTo ls s P x k k ≤ 9 := by
                  have h1 := had_le_r ls s P k
                  unfold hadTo
                  split <;> omega
                obtain ⟨y, hy⟩ : ∃ y, hadTo ls s P x k k = y := ⟨_, rfl⟩
                rw [hy] at hcell HC1 hhb
                have HQ1 := Lib.hid (HQ.out.set k ((y : Int) + 1) (by simp [Lit.wf, IntKind.min, IntKind.max, IntKind.signed, IntKind.bits]; omega))
                rw [HC1.out] at HQ1
                have hknz : (k : Int) < (n : Int) := by omega
                have hlist : (Qt ++ kidsTo ls s x k).length ≤ 16 := by
                  rw [List.length_append]
                  have h1 : (kidsTo ls s x k).length ≤ k := Nat.le_trans (List.length_filter_le _ _) (by simp)
                  have h2 := HNQ.out
                  omega
                have HLL := Lib.hid hlist
                clear hgv hkh hkx2 hcc hco hc1 hle hy hlist HC1
                by_cases hks : k = s
                · have v5 : ((k : Int) != (s : Int)) = false := by rw [bne_eq_false_iff_eq]; omega
                  have HK1 := Lib.hid (kidsTo_no (ls := ls) (s := s) (p := x) (k := k) (fun h => h.1 hks))
                  clear hks
                  go_wp2_with fail
                  refine C.out.mono ?_; rintro e w8 ⟨rfl, rfl⟩
                  go_wp2_with fail
                  go_roundw
                  case rel => exact ⟨k + 1, M2 + 1, N3, pa3, ca3, pb3, cb3, by omega, by first | rfl | go_num, rfl, rfl, by first | rfl | go_num, Lib.hid (by rw [HO1.out, HM2.out]; omega), by rw [HK1.out]; exact HN3, by rw [HK1.out]; exact HQ1⟩
                  case measure => simp [intOf]; omega
                · have v5 : ((k : Int) != (s : Int)) = true := by rw [bne_iff_ne]; omega
                  generalize hw9 : wr.setCell ⟨w.heap.size, k, none⟩ (.int .i64 ((y : Int) + 1)) = w9 at HQ1
                  have CH := Lib.hid (RH.out w9 HQ1.out.bel k hkn)
                  obtain ⟨hk2, hhk⟩ : ∃ hk2, hop ls k s = hk2 := ⟨_, rfl⟩
                  rw [hhk] at CH
                  have HHK := Lib.hid hhk
                  have HW9 := Lib.hid hw9
                  by_cases hkk : hk2 = (x : Int)
                  · have v6 : (hk2 == (x : Int)) = true := by rw [beq_iff_eq]; exact hkk
                    have HK1 := Lib.hid (kidsTo_yes (ls := ls) (s := s) (p := x) (k := k) ⟨hks, hhk.trans hkk⟩)
                    have HX := Lib.hid (hhk.trans hkk)
                    clear hks hhk hkk hw9
                    go_wp2_with fail
                    refine C.out.mono ?_; rintro e w8 ⟨rfl, rfl⟩
                    go_wp2_with fail
                    rw [HW9.out]
                    refine CH.out.mono ?_; rintro e w10 ⟨rfl, hb10⟩
                    have HQ2 := Lib.hid (HQ1.out.below hb10)
                    clear hb10 HQ1 CH HW9
                    obtain ⟨p5, c5, e5, hi5⟩ := HQ2.out.a.form
                    injection e5 with e5 e5n e5c
                    subst e5; subst e5c
                    have CB := Lib.hid (behind_own pa3 ca3 N3 _ (k : Int) w10 (by rw [List.length_map]; exact HN3.out) hi5 (by rw [List.length_map]; have := HLL.out; omega) (by simp [Lit.wf, IntKind.min, IntKind.max, IntKind.signed, IntKind.bits]; omega))
                    clear hi5 e5n
                    go_wp2_with fail
                    refine CB.out.mono ?_; rintro e w11 ⟨g1, d1, rfl, ho11, hg11, hb11⟩
                    have HQ3 := Lib.hid ((HQ2.out.below hb11).turnA (own_q ho11) (fun j hj => by have h : g1 = j := Option.some.inj hj; have := HQ2.out.lt; omega))
                    clear hb11 ho11 hg11 CB HQ2
                    obtain ⟨p5, c5, e5, hi5⟩ := HQ3.out.b.form
                    injection e5 with e5 e5n e5c
                    subst e5; subst e5c
                    have CB := Lib.hid (behind_own pb3 cb3 N3 _ (x : Int) w11 (by rw [List.length_map]; exact HN3.out) hi5 (by rw [List.length_map]; have := HLL.out; omega) (by simp [Lit.wf, IntKind.min, IntKind.max, IntKind.signed, IntKind.bits]; have := HNX.out.1; omega))
                    clear hi5 e5n
                    go_wp2_with fail
                    refine CB.out.mono ?_; rintro e w12 ⟨g2, d2, rfl, ho12, hg12, hb12⟩
                    have HQ4 := Lib.hid ((HQ3.out.below hb12).turnB (own_q ho12) (fun j hj => by have h : g2 = j := Option.some.inj hj; have := HQ3.out.lt; omega))
                    clear hb12 ho12 hg12 CB HQ3
                    go_wp2_with fail
                    go_roundw
                    case rel => exact ⟨k + 1, M2 + 1, N3 + 1, _, d1, _, d2, by omega, by first | rfl | go_num, rfl, rfl, by first | rfl | go_num, Lib.hid (by rw [HO1.out, HM2.out]; omega), Lib.hid (by rw [HK1.out, HN3.out]; simp; omega), by
                      rw [HK1.out, ← List.append_assoc]
                      have e1 : ((Qt ++ kidsTo ls s x k) ++ [k]).map (fun x : Nat => (x : Int)) = (Qt ++ kidsTo ls s x k).map (fun x : Nat => (x : Int)) ++ [(k : Int)] := by rw [List.map_append]; rfl
                      have e2 : ((Qt ++ kidsTo ls s x k) ++ [k]).map (fun x : Nat => hop ls x s) = (Qt ++ kidsTo ls s x k).map (fun x : Nat => hop ls x s) ++ [(x : Int)] := by rw [List.map_append, List.map_cons, List.map_nil, HX.out]
                      rw [e1, e2]
                      exact HQ4⟩
                    case measure => simp [intOf]; omega
                  · have v6 : (hk2 == (x : Int)) = false := by rw [beq_eq_false_iff_ne]; exact hkk
                    have HK1 := Lib.hid (kidsTo_no (ls := ls) (s := s) (p := x) (k := k) (fun h => hkk (hhk.symm.trans h.2)))
                    clear hks hhk hkk hw9
                    go_wp2_with fail
                    refine C.out.mono ?_; rintro e w8 ⟨rfl, rfl⟩
                    go_wp2_with fail
                    rw [HW9.out]
                    refine CH.out.mono ?_; rintro e w10 ⟨rfl, hb10⟩
                    have HQ2 := Lib.hid (HQ1.out.below hb10)
                    clear hb10 HQ1 CH HW9
                    go_wp2_with fail
                    go_roundw
                    case rel => exact ⟨k + 1, M2 + 1, N3, pa3, ca3, pb3, cb3, by omega, by first | rfl | go_num, rfl, rfl, by first | rfl | go_num, Lib.hid (by rw [HO1.out, HM2.out]; omega), by rw [HK1.out]; exact HN3, by rw [HK1.out]; exact HQ2⟩
                    case measure => simp [intOf]; omega
        · obtain rfl : k = n := by omega
          have v1 : decide ((k : Int) < (k : Int)) = false := decide_eq_false (by omega)
          have HE1 := Lib.hid (show cps k (hadTo ls s P x k) = cps k (had ls s (P ++ [x])) from cps_congr (fun v hv => hadTo_end hv))
          rw [HE1.out] at HQ
          have HEM := Lib.hid (show M2 = many k ls s (P ++ [x]) from by rw [HMS.out, HM2.out, HM.out]; rfl)
          have HEK : Hid (kidsTo ls s x k = kids k ls s x) := Lib.hid rfl
          rw [HEK.out] at HQ HN3
          clear HM2 HM HMS
          go_wp2_with fail
          go_roundg (gk - 1)
          case measure => omega
          case rel => exact ⟨P ++ [x], Qt ++ kids k ls s x, M2, N3, pa3, ca3, pb3, cb3, by rw [List.length_append]; simp; omega, rfl, rfl, rfl, HEM, HN3, HRS, HQ⟩
    · have hN0 : N = 0 := by omega
      subst hN0
      have hQ : Q = [] := List.eq_nil_of_length_eq_zero HN.out.symm
      subst hQ
      have HCE := Lib.hid (show cps n (had ls s P) = cps n (copies n ls s) from cps_congr (fun v _ => had_end HG.out HR.out v))
      have HME := Lib.hid (HM.out.trans (many_end HG.out HR.out))
      rw [HCE.out] at HF
      clear HM HN HR
      go_wp2_with fail
      go_ret2
      exact ⟨_, _, by rw [← HME.out]; rfl, HF.out.c, HF.out.bel⟩
end Go.Proofs.YtedhippamfioeaaDoor.Rpf
