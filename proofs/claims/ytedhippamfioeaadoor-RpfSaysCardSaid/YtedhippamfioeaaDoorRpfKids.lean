/- Package rpf: Kids; what Flood and Kids answer in any case. No statement is proved here. -/
import Derived.Test.YtedhippamfioeaaDoorRpfFlood
namespace Go.Proofs.YtedhippamfioeaaDoor.Rpf
open Go.ChangeShapes Go.WideShapes Go.ChangeAt Go.RowKit Go.Proofs.YtedhippamfioeaaDoor.Kit Go.Proofs.YtedhippamfioeaaDoor.App Go.Proofs.YtedhippamfioeaaDoor.Cells Go.Proofs.YtedhippamfioeaaDoor.Err Go.Proofs.YtedhippamfioeaaDoor.Vector Go.Proofs.YtedhippamfioeaaDoor.Spf
set_option linter.unusedVariables false
set_option maxRecDepth 20000
set_option maxHeartbeats 1000000

/-- Who goes over at, of those below k. -/
noncomputable def kd (ls : List Lk) (s : Nat) (x : Int) (k : Nat) : List Int := ((List.range k).filter fun v => decide (hop ls v s = x)).map fun v : Nat => (v : Int)
theorem kd_yes {ls : List Lk} {s k : Nat} {x : Int} (h : hop ls k s = x) : kd ls s x (k + 1) = kd ls s x k ++ [(k : Int)] := by
  unfold kd
  rw [List.range_succ, List.filter_append, List.map_append, List.filter_cons_of_pos (by exact decide_eq_true h)]
  rfl
theorem kd_no {ls : List Lk} {s k : Nat} {x : Int} (h : hop ls k s ≠ x) : kd ls s x (k + 1) = kd ls s x k := by
  unfold kd
  rw [List.range_succ, List.filter_append, List.map_append, List.filter_cons_of_neg (by rw [decide_eq_true_eq]; exact h)]
  simp
theorem kd_le (ls : List Lk) (s : Nat) (x : Int) (k : Nat) : (kd ls s x k).length ≤ k := by
  unfold kd
  rw [List.length_map]
  exact Nat.le_trans (List.length_filter_le _ _) (by simp)
theorem kd_kids {n : Nat} {ls : List Lk} (g : Vector.Good n ls) {s : Nat} {x : Int} (hx : 0 ≤ x) : kd ls s x n = (kids n ls s x).map fun v : Nat => (v : Int) := by
  unfold kd kids
  congr 1
  refine List.filter_congr fun v _ => ?_
  rw [Bool.eq_iff_iff, decide_eq_true_eq, decide_eq_true_eq]
  refine ⟨fun h => ⟨fun e => ?_, h⟩, fun h => h.2⟩
  rw [hop_none g (.inl e)] at h
  omega
theorem wrong_two {n s a : Nat} {ls : List Lk} (g : Vector.Good n ls) (hs : s < n) (ha : a < n) : wrong n ls [(s : Int), (a : Int)] = 0 := by
  unfold wrong
  rw [if_pos (code_good g)]
  unfold outs outs outs
  rw [if_neg (by omega), if_neg (by omega)]
theorem ints_two (w : World) (x y : Int) (hx : (Lit.int .i64 x).wf = true) (hy : (Lit.int .i64 y).wf = true) : Ints (w.alloc (.cells #[.int .i64 x, .int .i64 y] 3)) (some ⟨w.heap.size, 0, none⟩) 2 [x, y] :=
  lit_ints w [x, y] (fun z hz => by
    simp only [List.mem_cons, List.not_mem_nil, or_false] at hz
    rcases hz with rfl | rfl
    · exact hx
    · exact hy) (by simp)
theorem kids_bad (n s a : Int) (p : Option Addr) (cap m : Nat) (ls : List Lk) (w : World) (hm : m = ls.length) (hi : CI layL w p cap ls) (hs : (Lit.int .i64 s).wf = true) (ha : (Lit.int .i64 a).wf = true) (c : Int) (hc : wrong n ls [s, a] = c) (h0 : c ≠ 0) :
    Calls Tryd.prog 11 #[.int .i64 n, .slice p m cap, .int .i64 s, .int .i64 a] w fun e w' => e = .returned (.tuple #[.slice none 0 0, er c]) ∧ Below w.heap.size w w' := by
  have C := Lib.hid (check_any n p cap m ls (some ⟨w.heap.size, 0, none⟩) 2 2 [s, a] (w.alloc (.cells #[.int .i64 s, .int .i64 a] 3)) hm (hi.below (balloc (brefl w) _)) rfl (ints_two w s a hs ha) c hc)
  have HB := Lib.hid (balloc (brefl w) (.cells #[.int .i64 s, .int .i64 a] 3))
  rw [er_ne h0] at C ⊢
  clear hm hi hs ha hc h0
  go_enter Tryd.func11, Tryd.ntmps11
  go_wp2_with fail
  refine C.out.mono ?_; rintro e w1 ⟨rfl, hb⟩
  have HB2 := Lib.hid (bcall HB.out hb)
  clear hb C HB
  go_wp2_with fail
  go_ret2
  exact ⟨rfl, HB2.out⟩
theorem flood_bad (n s : Int) (p : Option Addr) (cap m : Nat) (ls : List Lk) (w : World) (hm : m = ls.length) (hi : CI layL w p cap ls) (hs : (Lit.int .i64 s).wf = true) (c : Int) (hc : wrong n ls [s] = c) (h0 : c ≠ 0) :
    Calls Tryd.prog 7 #[.int .i64 n, .slice p m cap, .int .i64 s] w fun e w' => e = .returned (.tuple #[.slice none 0 0, .int .i64 0, er c]) ∧ Below w.heap.size w w' := by
  have hb3 : Below w.heap.size w (((w.alloc (.cells #[.slice none 0 0] 25)).alloc (.cells #[.int .i64 0] 3)).alloc (.cells #[.int .i64 s] 3)) := balloc (balloc (balloc (brefl w) _) _) _
  obtain ⟨z, hz⟩ : ∃ z, w.heap.size = z := ⟨_, rfl⟩
  have hx := Ints.one ((w.alloc (.cells #[.slice none 0 0] 25)).alloc (.cells #[.int .i64 0] 3)) s hs
  simp only [World.size_alloc, hz] at hx
  have C := Lib.hid (check_any n p cap m ls (some ⟨z + 1 + 1, 0, none⟩) 1 1 [s] _ hm (hi.below hb3) rfl hx c hc)
  have HB := Lib.hid hb3
  have HR := Lib.hid (show Blk 25 (((w.alloc (.cells #[.slice none 0 0] 25)).alloc (.cells #[.int .i64 0] 3)).alloc (.cells #[.int .i64 s] 3)) z [.slice none 0 0] from by
    have h := ((Blk.new w 25 [.slice none 0 0]).alloc (.cells #[.int .i64 0] 3)).alloc (.cells #[.int .i64 s] 3)
    rwa [hz] at h)
  have HN := Lib.hid (show Blk 3 (((w.alloc (.cells #[.slice none 0 0] 25)).alloc (.cells #[.int .i64 0] 3)).alloc (.cells #[.int .i64 s] 3)) (z + 1) [.int .i64 0] from by
    have h := (Blk.new (w.alloc (.cells #[.slice none 0 0] 25)) 3 [.int .i64 0]).alloc (.cells #[.int .i64 s] 3)
    rwa [World.size_alloc, hz] at h)
  have HZ := Lib.hid hz
  rw [er_ne h0] at C ⊢
  clear hm hi hs hc h0 hx hb3
  refine (callsIn_wide (n := 0)).1 ?_
  refine callsIn_of_wp_marks Tryd.func7 rfl trivial ?_ rfl
  simp only [Tryd.ntmps7, List.size_toArray, List.length_cons, List.length_nil, Nat.reduceAdd, Nat.reduceSub, Array.replicate_succ, Array.replicate_zero, List.push_toArray, List.append_toArray, List.nil_append, List.cons_append]
  refine wpIn_wide.2 ?_
  go_wp2_with fail
  generalize ((w.alloc _).alloc _).alloc _ = w3 at C HB HR HN ⊢
  clear hz
  refine C.out.mono ?_; rintro e w4 ⟨rfl, hb⟩
  have HR4 := Lib.hid (HR.out.below hb)
  have HN4 := Lib.hid (HN.out.below hb)
  have HB4 := Lib.hid (bcall HB.out hb)
  have r0 := HR4.out.cell 0 _ rfl
  have r1 := HR4.out.fz 0
  have r2 := HN4.out.cell 0 _ rfl
  have r3 := HN4.out.fz 0
  clear hb C HB HR HN
  go_wp2_with fail
  exact ⟨_, results_cct rfl Tryd.underlying25 Tryd.underlying3 rfl rfl _ _ _ _ rfl rfl (.slice none 0 0) (.int .i64 0) _ rfl (by go_simp) (by go_simp), rfl, below_set (below_set HB4.out _ _ _ (by rw [HZ.out]; exact Nat.le_refl _)) _ _ _ (by rw [HZ.out]; omega)⟩
theorem kids_good (n s a : Nat) (p : Option Addr) (cap m : Nat) (ls : List Lk) (w : World) (hm : m = ls.length) (hi : CI layL w p cap ls) (g : Vector.Good n ls) (hs : s < n) (ha : a < n) :
    Calls Tryd.prog 11 #[.int .i64 (n : Int), .slice p m cap, .int .i64 (s : Int), .int .i64 (a : Int)] w fun e w' => ∃ v, e = .returned (.tuple #[v, .nilIface]) ∧ OwnI w' w.heap.size v ((kids n ls s (a : Int)).map fun v : Nat => (v : Int)) ∧ Below w.heap.size w w' := by
  have hn8 := g.up
  have hws : (Lit.int .i64 (s : Int)).wf = true := wf_hop (by omega)
  have hwa : (Lit.int .i64 (a : Int)).wf = true := wf_hop (by omega)
  have C := Lib.hid (check_any n p cap m ls (some ⟨w.heap.size, 0, none⟩) 2 2 [(s : Int), (a : Int)] (w.alloc (.cells #[.int .i64 (s : Int), .int .i64 (a : Int)] 3)) hm (hi.below (balloc (brefl w) _)) rfl (ints_two w s a hws hwa) 0 (wrong_two g hs ha))
  have HB := Lib.hid (balloc (brefl w) (.cells #[.int .i64 (s : Int), .int .i64 (a : Int)] 3))
  have CH := Lib.hid (fun W hW => hops_good n s p cap m ls W hm (hi.below hW) g hs)
  have HG := Lib.hid g
  rw [er_0] at C
  rw [← kd_kids g (Int.natCast_nonneg a)]
  clear hm hi hws hwa g
  go_enter Tryd.func11, Tryd.ntmps11
  go_wp2_with fail
  refine C.out.mono ?_; rintro e w1 ⟨rfl, hb⟩
  have HB1 := Lib.hid (bcall HB.out hb)
  clear hb C HB
  go_wp2_with fail
  refine (CH.out _ HB1.out).mono ?_; rintro e w2 ⟨v2, rfl, ho, hb⟩
  obtain ⟨gh, ch, rfl, hg1, hg2, _, _⟩ := own_pos ho (by rw [rw1_len]; omega)
  rw [rw1_len] at ho ⊢
  have HB2 := Lib.hid (bcall HB1.out hb)
  have HO := Lib.hid ho
  have HG2 := Lib.hid hg2
  clear hb CH HB1 ho hg1 hg2
  go_wp2_with fail
  go_loopw [13, 37] (fun kv iv wr => ∃ k : Nat, k ≤ n ∧ iv = .int .i64 k ∧ Hid (OwnI wr w2.heap.size kv (kd ls s (a : Int) k)) ∧ Hid (Below w2.heap.size w2 wr)) (fun _ i _ => n - (intOf i).toNat)
  case atStart => exact ⟨0, Nat.zero_le _, rfl, Lib.hid (by rw [show kd ls s (a : Int) 0 = [] from rfl]; exact OwnI.nil _ _), Lib.hid (brefl _)⟩
  case round =>
    obtain ⟨k, hk, rfl, HK, HR⟩ := hrel
    by_cases hlt : k < n
    · have t0 : decide ((k : Int) < (n : Int)) = true := decide_eq_true (by omega)
      have hlt' : (k : Int) < (n : Int) := by omega
      have x0 := own_cell (HO.out.below HR.out) k (by rw [rw1_len]; exact hlt)
      rw [rw1_get _ _ hlt] at x0
      obtain ⟨y, hy⟩ : ∃ y, hop ls k s = y := ⟨_, rfl⟩
      rw [hy] at x0
      by_cases he : y = (a : Int)
      · have t1 : (y == (a : Int)) = true := beq_iff_eq.2 he
        have HE := Lib.hid (kd_yes (ls := ls) (s := s) (k := k) (x := (a : Int)) (by rw [hy, he]))
        have HY := Lib.hid hy
        have hkl := kd_le ls s (a : Int) k
        obtain ⟨pk, qk, rfl, hik⟩ := HK.out.form
        have HIK := Lib.hid hik
        obtain ⟨mk, hmk⟩ : ∃ mk, (kd ls s (a : Int) k).length = mk := ⟨_, rfl⟩
        rw [hmk] at hkl HK ⊢
        have HMK := Lib.hid hmk
        have hwk : (Lit.int .i64 (k : Int)).wf = true := wf_hop (by omega)
        have HW1 := Lib.hid hwk
        clear hy he hik hmk hwk
        go_wp2_with (at_builtin
                     refine wp_app rfl (.tmp 45) (.tmp 47) rfl w2.heap.size (.slice pk mk qk) (kd ls s (a : Int) k) (some ⟨wr.heap.size, 0, none⟩) 1 1 [(k : Int)] rfl (HK.out.alloc _) rfl rfl (Ints.one wr _ HW1.out) (by rw [HMK.out]; simp; omega) (by have := HR.out.size; simp; omega) ?_
                     intro v3 w3 ho3 hg3 hat3
                     have HO3 := Lib.hid ho3
                     have HB3 := Lib.hid (show Below w2.heap.size w2 w3 from (HR.out.trans ((balloc (brefl wr) (.cells #[.int .i64 (k : Int)] 3)).mono HR.out.size)).grown hg3 (by have := HR.out.size; simp; omega) (fun r e => (HK.out.lt r e).1))
                     clear ho3 hg3 hat3)
        go_roundw
        case rel => exact ⟨k + 1, by omega, by first | rfl | go_num, Lib.hid (by rw [HE.out]; exact HO3.out), HB3⟩
        case measure => simp [intOf]; omega
      · have t1 : (y == (a : Int)) = false := beq_eq_false_iff_ne.2 he
        have HE := Lib.hid (kd_no (ls := ls) (s := s) (k := k) (x := (a : Int)) (by rw [hy]; exact he))
        clear he hy
        go_wp2_with fail
        go_roundw
        case rel => exact ⟨k + 1, by omega, by first | rfl | go_num, Lib.hid (by rw [HE.out]; exact HK.out), HR⟩
        case measure => simp [intOf]; omega
    · obtain rfl : k = n := by omega
      have t0 : decide ((k : Int) < (k : Int)) = false := decide_eq_false (by omega)
      go_wp2_with fail
      go_ret2
      exact ⟨_, rfl, own_mono HK.out HB2.out.size, bcall HB2.out HR.out⟩
end Go.Proofs.YtedhippamfioeaaDoor.Rpf
