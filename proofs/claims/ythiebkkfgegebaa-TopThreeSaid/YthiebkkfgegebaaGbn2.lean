/- The contract of gbn.Run. No statement is proved here. -/
import Derived.Test.YthiebkkfgegebaaGbn1
import Derived.Test.YthiebkkfgegebaaGbnMath
import Derived.Test.YthiebkkfgegebaaSub
import Derived.OwnWalk
import Derived.BigQuiet
import Derived.RegionTactic
namespace Go.Proofs.Ythiebkkfgegebaa.Gbn
open Go.ChangeShapes Go.WideShapes Go.ChangeAt Go.RowKit Go.Proofs.Ythiebkkfgegebaa.Kit Go.Proofs.Ythiebkkfgegebaa.App Go.Proofs.Ythiebkkfgegebaa.Cells Go.Proofs.Ythiebkkfgegebaa.Fate Go.Proofs.Ythiebkkfgegebaa.Abp Go.Proofs.Ythiebkkfgegebaa.GbnMath
set_option linter.unusedVariables false
set_option maxRecDepth 20000

theorem aszG (w : World) (o : Obj) : (w.alloc o).heap.size = w.heap.size + 1 := by simp
theorem tmod_nat (a b : Nat) : ((a : Int).tmod (b : Int)) = ((a % b : Nat) : Int) := by rw [Int.tmod_eq_emod_of_nonneg (by omega)]; simp
theorem tmod_eq {s c R : Nat} (h : s % R = c % R) : (((s : Int).tmod (R : Int)) == ((c : Int).tmod (R : Int))) = true := by rw [tmod_nat, tmod_nat, h]; simp
theorem tmod_ne {s c R : Nat} (h : s % R ≠ c % R) : (((s : Int).tmod (R : Int)) == ((c : Int).tmod (R : Int))) = false := by rw [tmod_nat, tmod_nat, beq_eq_false_iff_ne]; omega
theorem tmod_far {k c R d : Nat} (h : k ≤ c) (hd : far R k c = d) : (((c : Int) - (k : Int)).tmod (R : Int)) = (d : Int) := by
  rw [show (c : Int) - (k : Int) = ((c - k : Nat) : Int) by omega, tmod_nat, ← hd]; rfl
theorem emod_nat (a b : Nat) : ((a : Int) % (b : Int)) = ((a % b : Nat) : Int) := by simp
theorem emod_eq {s c R : Nat} (h : s % R = c % R) : (((s : Int) % (R : Int)) == ((c : Int) % (R : Int))) = true := by rw [emod_nat, emod_nat, h]; simp
theorem emod_ne {s c R : Nat} (h : s % R ≠ c % R) : (((s : Int) % (R : Int)) == ((c : Int) % (R : Int))) = false := by rw [emod_nat, emod_nat, beq_eq_false_iff_ne]; omega
theorem emod_far {k c R d : Nat} (h : k ≤ c) (hd : far R k c = d) : (((c : Int) - (k : Int)) % (R : Int)) = (d : Int) := by
  rw [show (c : Int) - (k : Int) = ((c - k : Nat) : Int) by omega, emod_nat, ← hd]; rfl
theorem own_drewN {w : World} {base : Nat} {v : Value} {l : List Int} (h : OwnI w base v l) (n : Nat) : OwnI (w.drewN n) base v l := h
theorem run_bad (p q : Option Addr) (cap cq n m : Nat) (l : List Int) (W R : Int) (w : World) (hn : n = l.length) (hi : Ints w p cap l) (hm : m ≤ 9223372036854775807) (c : Int) (hc : c = badG l W R m) (h0 : c ≠ 0) :
    Calls Try.prog 11 #[.slice p n cap, .int .i64 W, .int .i64 R, .slice q m cq] w fun e w' => e = .returned (.tuple #[.slice none 0 0, .int .i64 0, er c]) ∧ w' = w := by
  have CK := Lib.hid (fun W' (h : Ints W' p cap l) => check_any p q cap cq n m l W R W' hn h hm c hc)
  have HI := Lib.hid hi
  have HE := Lib.hid (er_ne h0)
  rw [er_ne h0] at CK
  clear hi hn hm hc h0
  go_enter Try.func11, Try.ntmps11
  go_wp2_with fail
  refine (CK.out _ HI.out).mono ?_; rintro e w1 ⟨rfl, rfl⟩
  go_wp2_with fail
  go_ret3
  exact ⟨by rw [HE.out]; rfl, rfl⟩

set_option maxHeartbeats 8000000 in
theorem run_good (p q : Option Addr) (cap cq n m W R : Nat) (l : List Int) (fs : List Fat) (w : World) (hn : n = l.length) (hm : m = fs.length) (hi : Ints w p cap l) (hf : CI lay w q cq fs) (h0 : badG l W R m = 0) (K : Nat) (G : List Int) (hr : GbnMath.run l W R fs 0 0 [] = (K, G)) :
    Calls Try.prog 11 #[.slice p n cap, .int .i64 W, .int .i64 R, .slice q m cq] w fun e w' => ∃ v, e = .returned (.tuple #[v, .int .i64 (K : Nat), .nilIface]) ∧ OwnI w' w.heap.size v G ∧ Below w.heap.size w w' := by
  have hlm := hf.len_le
  rw [← hm] at hlm
  have CK := Lib.hid (fun W' (h : Ints W' p cap l) => check_any p q cap cq n m l W R W' hn h hlm 0 h0.symm)
  rw [er_0] at CK
  obtain ⟨hb0, hW1, hW8, hR2, hR16⟩ := (badG_zero l W R m).1 h0
  have hW1 : 1 ≤ W := by omega
  have hW8 : W ≤ 8 := by omega
  have hR2 : 2 ≤ R := by omega
  have hR16 : R ≤ 16 := by omega
  have hRz : R ≠ 0 := by omega
  have hRzi : (R : Int) ≠ 0 := by omega
  obtain ⟨hl20, hm200, hfit⟩ := (bad_zero l m).1 hb0
  rw [← hn] at hl20
  have HI := Lib.hid hi
  have HF := Lib.hid hf
  have HN := Lib.hid hn
  have HM := Lib.hid hm
  have R0 := Lib.hid (show GbnMath.run l W R (fs.drop 0) 0 0 [] = (K, G) from hr)
  clear hi hf hn hm hr h0 hfit hb0
  go_enter Try.func11, Try.ntmps11
  go_wp2_with fail
  refine (CK.out _ HI.out).mono ?_; rintro e w1 ⟨rfl, rfl⟩
  go_wp2_with fail
  go_loopw [8, 9, 12, 27] (fun gv kv nv iv wr => ∃ (i k nx c : Nat) (g : List Int), i ≤ m ∧ k ≤ n ∧ k ≤ nx ∧ nx ≤ n ∧ nx ≤ k + W ∧ k ≤ c ∧ c ≤ i ∧ kv = .int .i64 k ∧ nv = .int .i64 nx ∧ iv = .int .i64 i ∧ Hid (g.length = c) ∧ OwnI wr w1.heap.size gv g ∧ Hid (GbnMath.run l W R (fs.drop i) k nx g = (K, G)) ∧ Below w1.heap.size w1 wr) (fun _ _ _ iv _ => m - (intOf iv).toNat)
  case atStart => exact ⟨0, 0, 0, 0, [], Nat.zero_le _, Nat.zero_le _, Nat.le_refl _, Nat.zero_le _, Nat.zero_le _, Nat.le_refl _, Nat.le_refl _, rfl, rfl, rfl, rfl, OwnI.nil _ _, R0.out, brefl _⟩
  case round =>
    obtain ⟨i, k, nx, c, g, him, hkn, hknx, hnxn, hnxw, hkc, hci, rfl, rfl, rfl, HC, hown, HRUN, hB⟩ := hrel
    have hBs := hB.size
    obtain ⟨vp, vc, rfl, hvi⟩ := hown.form
    rw [HC.out] at hown ⊢
    clear hvi
    by_cases hlt : i < m
    · have hil : i < fs.length := by rw [← HM.out]; exact hlt
      obtain ⟨b, off, rfl, hbw, hcell⟩ := fate_at HF.out (by omega)
      obtain ⟨x, hx⟩ : ∃ x, fs[i]? = some x := ⟨_, List.getElem?_eq_getElem hil⟩
      obtain ⟨e1, e2⟩ := hcell wr hB i x hx
      have HD := Lib.hid (show GbnMath.run l W R (x :: fs.drop (i + 1)) k nx g = (K, G) by rw [← AbpMath.drop_at hx]; exact HRUN.out)
      clear hcell hx hil HRUN
      by_cases hk : k = n
      · have HE := Lib.hid (show (n, g) = (K, G) by rw [← HD.out, GbnMath.run_end _ _ _ _ _ _ _ (by rw [← HN.out]; exact hk), hk])
        have t0 : ((k : Int) == (n : Int)) = true := by rw [hk]; simp
        clear HD
        obtain ⟨x1, x2⟩ := x
        have HOW := Lib.hid hown
        clear hown
        go_wp2_with fail
        go_ret3
        refine ⟨_, by rw [← (Prod.mk.inj HE.out).1]; rfl, ?_, balloc hB _⟩
        rw [← (Prod.mk.inj HE.out).2]; exact HOW.out.alloc _
      · have t0 : ((k : Int) == (n : Int)) = false := by rw [beq_eq_false_iff_ne]; omega
        have HKN := Lib.hid (show k ≠ l.length by rw [← HN.out]; exact hk)
        have hkn' : k < n := by omega
        clear hk hkn
        obtain ⟨x1, x2⟩ := x
        by_cases ha : nx = k + W
        · have a1 : ((nx : Int) == (k : Int) + (W : Int)) = true := by rw [ha]; simp
          have hs : GbnMath.sent n W k nx = k := by unfold GbnMath.sent; rw [if_pos (.inl ha)]
          have hsn : k < n := by omega
          have hsw : k < k + W := by omega
          have HS := Lib.hid (show GbnMath.sent l.length W k nx = k by rw [← HN.out]; exact hs)
          clear hs
          cases x1 with
          | true =>
            have HD2 := Lib.hid (show GbnMath.run l W R (fs.drop (i + 1)) k (k + 1) g = (K, G) by rw [← GbnMath.run_lost (f := ⟨true, x2⟩) HKN.out HS.out rfl]; exact HD.out)
            clear HD HKN
            -- aL
            go_wp2_with fail
            go_roundw
            case rel => exact ⟨i + 1, k, k + 1, c, g, by omega, by omega, by omega, by omega, by omega, hkc, by omega, rfl, by first | rfl | go_num, by first | rfl | go_num, HC.out, hown.alloc _, HD2.out, balloc hB _⟩
            case measure => simp [intOf]; omega

          | false =>
            obtain ⟨b1, off1, rfl, hb1w, hc1⟩ := HI.out.2.2.2 (by rw [← HN.out]; omega)
            have hd := hc1 k (by rw [← HN.out]; exact hsn)
            have hxk := (hB.cell (p := ⟨b1, off1 + k, none⟩) hb1w).trans hd
            have hxw := HI.out.2.2.1 k
            obtain ⟨y, hy⟩ : ∃ y, l[k]?.getD 0 = y := ⟨_, rfl⟩
            rw [hy] at hxk hxw
            have HY := Lib.hid hy
            clear hc1 hd hy
            by_cases hm : k % R = c % R
            · have t1 := tmod_eq hm
              have t1e := emod_eq hm
              have HP := Lib.hid (show GbnMath.put l R k g = g ++ [y] by rw [← HY.out]; exact GbnMath.put_yes (by rw [HC.out]; exact hm))
              have HL := Lib.hid (show (g ++ [y]).length = c + 1 by rw [List.length_append, HC.out]; rfl)
              clear hm
              cases x2 with
              | true =>
                have HD2 := Lib.hid (show GbnMath.run l W R (fs.drop (i + 1)) k (k + 1) (g ++ [y]) = (K, G) by rw [← GbnMath.run_back (f := ⟨false, true⟩) HKN.out HS.out rfl rfl HP.out]; exact HD.out)
                clear HD HKN
                -- aYB
                have FB : ∀ (nq : Nat) (v : Value) (wa : World), OwnI wr w1.heap.size v g → (((wr.alloc (.cells #[.bool false, .bool true] 32)).drewN nq).alloc (.cells #[.int .i64 y] 3)).grownBy wa v.ownBlock → wa.cell? ⟨wr.heap.size, 1, none⟩ = some (.bool true) := fun nq v wa ho hg => by
                  have hk := hg.block wr.heap.size (by simp; omega) (fun h => by have := (ho.lt _ h.symm).2; omega)
                  refine (World.cell?_of_block (w := ((wr.alloc (.cells #[.bool false, .bool true] 32)).drewN nq).alloc (.cells #[.int .i64 y] 3)) (a := ⟨wr.heap.size, 1, none⟩) hk).trans ?_
                  have h1 : (((wr.alloc (.cells #[.bool false, .bool true] 32)).drewN nq).alloc (.cells #[.int .i64 y] 3)).heap[wr.heap.size]? = some (.cells #[.bool false, .bool true] 32) := by
                    show (((wr.heap.push _).push _))[wr.heap.size]? = _
                    rw [Array.getElem?_push_lt (by simp), Array.getElem_push_eq]
                  unfold World.cell?
                  rw [h1]; rfl
                have FBh := Lib.hid FB
                clear FB
                have hxa : (wr.alloc (.cells #[.bool false, .bool true] 32)).cell? ⟨b1, off1 + k, none⟩ = some (.int .i64 y) := ((brefl wr).alloc (Nat.le_refl _) _ |>.cell (p := ⟨b1, off1 + k, none⟩) (Nat.lt_of_lt_of_le hb1w hBs)).trans hxk
                go_wp2_with fail
                go_quiet (fail)
                go_wp2_with (at_builtin
                             refine wp_app rfl (.tmp 60) (.tmp 65) rfl w1.heap.size _ g (some ⟨wr.heap.size + 1, 0, none⟩) 1 1 [y] rfl ((own_drewN (hown.alloc _) _).alloc _) rfl rfl (by
                               have q := Ints.one ((wr.alloc (.cells #[.bool false, .bool true] 32)).drewN nq) y hxw
                               rw [World.heap_drewN, aszG] at q
                               exact q) (by rw [List.length_singleton, HC.out]; omega) (Nat.le_trans hBs (by simp; omega)) ?_
                             intro v1 wa hown1 hg1 hat1
                             have hb1 : Below w1.heap.size w1 wa := below_app (balloc (below_drewN (balloc hB _) _) _) ((own_drewN (hown.alloc _) _).alloc _) hg1 (Nat.le_trans hBs (by simp; omega))
                             have f2 : wa.cell? ⟨wr.heap.size, 1, none⟩ = some (.bool true) := FBh.out _ _ wa hown hg1
                             clear hat1 hg1
                             obtain ⟨vp1, vc1, rfl, hvi1⟩ := hown1.form
                             rw [HL.out] at hown1 ⊢
                             clear hvi1)
                go_roundw
                case rel => exact ⟨i + 1, k, k + 1, c + 1, g ++ [y], by omega, by omega, by omega, by omega, by omega, by omega, by omega, by first | rfl | go_num, by first | rfl | go_num, by first | rfl | go_num, HL.out, hown1, HD2.out, hb1⟩
                case measure => simp [intOf]; omega

              | false =>
                obtain ⟨d, hd⟩ : ∃ d, GbnMath.far R k (c + 1) = d := ⟨_, rfl⟩
                have hdb : d ≤ c + 1 := by rw [← hd]; exact Nat.le_trans (Nat.mod_le _ _) (by omega)
                have hdk : k + d ≤ c + 1 := by rw [← hd]; unfold GbnMath.far; have := Nat.mod_le (c + 1 - k) R; omega
                have hdI : (((c : Int) + 1 - (k : Int)).tmod (R : Int)) = (d : Int) := tmod_far (by omega) hd
                have hdE : (((c : Int) + 1 - (k : Int)) % (R : Int)) = (d : Int) := emod_far (by omega) hd
                have HDD := Lib.hid (show GbnMath.far R k (g ++ [y]).length = d by rw [HL.out]; exact hd)
                clear hd
                by_cases hdw : d ≤ W
                · have d1 : decide ((d : Int) ≤ (W : Int)) = true := decide_eq_true (by omega)
                  by_cases hdn : d ≤ n - k
                  · have d2 : decide ((d : Int) ≤ (n : Int) - (k : Int)) = true := decide_eq_true (by omega)
                    by_cases hmx : k + d ≤ k + 1
                    · have HD2 := Lib.hid (show GbnMath.run l W R (fs.drop (i + 1)) (k + d) (k + 1) (g ++ [y]) = (K, G) by
                        have h := GbnMath.run_fine (l := l) (W := W) (R := R) (fs := fs.drop (i + 1)) (f := ⟨false, false⟩) HKN.out HS.out rfl rfl HP.out HDD.out hdw (by rw [← HN.out]; exact hdn)
                        rw [Nat.max_eq_left hmx] at h
                        rw [← h]; exact HD.out)
                      have m1 : max ((k : Int) + 1) ((k : Int) + (d : Int)) = (k : Int) + 1 := by omega
                      clear HD HKN
                      -- aYA
                      have FB : ∀ (nq : Nat) (v : Value) (wa : World), OwnI wr w1.heap.size v g → (((wr.alloc (.cells #[.bool false, .bool false] 32)).drewN nq).alloc (.cells #[.int .i64 y] 3)).grownBy wa v.ownBlock → wa.cell? ⟨wr.heap.size, 1, none⟩ = some (.bool false) := fun nq v wa ho hg => by
                        have hk := hg.block wr.heap.size (by simp; omega) (fun h => by have := (ho.lt _ h.symm).2; omega)
                        refine (World.cell?_of_block (w := ((wr.alloc (.cells #[.bool false, .bool false] 32)).drewN nq).alloc (.cells #[.int .i64 y] 3)) (a := ⟨wr.heap.size, 1, none⟩) hk).trans ?_
                        have h1 : (((wr.alloc (.cells #[.bool false, .bool false] 32)).drewN nq).alloc (.cells #[.int .i64 y] 3)).heap[wr.heap.size]? = some (.cells #[.bool false, .bool false] 32) := by
                          show (((wr.heap.push _).push _))[wr.heap.size]? = _
                          rw [Array.getElem?_push_lt (by simp), Array.getElem_push_eq]
                        unfold World.cell?
                        rw [h1]; rfl
                      have FBh := Lib.hid FB
                      clear FB
                      have hxa : (wr.alloc (.cells #[.bool false, .bool false] 32)).cell? ⟨b1, off1 + k, none⟩ = some (.int .i64 y) := ((brefl wr).alloc (Nat.le_refl _) _ |>.cell (p := ⟨b1, off1 + k, none⟩) (Nat.lt_of_lt_of_le hb1w hBs)).trans hxk
                      go_wp2_with fail
                      go_quiet (fail)
                      go_wp2_with (at_builtin
                                   refine wp_app rfl (.tmp 60) (.tmp 65) rfl w1.heap.size _ g (some ⟨wr.heap.size + 1, 0, none⟩) 1 1 [y] rfl ((own_drewN (hown.alloc _) _).alloc _) rfl rfl (by
                                     have q := Ints.one ((wr.alloc (.cells #[.bool false, .bool false] 32)).drewN nq) y hxw
                                     rw [World.heap_drewN, aszG] at q
                                     exact q) (by rw [List.length_singleton, HC.out]; omega) (Nat.le_trans hBs (by simp; omega)) ?_
                                   intro v1 wa hown1 hg1 hat1
                                   have hb1 : Below w1.heap.size w1 wa := below_app (balloc (below_drewN (balloc hB _) _) _) ((own_drewN (hown.alloc _) _).alloc _) hg1 (Nat.le_trans hBs (by simp; omega))
                                   have f2 : wa.cell? ⟨wr.heap.size, 1, none⟩ = some (.bool false) := FBh.out _ _ wa hown hg1
                                   clear hat1 hg1
                                   obtain ⟨vp1, vc1, rfl, hvi1⟩ := hown1.form
                                   rw [HL.out] at hown1 ⊢
                                   clear hvi1)
                      go_roundw
                      case rel => exact ⟨i + 1, k + d, k + 1, c + 1, g ++ [y], by omega, by omega, by omega, by omega, by omega, by omega, by omega, by first | rfl | go_num, by first | rfl | go_num, by first | rfl | go_num, HL.out, hown1, HD2.out, hb1⟩
                      case measure => simp [intOf]; omega
                    · have HD2 := Lib.hid (show GbnMath.run l W R (fs.drop (i + 1)) (k + d) (k + d) (g ++ [y]) = (K, G) by
                        have h := GbnMath.run_fine (l := l) (W := W) (R := R) (fs := fs.drop (i + 1)) (f := ⟨false, false⟩) HKN.out HS.out rfl rfl HP.out HDD.out hdw (by rw [← HN.out]; exact hdn)
                        rw [Nat.max_eq_right (by omega)] at h
                        rw [← h]; exact HD.out)
                      have m1 : max ((k : Int) + 1) ((k : Int) + (d : Int)) = (k : Int) + (d : Int) := by omega
                      clear HD HKN
                      -- aYB
                      have FB : ∀ (nq : Nat) (v : Value) (wa : World), OwnI wr w1.heap.size v g → (((wr.alloc (.cells #[.bool false, .bool false] 32)).drewN nq).alloc (.cells #[.int .i64 y] 3)).grownBy wa v.ownBlock → wa.cell? ⟨wr.heap.size, 1, none⟩ = some (.bool false) := fun nq v wa ho hg => by
                        have hk := hg.block wr.heap.size (by simp; omega) (fun h => by have := (ho.lt _ h.symm).2; omega)
                        refine (World.cell?_of_block (w := ((wr.alloc (.cells #[.bool false, .bool false] 32)).drewN nq).alloc (.cells #[.int .i64 y] 3)) (a := ⟨wr.heap.size, 1, none⟩) hk).trans ?_
                        have h1 : (((wr.alloc (.cells #[.bool false, .bool false] 32)).drewN nq).alloc (.cells #[.int .i64 y] 3)).heap[wr.heap.size]? = some (.cells #[.bool false, .bool false] 32) := by
                          show (((wr.heap.push _).push _))[wr.heap.size]? = _
                          rw [Array.getElem?_push_lt (by simp), Array.getElem_push_eq]
                        unfold World.cell?
                        rw [h1]; rfl
                      have FBh := Lib.hid FB
                      clear FB
                      have hxa : (wr.alloc (.cells #[.bool false, .bool false] 32)).cell? ⟨b1, off1 + k, none⟩ = some (.int .i64 y) := ((brefl wr).alloc (Nat.le_refl _) _ |>.cell (p := ⟨b1, off1 + k, none⟩) (Nat.lt_of_lt_of_le hb1w hBs)).trans hxk
                      go_wp2_with fail
                      go_quiet (fail)
                      go_wp2_with (at_builtin
                                   refine wp_app rfl (.tmp 60) (.tmp 65) rfl w1.heap.size _ g (some ⟨wr.heap.size + 1, 0, none⟩) 1 1 [y] rfl ((own_drewN (hown.alloc _) _).alloc _) rfl rfl (by
                                     have q := Ints.one ((wr.alloc (.cells #[.bool false, .bool false] 32)).drewN nq) y hxw
                                     rw [World.heap_drewN, aszG] at q
                                     exact q) (by rw [List.length_singleton, HC.out]; omega) (Nat.le_trans hBs (by simp; omega)) ?_
                                   intro v1 wa hown1 hg1 hat1
                                   have hb1 : Below w1.heap.size w1 wa := below_app (balloc (below_drewN (balloc hB _) _) _) ((own_drewN (hown.alloc _) _).alloc _) hg1 (Nat.le_trans hBs (by simp; omega))
                                   have f2 : wa.cell? ⟨wr.heap.size, 1, none⟩ = some (.bool false) := FBh.out _ _ wa hown hg1
                                   clear hat1 hg1
                                   obtain ⟨vp1, vc1, rfl, hvi1⟩ := hown1.form
                                   rw [HL.out] at hown1 ⊢
                                   clear hvi1)
                      go_roundw
                      case rel => exact ⟨i + 1, k + d, k + d, c + 1, g ++ [y], by omega, by omega, by omega, by omega, by omega, by omega, by omega, by first | rfl | go_num, by first | rfl | go_num, by first | rfl | go_num, HL.out, hown1, HD2.out, hb1⟩
                      case measure => simp [intOf]; omega
                  · have d2 : decide ((d : Int) ≤ (n : Int) - (k : Int)) = false := decide_eq_false (by omega)
                    have HD2 := Lib.hid (show GbnMath.run l W R (fs.drop (i + 1)) k (k + 1) (g ++ [y]) = (K, G) by rw [← GbnMath.run_far (f := ⟨false, false⟩) HKN.out HS.out rfl rfl HP.out HDD.out (by rw [← HN.out]; omega)]; exact HD.out)
                    clear HD HKN hdn
                    -- aYC
                    have FB : ∀ (nq : Nat) (v : Value) (wa : World), OwnI wr w1.heap.size v g → (((wr.alloc (.cells #[.bool false, .bool false] 32)).drewN nq).alloc (.cells #[.int .i64 y] 3)).grownBy wa v.ownBlock → wa.cell? ⟨wr.heap.size, 1, none⟩ = some (.bool false) := fun nq v wa ho hg => by
                      have hk := hg.block wr.heap.size (by simp; omega) (fun h => by have := (ho.lt _ h.symm).2; omega)
                      refine (World.cell?_of_block (w := ((wr.alloc (.cells #[.bool false, .bool false] 32)).drewN nq).alloc (.cells #[.int .i64 y] 3)) (a := ⟨wr.heap.size, 1, none⟩) hk).trans ?_
                      have h1 : (((wr.alloc (.cells #[.bool false, .bool false] 32)).drewN nq).alloc (.cells #[.int .i64 y] 3)).heap[wr.heap.size]? = some (.cells #[.bool false, .bool false] 32) := by
                        show (((wr.heap.push _).push _))[wr.heap.size]? = _
                        rw [Array.getElem?_push_lt (by simp), Array.getElem_push_eq]
                      unfold World.cell?
                      rw [h1]; rfl
                    have FBh := Lib.hid FB
                    clear FB
                    have hxa : (wr.alloc (.cells #[.bool false, .bool false] 32)).cell? ⟨b1, off1 + k, none⟩ = some (.int .i64 y) := ((brefl wr).alloc (Nat.le_refl _) _ |>.cell (p := ⟨b1, off1 + k, none⟩) (Nat.lt_of_lt_of_le hb1w hBs)).trans hxk
                    go_wp2_with fail
                    go_quiet (fail)
                    go_wp2_with (at_builtin
                                 refine wp_app rfl (.tmp 60) (.tmp 65) rfl w1.heap.size _ g (some ⟨wr.heap.size + 1, 0, none⟩) 1 1 [y] rfl ((own_drewN (hown.alloc _) _).alloc _) rfl rfl (by
                                   have q := Ints.one ((wr.alloc (.cells #[.bool false, .bool false] 32)).drewN nq) y hxw
                                   rw [World.heap_drewN, aszG] at q
                                   exact q) (by rw [List.length_singleton, HC.out]; omega) (Nat.le_trans hBs (by simp; omega)) ?_
                                 intro v1 wa hown1 hg1 hat1
                                 have hb1 : Below w1.heap.size w1 wa := below_app (balloc (below_drewN (balloc hB _) _) _) ((own_drewN (hown.alloc _) _).alloc _) hg1 (Nat.le_trans hBs (by simp; omega))
                                 have f2 : wa.cell? ⟨wr.heap.size, 1, none⟩ = some (.bool false) := FBh.out _ _ wa hown hg1
                                 clear hat1 hg1
                                 obtain ⟨vp1, vc1, rfl, hvi1⟩ := hown1.form
                                 rw [HL.out] at hown1 ⊢
                                 clear hvi1)
                    go_roundw
                    case rel => exact ⟨i + 1, k, k + 1, c + 1, g ++ [y], by omega, by omega, by omega, by omega, by omega, by omega, by omega, by first | rfl | go_num, by first | rfl | go_num, by first | rfl | go_num, HL.out, hown1, HD2.out, hb1⟩
                    case measure => simp [intOf]; omega
                · have d1 : decide ((d : Int) ≤ (W : Int)) = false := decide_eq_false (by omega)
                  have HD2 := Lib.hid (show GbnMath.run l W R (fs.drop (i + 1)) k (k + 1) (g ++ [y]) = (K, G) by rw [← GbnMath.run_far (f := ⟨false, false⟩) HKN.out HS.out rfl rfl HP.out HDD.out (by omega)]; exact HD.out)
                  clear HD HKN
                  -- aYD
                  have FB : ∀ (nq : Nat) (v : Value) (wa : World), OwnI wr w1.heap.size v g → (((wr.alloc (.cells #[.bool false, .bool false] 32)).drewN nq).alloc (.cells #[.int .i64 y] 3)).grownBy wa v.ownBlock → wa.cell? ⟨wr.heap.size, 1, none⟩ = some (.bool false) := fun nq v wa ho hg => by
                    have hk := hg.block wr.heap.size (by simp; omega) (fun h => by have := (ho.lt _ h.symm).2; omega)
                    refine (World.cell?_of_block (w := ((wr.alloc (.cells #[.bool false, .bool false] 32)).drewN nq).alloc (.cells #[.int .i64 y] 3)) (a := ⟨wr.heap.size, 1, none⟩) hk).trans ?_
                    have h1 : (((wr.alloc (.cells #[.bool false, .bool false] 32)).drewN nq).alloc (.cells #[.int .i64 y] 3)).heap[wr.heap.size]? = some (.cells #[.bool false, .bool false] 32) := by
                      show (((wr.heap.push _).push _))[wr.heap.size]? = _
                      rw [Array.getElem?_push_lt (by simp), Array.getElem_push_eq]
                    unfold World.cell?
                    rw [h1]; rfl
                  have FBh := Lib.hid FB
                  clear FB
                  have hxa : (wr.alloc (.cells #[.bool false, .bool false] 32)).cell? ⟨b1, off1 + k, none⟩ = some (.int .i64 y) := ((brefl wr).alloc (Nat.le_refl _) _ |>.cell (p := ⟨b1, off1 + k, none⟩) (Nat.lt_of_lt_of_le hb1w hBs)).trans hxk
                  go_wp2_with fail
                  go_quiet (fail)
                  go_wp2_with (at_builtin
                               refine wp_app rfl (.tmp 60) (.tmp 65) rfl w1.heap.size _ g (some ⟨wr.heap.size + 1, 0, none⟩) 1 1 [y] rfl ((own_drewN (hown.alloc _) _).alloc _) rfl rfl (by
                                 have q := Ints.one ((wr.alloc (.cells #[.bool false, .bool false] 32)).drewN nq) y hxw
                                 rw [World.heap_drewN, aszG] at q
                                 exact q) (by rw [List.length_singleton, HC.out]; omega) (Nat.le_trans hBs (by simp; omega)) ?_
                               intro v1 wa hown1 hg1 hat1
                               have hb1 : Below w1.heap.size w1 wa := below_app (balloc (below_drewN (balloc hB _) _) _) ((own_drewN (hown.alloc _) _).alloc _) hg1 (Nat.le_trans hBs (by simp; omega))
                               have f2 : wa.cell? ⟨wr.heap.size, 1, none⟩ = some (.bool false) := FBh.out _ _ wa hown hg1
                               clear hat1 hg1
                               obtain ⟨vp1, vc1, rfl, hvi1⟩ := hown1.form
                               rw [HL.out] at hown1 ⊢
                               clear hvi1)
                  go_roundw
                  case rel => exact ⟨i + 1, k, k + 1, c + 1, g ++ [y], by omega, by omega, by omega, by omega, by omega, by omega, by omega, by first | rfl | go_num, by first | rfl | go_num, by first | rfl | go_num, HL.out, hown1, HD2.out, hb1⟩
                  case measure => simp [intOf]; omega

            · have t1 := tmod_ne hm
              have t1e := emod_ne hm
              have HP := Lib.hid (show GbnMath.put l R k g = g from GbnMath.put_no (by rw [HC.out]; exact hm))
              clear hm hxk hxw HY
              cases x2 with
              | true =>
                have HD2 := Lib.hid (show GbnMath.run l W R (fs.drop (i + 1)) k (k + 1) g = (K, G) by rw [← GbnMath.run_back (f := ⟨false, true⟩) HKN.out HS.out rfl rfl HP.out]; exact HD.out)
                clear HD HKN
                -- aNB
                go_wp2_with fail
                go_quiet (fail)
                go_wp2_with fail
                go_roundw
                case rel => exact ⟨i + 1, k, k + 1, c, g, by omega, by omega, by omega, by omega, by omega, by omega, by omega, by first | rfl | go_num, by first | rfl | go_num, by first | rfl | go_num, HC.out, own_drewN (hown.alloc _) _, HD2.out, below_drewN (balloc hB _) _⟩
                case measure => simp [intOf]; omega

              | false =>
                obtain ⟨d, hd⟩ : ∃ d, GbnMath.far R k c = d := ⟨_, rfl⟩
                have hdb : d ≤ c := by rw [← hd]; exact Nat.le_trans (Nat.mod_le _ _) (by omega)
                have hdk : k + d ≤ c := by rw [← hd]; unfold GbnMath.far; have := Nat.mod_le (c - k) R; omega
                have hdI : (((c : Int) - (k : Int)).tmod (R : Int)) = (d : Int) := tmod_far (by omega) hd
                have hdE : (((c : Int) - (k : Int)) % (R : Int)) = (d : Int) := emod_far (by omega) hd
                have HDD := Lib.hid (show GbnMath.far R k g.length = d by rw [HC.out]; exact hd)
                clear hd
                by_cases hdw : d ≤ W
                · have d1 : decide ((d : Int) ≤ (W : Int)) = true := decide_eq_true (by omega)
                  by_cases hdn : d ≤ n - k
                  · have d2 : decide ((d : Int) ≤ (n : Int) - (k : Int)) = true := decide_eq_true (by omega)
                    by_cases hmx : k + d ≤ k + 1
                    · have HD2 := Lib.hid (show GbnMath.run l W R (fs.drop (i + 1)) (k + d) (k + 1) (g) = (K, G) by
                        have h := GbnMath.run_fine (l := l) (W := W) (R := R) (fs := fs.drop (i + 1)) (f := ⟨false, false⟩) HKN.out HS.out rfl rfl HP.out HDD.out hdw (by rw [← HN.out]; exact hdn)
                        rw [Nat.max_eq_left hmx] at h
                        rw [← h]; exact HD.out)
                      have m1 : max ((k : Int) + 1) ((k : Int) + (d : Int)) = (k : Int) + 1 := by omega
                      clear HD HKN
                      -- aNA
                      go_wp2_with fail
                      go_quiet (fail)
                      go_wp2_with fail
                      go_roundw
                      case rel => exact ⟨i + 1, k + d, k + 1, c, g, by omega, by omega, by omega, by omega, by omega, by omega, by omega, by first | rfl | go_num, by first | rfl | go_num, by first | rfl | go_num, HC.out, own_drewN (hown.alloc _) _, HD2.out, below_drewN (balloc hB _) _⟩
                      case measure => simp [intOf]; omega
                    · have HD2 := Lib.hid (show GbnMath.run l W R (fs.drop (i + 1)) (k + d) (k + d) (g) = (K, G) by
                        have h := GbnMath.run_fine (l := l) (W := W) (R := R) (fs := fs.drop (i + 1)) (f := ⟨false, false⟩) HKN.out HS.out rfl rfl HP.out HDD.out hdw (by rw [← HN.out]; exact hdn)
                        rw [Nat.max_eq_right (by omega)] at h
                        rw [← h]; exact HD.out)
                      have m1 : max ((k : Int) + 1) ((k : Int) + (d : Int)) = (k : Int) + (d : Int) := by omega
                      clear HD HKN
                      -- aNB
                      go_wp2_with fail
                      go_quiet (fail)
                      go_wp2_with fail
                      go_roundw
                      case rel => exact ⟨i + 1, k + d, k + d, c, g, by omega, by omega, by omega, by omega, by omega, by omega, by omega, by first | rfl | go_num, by first | rfl | go_num, by first | rfl | go_num, HC.out, own_drewN (hown.alloc _) _, HD2.out, below_drewN (balloc hB _) _⟩
                      case measure => simp [intOf]; omega
                  · have d2 : decide ((d : Int) ≤ (n : Int) - (k : Int)) = false := decide_eq_false (by omega)
                    have HD2 := Lib.hid (show GbnMath.run l W R (fs.drop (i + 1)) k (k + 1) (g) = (K, G) by rw [← GbnMath.run_far (f := ⟨false, false⟩) HKN.out HS.out rfl rfl HP.out HDD.out (by rw [← HN.out]; omega)]; exact HD.out)
                    clear HD HKN hdn
                    -- aNC
                    go_wp2_with fail
                    go_quiet (fail)
                    go_wp2_with fail
                    go_roundw
                    case rel => exact ⟨i + 1, k, k + 1, c, g, by omega, by omega, by omega, by omega, by omega, by omega, by omega, by first | rfl | go_num, by first | rfl | go_num, by first | rfl | go_num, HC.out, own_drewN (hown.alloc _) _, HD2.out, below_drewN (balloc hB _) _⟩
                    case measure => simp [intOf]; omega
                · have d1 : decide ((d : Int) ≤ (W : Int)) = false := decide_eq_false (by omega)
                  have HD2 := Lib.hid (show GbnMath.run l W R (fs.drop (i + 1)) k (k + 1) (g) = (K, G) by rw [← GbnMath.run_far (f := ⟨false, false⟩) HKN.out HS.out rfl rfl HP.out HDD.out (by omega)]; exact HD.out)
                  clear HD HKN
                  -- aND
                  go_wp2_with fail
                  go_quiet (fail)
                  go_wp2_with fail
                  go_roundw
                  case rel => exact ⟨i + 1, k, k + 1, c, g, by omega, by omega, by omega, by omega, by omega, by omega, by omega, by first | rfl | go_num, by first | rfl | go_num, by first | rfl | go_num, HC.out, own_drewN (hown.alloc _) _, HD2.out, below_drewN (balloc hB _) _⟩
                  case measure => simp [intOf]; omega

        · have a1 : ((nx : Int) == (k : Int) + (W : Int)) = false := by rw [beq_eq_false_iff_ne]; omega
          by_cases hb : nx = n
          · have a2 : ((nx : Int) == (n : Int)) = true := by rw [hb]; simp
            have hs : GbnMath.sent n W k nx = k := by unfold GbnMath.sent; rw [if_pos (.inr hb)]
            have hsn : k < n := by omega
            have hsw : k < k + W := by omega
            have HS := Lib.hid (show GbnMath.sent l.length W k nx = k by rw [← HN.out]; exact hs)
            clear hs
            cases x1 with
            | true =>
              have HD2 := Lib.hid (show GbnMath.run l W R (fs.drop (i + 1)) k (k + 1) g = (K, G) by rw [← GbnMath.run_lost (f := ⟨true, x2⟩) HKN.out HS.out rfl]; exact HD.out)
              clear HD HKN
              -- bL
              go_wp2_with fail
              go_roundw
              case rel => exact ⟨i + 1, k, k + 1, c, g, by omega, by omega, by omega, by omega, by omega, hkc, by omega, rfl, by first | rfl | go_num, by first | rfl | go_num, HC.out, hown.alloc _, HD2.out, balloc hB _⟩
              case measure => simp [intOf]; omega

            | false =>
              obtain ⟨b1, off1, rfl, hb1w, hc1⟩ := HI.out.2.2.2 (by rw [← HN.out]; omega)
              have hd := hc1 k (by rw [← HN.out]; exact hsn)
              have hxk := (hB.cell (p := ⟨b1, off1 + k, none⟩) hb1w).trans hd
              have hxw := HI.out.2.2.1 k
              obtain ⟨y, hy⟩ : ∃ y, l[k]?.getD 0 = y := ⟨_, rfl⟩
              rw [hy] at hxk hxw
              have HY := Lib.hid hy
              clear hc1 hd hy
              by_cases hm : k % R = c % R
              · have t1 := tmod_eq hm
                have t1e := emod_eq hm
                have HP := Lib.hid (show GbnMath.put l R k g = g ++ [y] by rw [← HY.out]; exact GbnMath.put_yes (by rw [HC.out]; exact hm))
                have HL := Lib.hid (show (g ++ [y]).length = c + 1 by rw [List.length_append, HC.out]; rfl)
                clear hm
                cases x2 with
                | true =>
                  have HD2 := Lib.hid (show GbnMath.run l W R (fs.drop (i + 1)) k (k + 1) (g ++ [y]) = (K, G) by rw [← GbnMath.run_back (f := ⟨false, true⟩) HKN.out HS.out rfl rfl HP.out]; exact HD.out)
                  clear HD HKN
                  -- bYB
                  have FB : ∀ (nq : Nat) (v : Value) (wa : World), OwnI wr w1.heap.size v g → (((wr.alloc (.cells #[.bool false, .bool true] 32)).drewN nq).alloc (.cells #[.int .i64 y] 3)).grownBy wa v.ownBlock → wa.cell? ⟨wr.heap.size, 1, none⟩ = some (.bool true) := fun nq v wa ho hg => by
                    have hk := hg.block wr.heap.size (by simp; omega) (fun h => by have := (ho.lt _ h.symm).2; omega)
                    refine (World.cell?_of_block (w := ((wr.alloc (.cells #[.bool false, .bool true] 32)).drewN nq).alloc (.cells #[.int .i64 y] 3)) (a := ⟨wr.heap.size, 1, none⟩) hk).trans ?_
                    have h1 : (((wr.alloc (.cells #[.bool false, .bool true] 32)).drewN nq).alloc (.cells #[.int .i64 y] 3)).heap[wr.heap.size]? = some (.cells #[.bool false, .bool true] 32) := by
                      show (((wr.heap.push _).push _))[wr.heap.size]? = _
                      rw [Array.getElem?_push_lt (by simp), Array.getElem_push_eq]
                    unfold World.cell?
                    rw [h1]; rfl
                  have FBh := Lib.hid FB
                  clear FB
                  have hxa : (wr.alloc (.cells #[.bool false, .bool true] 32)).cell? ⟨b1, off1 + k, none⟩ = some (.int .i64 y) := ((brefl wr).alloc (Nat.le_refl _) _ |>.cell (p := ⟨b1, off1 + k, none⟩) (Nat.lt_of_lt_of_le hb1w hBs)).trans hxk
                  go_wp2_with fail
                  go_quiet (fail)
                  go_wp2_with (at_builtin
                               refine wp_app rfl (.tmp 60) (.tmp 65) rfl w1.heap.size _ g (some ⟨wr.heap.size + 1, 0, none⟩) 1 1 [y] rfl ((own_drewN (hown.alloc _) _).alloc _) rfl rfl (by
                                 have q := Ints.one ((wr.alloc (.cells #[.bool false, .bool true] 32)).drewN nq) y hxw
                                 rw [World.heap_drewN, aszG] at q
                                 exact q) (by rw [List.length_singleton, HC.out]; omega) (Nat.le_trans hBs (by simp; omega)) ?_
                               intro v1 wa hown1 hg1 hat1
                               have hb1 : Below w1.heap.size w1 wa := below_app (balloc (below_drewN (balloc hB _) _) _) ((own_drewN (hown.alloc _) _).alloc _) hg1 (Nat.le_trans hBs (by simp; omega))
                               have f2 : wa.cell? ⟨wr.heap.size, 1, none⟩ = some (.bool true) := FBh.out _ _ wa hown hg1
                               clear hat1 hg1
                               obtain ⟨vp1, vc1, rfl, hvi1⟩ := hown1.form
                               rw [HL.out] at hown1 ⊢
                               clear hvi1)
                  go_roundw
                  case rel => exact ⟨i + 1, k, k + 1, c + 1, g ++ [y], by omega, by omega, by omega, by omega, by omega, by omega, by omega, by first | rfl | go_num, by first | rfl | go_num, by first | rfl | go_num, HL.out, hown1, HD2.out, hb1⟩
                  case measure => simp [intOf]; omega

                | false =>
                  obtain ⟨d, hd⟩ : ∃ d, GbnMath.far R k (c + 1) = d := ⟨_, rfl⟩
                  have hdb : d ≤ c + 1 := by rw [← hd]; exact Nat.le_trans (Nat.mod_le _ _) (by omega)
                  have hdk : k + d ≤ c + 1 := by rw [← hd]; unfold GbnMath.far; have := Nat.mod_le (c + 1 - k) R; omega
                  have hdI : (((c : Int) + 1 - (k : Int)).tmod (R : Int)) = (d : Int) := tmod_far (by omega) hd
                  have hdE : (((c : Int) + 1 - (k : Int)) % (R : Int)) = (d : Int) := emod_far (by omega) hd
                  have HDD := Lib.hid (show GbnMath.far R k (g ++ [y]).length = d by rw [HL.out]; exact hd)
                  clear hd
                  by_cases hdw : d ≤ W
                  · have d1 : decide ((d : Int) ≤ (W : Int)) = true := decide_eq_true (by omega)
                    by_cases hdn : d ≤ n - k
                    · have d2 : decide ((d : Int) ≤ (n : Int) - (k : Int)) = true := decide_eq_true (by omega)
                      by_cases hmx : k + d ≤ k + 1
                      · have HD2 := Lib.hid (show GbnMath.run l W R (fs.drop (i + 1)) (k + d) (k + 1) (g ++ [y]) = (K, G) by
                          have h := GbnMath.run_fine (l := l) (W := W) (R := R) (fs := fs.drop (i + 1)) (f := ⟨false, false⟩) HKN.out HS.out rfl rfl HP.out HDD.out hdw (by rw [← HN.out]; exact hdn)
                          rw [Nat.max_eq_left hmx] at h
                          rw [← h]; exact HD.out)
                        have m1 : max ((k : Int) + 1) ((k : Int) + (d : Int)) = (k : Int) + 1 := by omega
                        clear HD HKN
                        -- bYA
                        have FB : ∀ (nq : Nat) (v : Value) (wa : World), OwnI wr w1.heap.size v g → (((wr.alloc (.cells #[.bool false, .bool false] 32)).drewN nq).alloc (.cells #[.int .i64 y] 3)).grownBy wa v.ownBlock → wa.cell? ⟨wr.heap.size, 1, none⟩ = some (.bool false) := fun nq v wa ho hg => by
                          have hk := hg.block wr.heap.size (by simp; omega) (fun h => by have := (ho.lt _ h.symm).2; omega)
                          refine (World.cell?_of_block (w := ((wr.alloc (.cells #[.bool false, .bool false] 32)).drewN nq).alloc (.cells #[.int .i64 y] 3)) (a := ⟨wr.heap.size, 1, none⟩) hk).trans ?_
                          have h1 : (((wr.alloc (.cells #[.bool false, .bool false] 32)).drewN nq).alloc (.cells #[.int .i64 y] 3)).heap[wr.heap.size]? = some (.cells #[.bool false, .bool false] 32) := by
                            show (((wr.heap.push _).push _))[wr.heap.size]? = _
                            rw [Array.getElem?_push_lt (by simp), Array.getElem_push_eq]
                          unfold World.cell?
                          rw [h1]; rfl
                        have FBh := Lib.hid FB
                        clear FB
                        have hxa : (wr.alloc (.cells #[.bool false, .bool false] 32)).cell? ⟨b1, off1 + k, none⟩ = some (.int .i64 y) := ((brefl wr).alloc (Nat.le_refl _) _ |>.cell (p := ⟨b1, off1 + k, none⟩) (Nat.lt_of_lt_of_le hb1w hBs)).trans hxk
                        go_wp2_with fail
                        go_quiet (fail)
                        go_wp2_with (at_builtin
                                     refine wp_app rfl (.tmp 60) (.tmp 65) rfl w1.heap.size _ g (some ⟨wr.heap.size + 1, 0, none⟩) 1 1 [y] rfl ((own_drewN (hown.alloc _) _).alloc _) rfl rfl (by
                                       have q := Ints.one ((wr.alloc (.cells #[.bool false, .bool false] 32)).drewN nq) y hxw
                                       rw [World.heap_drewN, aszG] at q
                                       exact q) (by rw [List.length_singleton, HC.out]; omega) (Nat.le_trans hBs (by simp; omega)) ?_
                                     intro v1 wa hown1 hg1 hat1
                                     have hb1 : Below w1.heap.size w1 wa := below_app (balloc (below_drewN (balloc hB _) _) _) ((own_drewN (hown.alloc _) _).alloc _) hg1 (Nat.le_trans hBs (by simp; omega))
                                     have f2 : wa.cell? ⟨wr.heap.size, 1, none⟩ = some (.bool false) := FBh.out _ _ wa hown hg1
                                     clear hat1 hg1
                                     obtain ⟨vp1, vc1, rfl, hvi1⟩ := hown1.form
                                     rw [HL.out] at hown1 ⊢
                                     clear hvi1)
                        go_roundw
                        case rel => exact ⟨i + 1, k + d, k + 1, c + 1, g ++ [y], by omega, by omega, by omega, by omega, by omega, by omega, by omega, by first | rfl | go_num, by first | rfl | go_num, by first | rfl | go_num, HL.out, hown1, HD2.out, hb1⟩
                        case measure => simp [intOf]; omega
                      · have HD2 := Lib.hid (show GbnMath.run l W R (fs.drop (i + 1)) (k + d) (k + d) (g ++ [y]) = (K, G) by
                          have h := GbnMath.run_fine (l := l) (W := W) (R := R) (fs := fs.drop (i + 1)) (f := ⟨false, false⟩) HKN.out HS.out rfl rfl HP.out HDD.out hdw (by rw [← HN.out]; exact hdn)
                          rw [Nat.max_eq_right (by omega)] at h
                          rw [← h]; exact HD.out)
                        have m1 : max ((k : Int) + 1) ((k : Int) + (d : Int)) = (k : Int) + (d : Int) := by omega
                        clear HD HKN
                        -- bYB
                        have FB : ∀ (nq : Nat) (v : Value) (wa : World), OwnI wr w1.heap.size v g → (((wr.alloc (.cells #[.bool false, .bool false] 32)).drewN nq).alloc (.cells #[.int .i64 y] 3)).grownBy wa v.ownBlock → wa.cell? ⟨wr.heap.size, 1, none⟩ = some (.bool false) := fun nq v wa ho hg => by
                          have hk := hg.block wr.heap.size (by simp; omega) (fun h => by have := (ho.lt _ h.symm).2; omega)
                          refine (World.cell?_of_block (w := ((wr.alloc (.cells #[.bool false, .bool false] 32)).drewN nq).alloc (.cells #[.int .i64 y] 3)) (a := ⟨wr.heap.size, 1, none⟩) hk).trans ?_
                          have h1 : (((wr.alloc (.cells #[.bool false, .bool false] 32)).drewN nq).alloc (.cells #[.int .i64 y] 3)).heap[wr.heap.size]? = some (.cells #[.bool false, .bool false] 32) := by
                            show (((wr.heap.push _).push _))[wr.heap.size]? = _
                            rw [Array.getElem?_push_lt (by simp), Array.getElem_push_eq]
                          unfold World.cell?
                          rw [h1]; rfl
                        have FBh := Lib.hid FB
                        clear FB
                        have hxa : (wr.alloc (.cells #[.bool false, .bool false] 32)).cell? ⟨b1, off1 + k, none⟩ = some (.int .i64 y) := ((brefl wr).alloc (Nat.le_refl _) _ |>.cell (p := ⟨b1, off1 + k, none⟩) (Nat.lt_of_lt_of_le hb1w hBs)).trans hxk
                        go_wp2_with fail
                        go_quiet (fail)
                        go_wp2_with (at_builtin
                                     refine wp_app rfl (.tmp 60) (.tmp 65) rfl w1.heap.size _ g (some ⟨wr.heap.size + 1, 0, none⟩) 1 1 [y] rfl ((own_drewN (hown.alloc _) _).alloc _) rfl rfl (by
                                       have q := Ints.one ((wr.alloc (.cells #[.bool false, .bool false] 32)).drewN nq) y hxw
                                       rw [World.heap_drewN, aszG] at q
                                       exact q) (by rw [List.length_singleton, HC.out]; omega) (Nat.le_trans hBs (by simp; omega)) ?_
                                     intro v1 wa hown1 hg1 hat1
                                     have hb1 : Below w1.heap.size w1 wa := below_app (balloc (below_drewN (balloc hB _) _) _) ((own_drewN (hown.alloc _) _).alloc _) hg1 (Nat.le_trans hBs (by simp; omega))
                                     have f2 : wa.cell? ⟨wr.heap.size, 1, none⟩ = some (.bool false) := FBh.out _ _ wa hown hg1
                                     clear hat1 hg1
                                     obtain ⟨vp1, vc1, rfl, hvi1⟩ := hown1.form
                                     rw [HL.out] at hown1 ⊢
                                     clear hvi1)
                        go_roundw
                        case rel => exact ⟨i + 1, k + d, k + d, c + 1, g ++ [y], by omega, by omega, by omega, by omega, by omega, by omega, by omega, by first | rfl | go_num, by first | rfl | go_num, by first | rfl | go_num, HL.out, hown1, HD2.out, hb1⟩
                        case measure => simp [intOf]; omega
                    · have d2 : decide ((d : Int) ≤ (n : Int) - (k : Int)) = false := decide_eq_false (by omega)
                      have HD2 := Lib.hid (show GbnMath.run l W R (fs.drop (i + 1)) k (k + 1) (g ++ [y]) = (K, G) by rw [← GbnMath.run_far (f := ⟨false, false⟩) HKN.out HS.out rfl rfl HP.out HDD.out (by rw [← HN.out]; omega)]; exact HD.out)
                      clear HD HKN hdn
                      -- bYC
                      have FB : ∀ (nq : Nat) (v : Value) (wa : World), OwnI wr w1.heap.size v g → (((wr.alloc (.cells #[.bool false, .bool false] 32)).drewN nq).alloc (.cells #[.int .i64 y] 3)).grownBy wa v.ownBlock → wa.cell? ⟨wr.heap.size, 1, none⟩ = some (.bool false) := fun nq v wa ho hg => by
                        have hk := hg.block wr.heap.size (by simp; omega) (fun h => by have := (ho.lt _ h.symm).2; omega)
                        refine (World.cell?_of_block (w := ((wr.alloc (.cells #[.bool false, .bool false] 32)).drewN nq).alloc (.cells #[.int .i64 y] 3)) (a := ⟨wr.heap.size, 1, none⟩) hk).trans ?_
                        have h1 : (((wr.alloc (.cells #[.bool false, .bool false] 32)).drewN nq).alloc (.cells #[.int .i64 y] 3)).heap[wr.heap.size]? = some (.cells #[.bool false, .bool false] 32) := by
                          show (((wr.heap.push _).push _))[wr.heap.size]? = _
                          rw [Array.getElem?_push_lt (by simp), Array.getElem_push_eq]
                        unfold World.cell?
                        rw [h1]; rfl
                      have FBh := Lib.hid FB
                      clear FB
                      have hxa : (wr.alloc (.cells #[.bool false, .bool false] 32)).cell? ⟨b1, off1 + k, none⟩ = some (.int .i64 y) := ((brefl wr).alloc (Nat.le_refl _) _ |>.cell (p := ⟨b1, off1 + k, none⟩) (Nat.lt_of_lt_of_le hb1w hBs)).trans hxk
                      go_wp2_with fail
                      go_quiet (fail)
                      go_wp2_with (at_builtin
                                   refine wp_app rfl (.tmp 60) (.tmp 65) rfl w1.heap.size _ g (some ⟨wr.heap.size + 1, 0, none⟩) 1 1 [y] rfl ((own_drewN (hown.alloc _) _).alloc _) rfl rfl (by
                                     have q := Ints.one ((wr.alloc (.cells #[.bool false, .bool false] 32)).drewN nq) y hxw
                                     rw [World.heap_drewN, aszG] at q
                                     exact q) (by rw [List.length_singleton, HC.out]; omega) (Nat.le_trans hBs (by simp; omega)) ?_
                                   intro v1 wa hown1 hg1 hat1
                                   have hb1 : Below w1.heap.size w1 wa := below_app (balloc (below_drewN (balloc hB _) _) _) ((own_drewN (hown.alloc _) _).alloc _) hg1 (Nat.le_trans hBs (by simp; omega))
                                   have f2 : wa.cell? ⟨wr.heap.size, 1, none⟩ = some (.bool false) := FBh.out _ _ wa hown hg1
                                   clear hat1 hg1
                                   obtain ⟨vp1, vc1, rfl, hvi1⟩ := hown1.form
                                   rw [HL.out] at hown1 ⊢
                                   clear hvi1)
                      go_roundw
                      case rel => exact ⟨i + 1, k, k + 1, c + 1, g ++ [y], by omega, by omega, by omega, by omega, by omega, by omega, by omega, by first | rfl | go_num, by first | rfl | go_num, by first | rfl | go_num, HL.out, hown1, HD2.out, hb1⟩
                      case measure => simp [intOf]; omega
                  · have d1 : decide ((d : Int) ≤ (W : Int)) = false := decide_eq_false (by omega)
                    have HD2 := Lib.hid (show GbnMath.run l W R (fs.drop (i + 1)) k (k + 1) (g ++ [y]) = (K, G) by rw [← GbnMath.run_far (f := ⟨false, false⟩) HKN.out HS.out rfl rfl HP.out HDD.out (by omega)]; exact HD.out)
                    clear HD HKN
                    -- bYD
                    have FB : ∀ (nq : Nat) (v : Value) (wa : World), OwnI wr w1.heap.size v g → (((wr.alloc (.cells #[.bool false, .bool false] 32)).drewN nq).alloc (.cells #[.int .i64 y] 3)).grownBy wa v.ownBlock → wa.cell? ⟨wr.heap.size, 1, none⟩ = some (.bool false) := fun nq v wa ho hg => by
                      have hk := hg.block wr.heap.size (by simp; omega) (fun h => by have := (ho.lt _ h.symm).2; omega)
                      refine (World.cell?_of_block (w := ((wr.alloc (.cells #[.bool false, .bool false] 32)).drewN nq).alloc (.cells #[.int .i64 y] 3)) (a := ⟨wr.heap.size, 1, none⟩) hk).trans ?_
                      have h1 : (((wr.alloc (.cells #[.bool false, .bool false] 32)).drewN nq).alloc (.cells #[.int .i64 y] 3)).heap[wr.heap.size]? = some (.cells #[.bool false, .bool false] 32) := by
                        show (((wr.heap.push _).push _))[wr.heap.size]? = _
                        rw [Array.getElem?_push_lt (by simp), Array.getElem_push_eq]
                      unfold World.cell?
                      rw [h1]; rfl
                    have FBh := Lib.hid FB
                    clear FB
                    have hxa : (wr.alloc (.cells #[.bool false, .bool false] 32)).cell? ⟨b1, off1 + k, none⟩ = some (.int .i64 y) := ((brefl wr).alloc (Nat.le_refl _) _ |>.cell (p := ⟨b1, off1 + k, none⟩) (Nat.lt_of_lt_of_le hb1w hBs)).trans hxk
                    go_wp2_with fail
                    go_quiet (fail)
                    go_wp2_with (at_builtin
                                 refine wp_app rfl (.tmp 60) (.tmp 65) rfl w1.heap.size _ g (some ⟨wr.heap.size + 1, 0, none⟩) 1 1 [y] rfl ((own_drewN (hown.alloc _) _).alloc _) rfl rfl (by
                                   have q := Ints.one ((wr.alloc (.cells #[.bool false, .bool false] 32)).drewN nq) y hxw
                                   rw [World.heap_drewN, aszG] at q
                                   exact q) (by rw [List.length_singleton, HC.out]; omega) (Nat.le_trans hBs (by simp; omega)) ?_
                                 intro v1 wa hown1 hg1 hat1
                                 have hb1 : Below w1.heap.size w1 wa := below_app (balloc (below_drewN (balloc hB _) _) _) ((own_drewN (hown.alloc _) _).alloc _) hg1 (Nat.le_trans hBs (by simp; omega))
                                 have f2 : wa.cell? ⟨wr.heap.size, 1, none⟩ = some (.bool false) := FBh.out _ _ wa hown hg1
                                 clear hat1 hg1
                                 obtain ⟨vp1, vc1, rfl, hvi1⟩ := hown1.form
                                 rw [HL.out] at hown1 ⊢
                                 clear hvi1)
                    go_roundw
                    case rel => exact ⟨i + 1, k, k + 1, c + 1, g ++ [y], by omega, by omega, by omega, by omega, by omega, by omega, by omega, by first | rfl | go_num, by first | rfl | go_num, by first | rfl | go_num, HL.out, hown1, HD2.out, hb1⟩
                    case measure => simp [intOf]; omega

              · have t1 := tmod_ne hm
                have t1e := emod_ne hm
                have HP := Lib.hid (show GbnMath.put l R k g = g from GbnMath.put_no (by rw [HC.out]; exact hm))
                clear hm hxk hxw HY
                cases x2 with
                | true =>
                  have HD2 := Lib.hid (show GbnMath.run l W R (fs.drop (i + 1)) k (k + 1) g = (K, G) by rw [← GbnMath.run_back (f := ⟨false, true⟩) HKN.out HS.out rfl rfl HP.out]; exact HD.out)
                  clear HD HKN
                  -- bNB
                  go_wp2_with fail
                  go_quiet (fail)
                  go_wp2_with fail
                  go_roundw
                  case rel => exact ⟨i + 1, k, k + 1, c, g, by omega, by omega, by omega, by omega, by omega, by omega, by omega, by first | rfl | go_num, by first | rfl | go_num, by first | rfl | go_num, HC.out, own_drewN (hown.alloc _) _, HD2.out, below_drewN (balloc hB _) _⟩
                  case measure => simp [intOf]; omega

                | false =>
                  obtain ⟨d, hd⟩ : ∃ d, GbnMath.far R k c = d := ⟨_, rfl⟩
                  have hdb : d ≤ c := by rw [← hd]; exact Nat.le_trans (Nat.mod_le _ _) (by omega)
                  have hdk : k + d ≤ c := by rw [← hd]; unfold GbnMath.far; have := Nat.mod_le (c - k) R; omega
                  have hdI : (((c : Int) - (k : Int)).tmod (R : Int)) = (d : Int) := tmod_far (by omega) hd
                  have hdE : (((c : Int) - (k : Int)) % (R : Int)) = (d : Int) := emod_far (by omega) hd
                  have HDD := Lib.hid (show GbnMath.far R k g.length = d by rw [HC.out]; exact hd)
                  clear hd
                  by_cases hdw : d ≤ W
                  · have d1 : decide ((d : Int) ≤ (W : Int)) = true := decide_eq_true (by omega)
                    by_cases hdn : d ≤ n - k
                    · have d2 : decide ((d : Int) ≤ (n : Int) - (k : Int)) = true := decide_eq_true (by omega)
                      by_cases hmx : k + d ≤ k + 1
                      · have HD2 := Lib.hid (show GbnMath.run l W R (fs.drop (i + 1)) (k + d) (k + 1) (g) = (K, G) by
                          have h := GbnMath.run_fine (l := l) (W := W) (R := R) (fs := fs.drop (i + 1)) (f := ⟨false, false⟩) HKN.out HS.out rfl rfl HP.out HDD.out hdw (by rw [← HN.out]; exact hdn)
                          rw [Nat.max_eq_left hmx] at h
                          rw [← h]; exact HD.out)
                        have m1 : max ((k : Int) + 1) ((k : Int) + (d : Int)) = (k : Int) + 1 := by omega
                        clear HD HKN
                        -- bNA
                        go_wp2_with fail
                        go_quiet (fail)
                        go_wp2_with fail
                        go_roundw
                        case rel => exact ⟨i + 1, k + d, k + 1, c, g, by omega, by omega, by omega, by omega, by omega, by omega, by omega, by first | rfl | go_num, by first | rfl | go_num, by first | rfl | go_num, HC.out, own_drewN (hown.alloc _) _, HD2.out, below_drewN (balloc hB _) _⟩
                        case measure => simp [intOf]; omega
                      · have HD2 := Lib.hid (show GbnMath.run l W R (fs.drop (i + 1)) (k + d) (k + d) (g) = (K, G) by
                          have h := GbnMath.run_fine (l := l) (W := W) (R := R) (fs := fs.drop (i + 1)) (f := ⟨false, false⟩) HKN.out HS.out rfl rfl HP.out HDD.out hdw (by rw [← HN.out]; exact hdn)
                          rw [Nat.max_eq_right (by omega)] at h
                          rw [← h]; exact HD.out)
                        have m1 : max ((k : Int) + 1) ((k : Int) + (d : Int)) = (k : Int) + (d : Int) := by omega
                        clear HD HKN
                        -- bNB
                        go_wp2_with fail
                        go_quiet (fail)
                        go_wp2_with fail
                        go_roundw
                        case rel => exact ⟨i + 1, k + d, k + d, c, g, by omega, by omega, by omega, by omega, by omega, by omega, by omega, by first | rfl | go_num, by first | rfl | go_num, by first | rfl | go_num, HC.out, own_drewN (hown.alloc _) _, HD2.out, below_drewN (balloc hB _) _⟩
                        case measure => simp [intOf]; omega
                    · have d2 : decide ((d : Int) ≤ (n : Int) - (k : Int)) = false := decide_eq_false (by omega)
                      have HD2 := Lib.hid (show GbnMath.run l W R (fs.drop (i + 1)) k (k + 1) (g) = (K, G) by rw [← GbnMath.run_far (f := ⟨false, false⟩) HKN.out HS.out rfl rfl HP.out HDD.out (by rw [← HN.out]; omega)]; exact HD.out)
                      clear HD HKN hdn
                      -- bNC
                      go_wp2_with fail
                      go_quiet (fail)
                      go_wp2_with fail
                      go_roundw
                      case rel => exact ⟨i + 1, k, k + 1, c, g, by omega, by omega, by omega, by omega, by omega, by omega, by omega, by first | rfl | go_num, by first | rfl | go_num, by first | rfl | go_num, HC.out, own_drewN (hown.alloc _) _, HD2.out, below_drewN (balloc hB _) _⟩
                      case measure => simp [intOf]; omega
                  · have d1 : decide ((d : Int) ≤ (W : Int)) = false := decide_eq_false (by omega)
                    have HD2 := Lib.hid (show GbnMath.run l W R (fs.drop (i + 1)) k (k + 1) (g) = (K, G) by rw [← GbnMath.run_far (f := ⟨false, false⟩) HKN.out HS.out rfl rfl HP.out HDD.out (by omega)]; exact HD.out)
                    clear HD HKN
                    -- bND
                    go_wp2_with fail
                    go_quiet (fail)
                    go_wp2_with fail
                    go_roundw
                    case rel => exact ⟨i + 1, k, k + 1, c, g, by omega, by omega, by omega, by omega, by omega, by omega, by omega, by first | rfl | go_num, by first | rfl | go_num, by first | rfl | go_num, HC.out, own_drewN (hown.alloc _) _, HD2.out, below_drewN (balloc hB _) _⟩
                    case measure => simp [intOf]; omega

          · have a2 : ((nx : Int) == (n : Int)) = false := by rw [beq_eq_false_iff_ne]; omega
            have hs : GbnMath.sent n W k nx = nx := by unfold GbnMath.sent; rw [if_neg (by omega)]
            have hsn : nx < n := by omega
            have hsw : nx < k + W := by omega
            have HS := Lib.hid (show GbnMath.sent l.length W k nx = nx by rw [← HN.out]; exact hs)
            clear hs
            cases x1 with
            | true =>
              have HD2 := Lib.hid (show GbnMath.run l W R (fs.drop (i + 1)) k (nx + 1) g = (K, G) by rw [← GbnMath.run_lost (f := ⟨true, x2⟩) HKN.out HS.out rfl]; exact HD.out)
              clear HD HKN
              -- cL
              go_wp2_with fail
              go_roundw
              case rel => exact ⟨i + 1, k, nx + 1, c, g, by omega, by omega, by omega, by omega, by omega, hkc, by omega, rfl, by first | rfl | go_num, by first | rfl | go_num, HC.out, hown.alloc _, HD2.out, balloc hB _⟩
              case measure => simp [intOf]; omega

            | false =>
              obtain ⟨b1, off1, rfl, hb1w, hc1⟩ := HI.out.2.2.2 (by rw [← HN.out]; omega)
              have hd := hc1 nx (by rw [← HN.out]; exact hsn)
              have hxk := (hB.cell (p := ⟨b1, off1 + nx, none⟩) hb1w).trans hd
              have hxw := HI.out.2.2.1 nx
              obtain ⟨y, hy⟩ : ∃ y, l[nx]?.getD 0 = y := ⟨_, rfl⟩
              rw [hy] at hxk hxw
              have HY := Lib.hid hy
              clear hc1 hd hy
              by_cases hm : nx % R = c % R
              · have t1 := tmod_eq hm
                have t1e := emod_eq hm
                have HP := Lib.hid (show GbnMath.put l R nx g = g ++ [y] by rw [← HY.out]; exact GbnMath.put_yes (by rw [HC.out]; exact hm))
                have HL := Lib.hid (show (g ++ [y]).length = c + 1 by rw [List.length_append, HC.out]; rfl)
                clear hm
                cases x2 with
                | true =>
                  have HD2 := Lib.hid (show GbnMath.run l W R (fs.drop (i + 1)) k (nx + 1) (g ++ [y]) = (K, G) by rw [← GbnMath.run_back (f := ⟨false, true⟩) HKN.out HS.out rfl rfl HP.out]; exact HD.out)
                  clear HD HKN
                  -- cYB
                  have FB : ∀ (nq : Nat) (v : Value) (wa : World), OwnI wr w1.heap.size v g → (((wr.alloc (.cells #[.bool false, .bool true] 32)).drewN nq).alloc (.cells #[.int .i64 y] 3)).grownBy wa v.ownBlock → wa.cell? ⟨wr.heap.size, 1, none⟩ = some (.bool true) := fun nq v wa ho hg => by
                    have hk := hg.block wr.heap.size (by simp; omega) (fun h => by have := (ho.lt _ h.symm).2; omega)
                    refine (World.cell?_of_block (w := ((wr.alloc (.cells #[.bool false, .bool true] 32)).drewN nq).alloc (.cells #[.int .i64 y] 3)) (a := ⟨wr.heap.size, 1, none⟩) hk).trans ?_
                    have h1 : (((wr.alloc (.cells #[.bool false, .bool true] 32)).drewN nq).alloc (.cells #[.int .i64 y] 3)).heap[wr.heap.size]? = some (.cells #[.bool false, .bool true] 32) := by
                      show (((wr.heap.push _).push _))[wr.heap.size]? = _
                      rw [Array.getElem?_push_lt (by simp), Array.getElem_push_eq]
                    unfold World.cell?
                    rw [h1]; rfl
                  have FBh := Lib.hid FB
                  clear FB
                  have hxa : (wr.alloc (.cells #[.bool false, .bool true] 32)).cell? ⟨b1, off1 + nx, none⟩ = some (.int .i64 y) := ((brefl wr).alloc (Nat.le_refl _) _ |>.cell (p := ⟨b1, off1 + nx, none⟩) (Nat.lt_of_lt_of_le hb1w hBs)).trans hxk
                  go_wp2_with fail
                  go_quiet (fail)
                  go_wp2_with (at_builtin
                               refine wp_app rfl (.tmp 60) (.tmp 65) rfl w1.heap.size _ g (some ⟨wr.heap.size + 1, 0, none⟩) 1 1 [y] rfl ((own_drewN (hown.alloc _) _).alloc _) rfl rfl (by
                                 have q := Ints.one ((wr.alloc (.cells #[.bool false, .bool true] 32)).drewN nq) y hxw
                                 rw [World.heap_drewN, aszG] at q
                                 exact q) (by rw [List.length_singleton, HC.out]; omega) (Nat.le_trans hBs (by simp; omega)) ?_
                               intro v1 wa hown1 hg1 hat1
                               have hb1 : Below w1.heap.size w1 wa := below_app (balloc (below_drewN (balloc hB _) _) _) ((own_drewN (hown.alloc _) _).alloc _) hg1 (Nat.le_trans hBs (by simp; omega))
                               have f2 : wa.cell? ⟨wr.heap.size, 1, none⟩ = some (.bool true) := FBh.out _ _ wa hown hg1
                               clear hat1 hg1
                               obtain ⟨vp1, vc1, rfl, hvi1⟩ := hown1.form
                               rw [HL.out] at hown1 ⊢
                               clear hvi1)
                  go_roundw
                  case rel => exact ⟨i + 1, k, nx + 1, c + 1, g ++ [y], by omega, by omega, by omega, by omega, by omega, by omega, by omega, by first | rfl | go_num, by first | rfl | go_num, by first | rfl | go_num, HL.out, hown1, HD2.out, hb1⟩
                  case measure => simp [intOf]; omega

                | false =>
                  obtain ⟨d, hd⟩ : ∃ d, GbnMath.far R k (c + 1) = d := ⟨_, rfl⟩
                  have hdb : d ≤ c + 1 := by rw [← hd]; exact Nat.le_trans (Nat.mod_le _ _) (by omega)
                  have hdk : k + d ≤ c + 1 := by rw [← hd]; unfold GbnMath.far; have := Nat.mod_le (c + 1 - k) R; omega
                  have hdI : (((c : Int) + 1 - (k : Int)).tmod (R : Int)) = (d : Int) := tmod_far (by omega) hd
                  have hdE : (((c : Int) + 1 - (k : Int)) % (R : Int)) = (d : Int) := emod_far (by omega) hd
                  have HDD := Lib.hid (show GbnMath.far R k (g ++ [y]).length = d by rw [HL.out]; exact hd)
                  clear hd
                  by_cases hdw : d ≤ W
                  · have d1 : decide ((d : Int) ≤ (W : Int)) = true := decide_eq_true (by omega)
                    by_cases hdn : d ≤ n - k
                    · have d2 : decide ((d : Int) ≤ (n : Int) - (k : Int)) = true := decide_eq_true (by omega)
                      by_cases hmx : k + d ≤ nx + 1
                      · have HD2 := Lib.hid (show GbnMath.run l W R (fs.drop (i + 1)) (k + d) (nx + 1) (g ++ [y]) = (K, G) by
                          have h := GbnMath.run_fine (l := l) (W := W) (R := R) (fs := fs.drop (i + 1)) (f := ⟨false, false⟩) HKN.out HS.out rfl rfl HP.out HDD.out hdw (by rw [← HN.out]; exact hdn)
                          rw [Nat.max_eq_left hmx] at h
                          rw [← h]; exact HD.out)
                        have m1 : max ((nx : Int) + 1) ((k : Int) + (d : Int)) = (nx : Int) + 1 := by omega
                        clear HD HKN
                        -- cYA
                        have FB : ∀ (nq : Nat) (v : Value) (wa : World), OwnI wr w1.heap.size v g → (((wr.alloc (.cells #[.bool false, .bool false] 32)).drewN nq).alloc (.cells #[.int .i64 y] 3)).grownBy wa v.ownBlock → wa.cell? ⟨wr.heap.size, 1, none⟩ = some (.bool false) := fun nq v wa ho hg => by
                          have hk := hg.block wr.heap.size (by simp; omega) (fun h => by have := (ho.lt _ h.symm).2; omega)
                          refine (World.cell?_of_block (w := ((wr.alloc (.cells #[.bool false, .bool false] 32)).drewN nq).alloc (.cells #[.int .i64 y] 3)) (a := ⟨wr.heap.size, 1, none⟩) hk).trans ?_
                          have h1 : (((wr.alloc (.cells #[.bool false, .bool false] 32)).drewN nq).alloc (.cells #[.int .i64 y] 3)).heap[wr.heap.size]? = some (.cells #[.bool false, .bool false] 32) := by
                            show (((wr.heap.push _).push _))[wr.heap.size]? = _
                            rw [Array.getElem?_push_lt (by simp), Array.getElem_push_eq]
                          unfold World.cell?
                          rw [h1]; rfl
                        have FBh := Lib.hid FB
                        clear FB
                        have hxa : (wr.alloc (.cells #[.bool false, .bool false] 32)).cell? ⟨b1, off1 + nx, none⟩ = some (.int .i64 y) := ((brefl wr).alloc (Nat.le_refl _) _ |>.cell (p := ⟨b1, off1 + nx, none⟩) (Nat.lt_of_lt_of_le hb1w hBs)).trans hxk
                        go_wp2_with fail
                        go_quiet (fail)
                        go_wp2_with (at_builtin
                                     refine wp_app rfl (.tmp 60) (.tmp 65) rfl w1.heap.size _ g (some ⟨wr.heap.size + 1, 0, none⟩) 1 1 [y] rfl ((own_drewN (hown.alloc _) _).alloc _) rfl rfl (by
                                       have q := Ints.one ((wr.alloc (.cells #[.bool false, .bool false] 32)).drewN nq) y hxw
                                       rw [World.heap_drewN, aszG] at q
                                       exact q) (by rw [List.length_singleton, HC.out]; omega) (Nat.le_trans hBs (by simp; omega)) ?_
                                     intro v1 wa hown1 hg1 hat1
                                     have hb1 : Below w1.heap.size w1 wa := below_app (balloc (below_drewN (balloc hB _) _) _) ((own_drewN (hown.alloc _) _).alloc _) hg1 (Nat.le_trans hBs (by simp; omega))
                                     have f2 : wa.cell? ⟨wr.heap.size, 1, none⟩ = some (.bool false) := FBh.out _ _ wa hown hg1
                                     clear hat1 hg1
                                     obtain ⟨vp1, vc1, rfl, hvi1⟩ := hown1.form
                                     rw [HL.out] at hown1 ⊢
                                     clear hvi1)
                        go_roundw
                        case rel => exact ⟨i + 1, k + d, nx + 1, c + 1, g ++ [y], by omega, by omega, by omega, by omega, by omega, by omega, by omega, by first | rfl | go_num, by first | rfl | go_num, by first | rfl | go_num, HL.out, hown1, HD2.out, hb1⟩
                        case measure => simp [intOf]; omega
                      · have HD2 := Lib.hid (show GbnMath.run l W R (fs.drop (i + 1)) (k + d) (k + d) (g ++ [y]) = (K, G) by
                          have h := GbnMath.run_fine (l := l) (W := W) (R := R) (fs := fs.drop (i + 1)) (f := ⟨false, false⟩) HKN.out HS.out rfl rfl HP.out HDD.out hdw (by rw [← HN.out]; exact hdn)
                          rw [Nat.max_eq_right (by omega)] at h
                          rw [← h]; exact HD.out)
                        have m1 : max ((nx : Int) + 1) ((k : Int) + (d : Int)) = (k : Int) + (d : Int) := by omega
                        clear HD HKN
                        -- cYB
                        have FB : ∀ (nq : Nat) (v : Value) (wa : World), OwnI wr w1.heap.size v g → (((wr.alloc (.cells #[.bool false, .bool false] 32)).drewN nq).alloc (.cells #[.int .i64 y] 3)).grownBy wa v.ownBlock → wa.cell? ⟨wr.heap.size, 1, none⟩ = some (.bool false) := fun nq v wa ho hg => by
                          have hk := hg.block wr.heap.size (by simp; omega) (fun h => by have := (ho.lt _ h.symm).2; omega)
                          refine (World.cell?_of_block (w := ((wr.alloc (.cells #[.bool false, .bool false] 32)).drewN nq).alloc (.cells #[.int .i64 y] 3)) (a := ⟨wr.heap.size, 1, none⟩) hk).trans ?_
                          have h1 : (((wr.alloc (.cells #[.bool false, .bool false] 32)).drewN nq).alloc (.cells #[.int .i64 y] 3)).heap[wr.heap.size]? = some (.cells #[.bool false, .bool false] 32) := by
                            show (((wr.heap.push _).push _))[wr.heap.size]? = _
                            rw [Array.getElem?_push_lt (by simp), Array.getElem_push_eq]
                          unfold World.cell?
                          rw [h1]; rfl
                        have FBh := Lib.hid FB
                        clear FB
                        have hxa : (wr.alloc (.cells #[.bool false, .bool false] 32)).cell? ⟨b1, off1 + nx, none⟩ = some (.int .i64 y) := ((brefl wr).alloc (Nat.le_refl _) _ |>.cell (p := ⟨b1, off1 + nx, none⟩) (Nat.lt_of_lt_of_le hb1w hBs)).trans hxk
                        go_wp2_with fail
                        go_quiet (fail)
                        go_wp2_with (at_builtin
                                     refine wp_app rfl (.tmp 60) (.tmp 65) rfl w1.heap.size _ g (some ⟨wr.heap.size + 1, 0, none⟩) 1 1 [y] rfl ((own_drewN (hown.alloc _) _).alloc _) rfl rfl (by
                                       have q := Ints.one ((wr.alloc (.cells #[.bool false, .bool false] 32)).drewN nq) y hxw
                                       rw [World.heap_drewN, aszG] at q
                                       exact q) (by rw [List.length_singleton, HC.out]; omega) (Nat.le_trans hBs (by simp; omega)) ?_
                                     intro v1 wa hown1 hg1 hat1
                                     have hb1 : Below w1.heap.size w1 wa := below_app (balloc (below_drewN (balloc hB _) _) _) ((own_drewN (hown.alloc _) _).alloc _) hg1 (Nat.le_trans hBs (by simp; omega))
                                     have f2 : wa.cell? ⟨wr.heap.size, 1, none⟩ = some (.bool false) := FBh.out _ _ wa hown hg1
                                     clear hat1 hg1
                                     obtain ⟨vp1, vc1, rfl, hvi1⟩ := hown1.form
                                     rw [HL.out] at hown1 ⊢
                                     clear hvi1)
                        go_roundw
                        case rel => exact ⟨i + 1, k + d, k + d, c + 1, g ++ [y], by omega, by omega, by omega, by omega, by omega, by omega, by omega, by first | rfl | go_num, by first | rfl | go_num, by first | rfl | go_num, HL.out, hown1, HD2.out, hb1⟩
                        case measure => simp [intOf]; omega
                    · have d2 : decide ((d : Int) ≤ (n : Int) - (k : Int)) = false := decide_eq_false (by omega)
                      have HD2 := Lib.hid (show GbnMath.run l W R (fs.drop (i + 1)) k (nx + 1) (g ++ [y]) = (K, G) by rw [← GbnMath.run_far (f := ⟨false, false⟩) HKN.out HS.out rfl rfl HP.out HDD.out (by rw [← HN.out]; omega)]; exact HD.out)
                      clear HD HKN hdn
                      -- cYC
                      have FB : ∀ (nq : Nat) (v : Value) (wa : World), OwnI wr w1.heap.size v g → (((wr.alloc (.cells #[.bool false, .bool false] 32)).drewN nq).alloc (.cells #[.int .i64 y] 3)).grownBy wa v.ownBlock → wa.cell? ⟨wr.heap.size, 1, none⟩ = some (.bool false) := fun nq v wa ho hg => by
                        have hk := hg.block wr.heap.size (by simp; omega) (fun h => by have := (ho.lt _ h.symm).2; omega)
                        refine (World.cell?_of_block (w := ((wr.alloc (.cells #[.bool false, .bool false] 32)).drewN nq).alloc (.cells #[.int .i64 y] 3)) (a := ⟨wr.heap.size, 1, none⟩) hk).trans ?_
                        have h1 : (((wr.alloc (.cells #[.bool false, .bool false] 32)).drewN nq).alloc (.cells #[.int .i64 y] 3)).heap[wr.heap.size]? = some (.cells #[.bool false, .bool false] 32) := by
                          show (((wr.heap.push _).push _))[wr.heap.size]? = _
                          rw [Array.getElem?_push_lt (by simp), Array.getElem_push_eq]
                        unfold World.cell?
                        rw [h1]; rfl
                      have FBh := Lib.hid FB
                      clear FB
                      have hxa : (wr.alloc (.cells #[.bool false, .bool false] 32)).cell? ⟨b1, off1 + nx, none⟩ = some (.int .i64 y) := ((brefl wr).alloc (Nat.le_refl _) _ |>.cell (p := ⟨b1, off1 + nx, none⟩) (Nat.lt_of_lt_of_le hb1w hBs)).trans hxk
                      go_wp2_with fail
                      go_quiet (fail)
                      go_wp2_with (at_builtin
                                   refine wp_app rfl (.tmp 60) (.tmp 65) rfl w1.heap.size _ g (some ⟨wr.heap.size + 1, 0, none⟩) 1 1 [y] rfl ((own_drewN (hown.alloc _) _).alloc _) rfl rfl (by
                                     have q := Ints.one ((wr.alloc (.cells #[.bool false, .bool false] 32)).drewN nq) y hxw
                                     rw [World.heap_drewN, aszG] at q
                                     exact q) (by rw [List.length_singleton, HC.out]; omega) (Nat.le_trans hBs (by simp; omega)) ?_
                                   intro v1 wa hown1 hg1 hat1
                                   have hb1 : Below w1.heap.size w1 wa := below_app (balloc (below_drewN (balloc hB _) _) _) ((own_drewN (hown.alloc _) _).alloc _) hg1 (Nat.le_trans hBs (by simp; omega))
                                   have f2 : wa.cell? ⟨wr.heap.size, 1, none⟩ = some (.bool false) := FBh.out _ _ wa hown hg1
                                   clear hat1 hg1
                                   obtain ⟨vp1, vc1, rfl, hvi1⟩ := hown1.form
                                   rw [HL.out] at hown1 ⊢
                                   clear hvi1)
                      go_roundw
                      case rel => exact ⟨i + 1, k, nx + 1, c + 1, g ++ [y], by omega, by omega, by omega, by omega, by omega, by omega, by omega, by first | rfl | go_num, by first | rfl | go_num, by first | rfl | go_num, HL.out, hown1, HD2.out, hb1⟩
                      case measure => simp [intOf]; omega
                  · have d1 : decide ((d : Int) ≤ (W : Int)) = false := decide_eq_false (by omega)
                    have HD2 := Lib.hid (show GbnMath.run l W R (fs.drop (i + 1)) k (nx + 1) (g ++ [y]) = (K, G) by rw [← GbnMath.run_far (f := ⟨false, false⟩) HKN.out HS.out rfl rfl HP.out HDD.out (by omega)]; exact HD.out)
                    clear HD HKN
                    -- cYD
                    have FB : ∀ (nq : Nat) (v : Value) (wa : World), OwnI wr w1.heap.size v g → (((wr.alloc (.cells #[.bool false, .bool false] 32)).drewN nq).alloc (.cells #[.int .i64 y] 3)).grownBy wa v.ownBlock → wa.cell? ⟨wr.heap.size, 1, none⟩ = some (.bool false) := fun nq v wa ho hg => by
                      have hk := hg.block wr.heap.size (by simp; omega) (fun h => by have := (ho.lt _ h.symm).2; omega)
                      refine (World.cell?_of_block (w := ((wr.alloc (.cells #[.bool false, .bool false] 32)).drewN nq).alloc (.cells #[.int .i64 y] 3)) (a := ⟨wr.heap.size, 1, none⟩) hk).trans ?_
                      have h1 : (((wr.alloc (.cells #[.bool false, .bool false] 32)).drewN nq).alloc (.cells #[.int .i64 y] 3)).heap[wr.heap.size]? = some (.cells #[.bool false, .bool false] 32) := by
                        show (((wr.heap.push _).push _))[wr.heap.size]? = _
                        rw [Array.getElem?_push_lt (by simp), Array.getElem_push_eq]
                      unfold World.cell?
                      rw [h1]; rfl
                    have FBh := Lib.hid FB
                    clear FB
                    have hxa : (wr.alloc (.cells #[.bool false, .bool false] 32)).cell? ⟨b1, off1 + nx, none⟩ = some (.int .i64 y) := ((brefl wr).alloc (Nat.le_refl _) _ |>.cell (p := ⟨b1, off1 + nx, none⟩) (Nat.lt_of_lt_of_le hb1w hBs)).trans hxk
                    go_wp2_with fail
                    go_quiet (fail)
                    go_wp2_with (at_builtin
                                 refine wp_app rfl (.tmp 60) (.tmp 65) rfl w1.heap.size _ g (some ⟨wr.heap.size + 1, 0, none⟩) 1 1 [y] rfl ((own_drewN (hown.alloc _) _).alloc _) rfl rfl (by
                                   have q := Ints.one ((wr.alloc (.cells #[.bool false, .bool false] 32)).drewN nq) y hxw
                                   rw [World.heap_drewN, aszG] at q
                                   exact q) (by rw [List.length_singleton, HC.out]; omega) (Nat.le_trans hBs (by simp; omega)) ?_
                                 intro v1 wa hown1 hg1 hat1
                                 have hb1 : Below w1.heap.size w1 wa := below_app (balloc (below_drewN (balloc hB _) _) _) ((own_drewN (hown.alloc _) _).alloc _) hg1 (Nat.le_trans hBs (by simp; omega))
                                 have f2 : wa.cell? ⟨wr.heap.size, 1, none⟩ = some (.bool false) := FBh.out _ _ wa hown hg1
                                 clear hat1 hg1
                                 obtain ⟨vp1, vc1, rfl, hvi1⟩ := hown1.form
                                 rw [HL.out] at hown1 ⊢
                                 clear hvi1)
                    go_roundw
                    case rel => exact ⟨i + 1, k, nx + 1, c + 1, g ++ [y], by omega, by omega, by omega, by omega, by omega, by omega, by omega, by first | rfl | go_num, by first | rfl | go_num, by first | rfl | go_num, HL.out, hown1, HD2.out, hb1⟩
                    case measure => simp [intOf]; omega

              · have t1 := tmod_ne hm
                have t1e := emod_ne hm
                have HP := Lib.hid (show GbnMath.put l R nx g = g from GbnMath.put_no (by rw [HC.out]; exact hm))
                clear hm hxk hxw HY
                cases x2 with
                | true =>
                  have HD2 := Lib.hid (show GbnMath.run l W R (fs.drop (i + 1)) k (nx + 1) g = (K, G) by rw [← GbnMath.run_back (f := ⟨false, true⟩) HKN.out HS.out rfl rfl HP.out]; exact HD.out)
                  clear HD HKN
                  -- cNB
                  go_wp2_with fail
                  go_quiet (fail)
                  go_wp2_with fail
                  go_roundw
                  case rel => exact ⟨i + 1, k, nx + 1, c, g, by omega, by omega, by omega, by omega, by omega, by omega, by omega, by first | rfl | go_num, by first | rfl | go_num, by first | rfl | go_num, HC.out, own_drewN (hown.alloc _) _, HD2.out, below_drewN (balloc hB _) _⟩
                  case measure => simp [intOf]; omega

                | false =>
                  obtain ⟨d, hd⟩ : ∃ d, GbnMath.far R k c = d := ⟨_, rfl⟩
                  have hdb : d ≤ c := by rw [← hd]; exact Nat.le_trans (Nat.mod_le _ _) (by omega)
                  have hdk : k + d ≤ c := by rw [← hd]; unfold GbnMath.far; have := Nat.mod_le (c - k) R; omega
                  have hdI : (((c : Int) - (k : Int)).tmod (R : Int)) = (d : Int) := tmod_far (by omega) hd
                  have hdE : (((c : Int) - (k : Int)) % (R : Int)) = (d : Int) := emod_far (by omega) hd
                  have HDD := Lib.hid (show GbnMath.far R k g.length = d by rw [HC.out]; exact hd)
                  clear hd
                  by_cases hdw : d ≤ W
                  · have d1 : decide ((d : Int) ≤ (W : Int)) = true := decide_eq_true (by omega)
                    by_cases hdn : d ≤ n - k
                    · have d2 : decide ((d : Int) ≤ (n : Int) - (k : Int)) = true := decide_eq_true (by omega)
                      by_cases hmx : k + d ≤ nx + 1
                      · have HD2 := Lib.hid (show GbnMath.run l W R (fs.drop (i + 1)) (k + d) (nx + 1) (g) = (K, G) by
                          have h := GbnMath.run_fine (l := l) (W := W) (R := R) (fs := fs.drop (i + 1)) (f := ⟨false, false⟩) HKN.out HS.out rfl rfl HP.out HDD.out hdw (by rw [← HN.out]; exact hdn)
                          rw [Nat.max_eq_left hmx] at h
                          rw [← h]; exact HD.out)
                        have m1 : max ((nx : Int) + 1) ((k : Int) + (d : Int)) = (nx : Int) + 1 := by omega
                        clear HD HKN
                        -- cNA
                        go_wp2_with fail
                        go_quiet (fail)
                        go_wp2_with fail
                        go_roundw
                        case rel => exact ⟨i + 1, k + d, nx + 1, c, g, by omega, by omega, by omega, by omega, by omega, by omega, by omega, by first | rfl | go_num, by first | rfl | go_num, by first | rfl | go_num, HC.out, own_drewN (hown.alloc _) _, HD2.out, below_drewN (balloc hB _) _⟩
                        case measure => simp [intOf]; omega
                      · have HD2 := Lib.hid (show GbnMath.run l W R (fs.drop (i + 1)) (k + d) (k + d) (g) = (K, G) by
                          have h := GbnMath.run_fine (l := l) (W := W) (R := R) (fs := fs.drop (i + 1)) (f := ⟨false, false⟩) HKN.out HS.out rfl rfl HP.out HDD.out hdw (by rw [← HN.out]; exact hdn)
                          rw [Nat.max_eq_right (by omega)] at h
                          rw [← h]; exact HD.out)
                        have m1 : max ((nx : Int) + 1) ((k : Int) + (d : Int)) = (k : Int) + (d : Int) := by omega
                        clear HD HKN
                        -- cNB
                        go_wp2_with fail
                        go_quiet (fail)
                        go_wp2_with fail
                        go_roundw
                        case rel => exact ⟨i + 1, k + d, k + d, c, g, by omega, by omega, by omega, by omega, by omega, by omega, by omega, by first | rfl | go_num, by first | rfl | go_num, by first | rfl | go_num, HC.out, own_drewN (hown.alloc _) _, HD2.out, below_drewN (balloc hB _) _⟩
                        case measure => simp [intOf]; omega
                    · have d2 : decide ((d : Int) ≤ (n : Int) - (k : Int)) = false := decide_eq_false (by omega)
                      have HD2 := Lib.hid (show GbnMath.run l W R (fs.drop (i + 1)) k (nx + 1) (g) = (K, G) by rw [← GbnMath.run_far (f := ⟨false, false⟩) HKN.out HS.out rfl rfl HP.out HDD.out (by rw [← HN.out]; omega)]; exact HD.out)
                      clear HD HKN hdn
                      -- cNC
                      go_wp2_with fail
                      go_quiet (fail)
                      go_wp2_with fail
                      go_roundw
                      case rel => exact ⟨i + 1, k, nx + 1, c, g, by omega, by omega, by omega, by omega, by omega, by omega, by omega, by first | rfl | go_num, by first | rfl | go_num, by first | rfl | go_num, HC.out, own_drewN (hown.alloc _) _, HD2.out, below_drewN (balloc hB _) _⟩
                      case measure => simp [intOf]; omega
                  · have d1 : decide ((d : Int) ≤ (W : Int)) = false := decide_eq_false (by omega)
                    have HD2 := Lib.hid (show GbnMath.run l W R (fs.drop (i + 1)) k (nx + 1) (g) = (K, G) by rw [← GbnMath.run_far (f := ⟨false, false⟩) HKN.out HS.out rfl rfl HP.out HDD.out (by omega)]; exact HD.out)
                    clear HD HKN
                    -- cND
                    go_wp2_with fail
                    go_quiet (fail)
                    go_wp2_with fail
                    go_roundw
                    case rel => exact ⟨i + 1, k, nx + 1, c, g, by omega, by omega, by omega, by omega, by omega, by omega, by omega, by first | rfl | go_num, by first | rfl | go_num, by first | rfl | go_num, HC.out, own_drewN (hown.alloc _) _, HD2.out, below_drewN (balloc hB _) _⟩
                    case measure => simp [intOf]; omega

    · obtain rfl : i = m := by omega
      have HE := Lib.hid (show (k, g) = (K, G) by
        have := HRUN.out
        rw [List.drop_eq_nil_of_le (by rw [HM.out]; exact Nat.le_refl _)] at this
        exact this)
      clear HRUN
      have HOW := Lib.hid hown
      clear hown
      go_wp2_with fail
      go_ret3
      refine ⟨_, by rw [← (Prod.mk.inj HE.out).1]; rfl, ?_, hB⟩
      rw [← (Prod.mk.inj HE.out).2]; exact HOW.out
end Go.Proofs.Ythiebkkfgegebaa.Gbn
