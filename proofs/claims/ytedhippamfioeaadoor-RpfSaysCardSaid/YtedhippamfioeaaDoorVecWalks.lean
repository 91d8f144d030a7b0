/- The document's answer on distances: Walks, Far. No statement is proved here. -/
import Derived.Test.YtedhippamfioeaaDoorVecCost
import Derived.Test.YtedhippamfioeaaDoorRw1
import Derived.Test.YtedhippamfioeaaDoorOwnI
import Derived.Test.YtedhippamfioeaaDoorBlk
namespace Go.Proofs.YtedhippamfioeaaDoor.Vector
open Go.ChangeShapes Go.WideShapes Go.ChangeAt Go.RowKit Go.Proofs.YtedhippamfioeaaDoor.Kit Go.Proofs.YtedhippamfioeaaDoor.App Go.Proofs.YtedhippamfioeaaDoor.Cells Go.Proofs.YtedhippamfioeaaDoor.Err
set_option linter.unusedVariables false
set_option maxRecDepth 20000
set_option maxHeartbeats 2000000

theorem own_block {w : World} {base n c : Nat} {q : Option Addr} {l : List Int} (h : OwnI w base (.slice q n c) l) : ∀ a, q = some a → base ≤ a.block := fun a ha => by
  subst ha
  exact (h.lt a.block rfl).1
theorem rwalks_any (n t s : Nat) (p : Option Addr) (cap m : Nat) (ls : List Lk) (w : World) (g : Good n ls) (hm : m = ls.length) (hi : CI layL w p cap ls) (ht : t < n) (hs : s ≤ 100) :
    Calls Tryd.prog 27 #[.int .i64 (n : Int), .slice p m cap, .int .i64 (t : Int), .int .i64 (s : Int)] w fun e w' => ∃ q c, e = .returned (.slice q n c) ∧ Ints w' q c (rw1 n (D ls s t)) ∧ (∀ a, q = some a → w.heap.size ≤ a.block) ∧ Below w.heap.size w w' := by
  have hlen := hi.len_le
  rw [← hm] at hlen
  have hn8 := g.up
  have HG := Lib.hid g
  have HM := Lib.hid hm
  have HI := Lib.hid hi
  have HO0 : Hid (OwnI w w.heap.size (.slice none 0 0) ((rw1 n fun _ => 1000).take 0)) := Lib.hid (OwnI.nil _ _)
  clear g hm hi
  go_enter Tryd.func27, Tryd.ntmps27
  go_wp2_with fail
  go_loopw [9, 10] (fun ov kv wr => ∃ k : Nat, k ≤ n ∧ kv = .int .i64 k ∧ Hid (OwnI wr w.heap.size ov ((rw1 n fun _ => 1000).take k)) ∧ Hid (Below w.heap.size w wr)) (fun _ k _ => n - (intOf k).toNat)
  case atStart => exact ⟨0, Nat.zero_le _, rfl, HO0, Lib.hid (brefl _)⟩
  case round =>
    obtain ⟨k, hk, rfl, HO, HB⟩ := hrel
    clear HO0
    by_cases hlt : k < n
    · have v0 : decide ((k : Int) < (n : Int)) = true := decide_eq_true (by omega)
      have HTK := Lib.hid (rw1_take (f := fun _ => 1000) hlt)
      have HLN := Lib.hid (rw1_tlen (f := fun _ => 1000) hk)
      have hsz := HB.out.size
      obtain ⟨pe, ce, hev, _⟩ := HO.out.form
      rw [HLN.out] at hev
      subst hev
      go_wp2_with (at_builtin
                   refine wp_app rfl (.tmp 21) (.tmp 22) rfl w.heap.size _ ((rw1 n fun _ => 1000).take k) (some ⟨wr.heap.size, 0, none⟩) 1 1 [1000] rfl (HO.out.alloc _) rfl rfl (Ints.one wr 1000 (by decide)) (by rw [HLN.out, List.length_singleton]; omega) (Nat.le_trans hsz (by simp)) ?_
                   intro v8 w8 hown8 hg8 hat8
                   have HO8 := Lib.hid (show OwnI w8 w.heap.size v8 ((rw1 n fun _ => 1000).take (k + 1)) by rw [HTK.out]; exact hown8)
                   have HB8 := Lib.hid (show Below w.heap.size w w8 from below_one HB.out hsz _ HO.out hg8)
                   clear hown8 hg8 hat8)
      go_roundw
      case rel => exact ⟨k + 1, by omega, by first | rfl | go_num, HO8, HB8⟩
      case measure => simp [intOf]; omega
    · obtain rfl : k = n := by omega
      have v0 : decide ((k : Int) < (k : Int)) = false := decide_eq_false (by omega)
      have ho := HO.out
      rw [rw1_full] at ho
      obtain ⟨gb, gc, rfl, hgb, hgl, _, _⟩ := own_pos ho (by rw [rw1_len]; omega)
      rw [rw1_len] at ho
      have c0 := own_cell ho t (by rw [rw1_len]; exact ht)
      rw [rw1_get _ _ ht] at c0
      have f0 := own_fz ho t
      have hsetI := own_set ho t 0 (by decide)
      rw [rw1_set] at hsetI
      have HST := Lib.hid (show Ints (wr.setCell ⟨gb, t, none⟩ (.int .i64 0)) (some ⟨gb, 0, none⟩) gc (rw1 k (D ls 0 t)) by
        obtain ⟨_, _, e1, i1⟩ := hsetI.form
        injection e1 with e1 e2 e3
        subst e1; subst e3
        rwa [show (rw1 k fun j => if j = t then (0 : Int) else 1000) = rw1 k (D ls 0 t) from rw1_congr fun j _ => by
          show _ = un t j
          unfold un
          by_cases e : j = t
          · rw [if_pos e, if_pos e.symm]
          · rw [if_neg e, if_neg (fun h => e h.symm)]] at i1)
      have HBS := Lib.hid (show Below w.heap.size w (wr.setCell ⟨gb, t, none⟩ (.int .i64 0)) from below_set HB.out gb t _ hgb)
      have ht' : (t : Int) < (k : Int) := by omega
      have HGB := Lib.hid (show ∀ a, some (⟨gb, 0, none⟩ : Addr) = some a → w.heap.size ≤ a.block from fun a ha => by injection ha with ha; rw [← ha]; exact hgb)
      rw [rw1_len]
      clear hsetI ho HO hgb hgl
      go_wp2_with fail
      clear c0 f0
      generalize wr.setCell ⟨gb, t, none⟩ (.int .i64 0) = w2 at HST HBS ⊢
      clear HB v0
      go_loopw [9, 11] (fun ov rv wr => ∃ (r : Nat) (q : Option Addr) (c : Nat), r ≤ s ∧ rv = .int .i64 r ∧ ov = .slice q k c ∧ Hid (Ints wr q c (rw1 k (D ls r t))) ∧ Hid (∀ a, q = some a → w.heap.size ≤ a.block) ∧ Hid (Below w.heap.size w wr)) (fun _ r _ => s - (intOf r).toNat)
      case atStart => exact ⟨0, _, _, Nat.zero_le _, rfl, rfl, HST, HGB, HBS⟩
      case round =>
        obtain ⟨r, q, c, hr, rfl, rfl, HT, HA, HB⟩ := hrel
        clear HST HBS HGB
        by_cases hrs : r < s
        · have v0 : decide ((r : Int) < (s : Int)) = true := decide_eq_true (by omega)
          obtain ⟨w3, hw3⟩ : ∃ z, z = wr := ⟨wr, rfl⟩
          rw [← hw3] at HT HB ⊢
          clear hw3 wr
          obtain ⟨b, off, rfl, hb, hc⟩ := HT.out.2.2.2 (by rw [rw1_len]; omega)
          have HC := Lib.hid (fun W (hW : Below w3.heap.size w3 W) j (hj : j < k) => (show W.cell? ⟨b, off + j, none⟩ = some (.int .i64 (D ls r j t)) from by
            rw [(hW.cell (p := ⟨b, off + j, none⟩) hb), hc j (by rw [rw1_len]; exact hj), rw1_get _ _ hj, D_sym HG.out]))
          have HN0 : Hid (OwnI w3 w3.heap.size (.slice none 0 0) ((rw1 k (D ls (r + 1) t)).take 0)) := Lib.hid (OwnI.nil _ _)
          clear hb hc
          go_wp2_with fail
          go_loopw [12, 13] (fun ov iv wr => ∃ i : Nat, i ≤ k ∧ iv = .int .i64 i ∧ Hid (OwnI wr w3.heap.size ov ((rw1 k (D ls (r + 1) t)).take i)) ∧ Hid (Below w3.heap.size w3 wr)) (fun _ i _ => k - (intOf i).toNat)
          case atStart => exact ⟨0, Nat.zero_le _, rfl, HN0, Lib.hid (brefl _)⟩
          case round =>
            obtain ⟨i, hi, rfl, HO, HB3⟩ := hrel
            clear HN0
            by_cases hik : i < k
            · have v1 : decide ((i : Int) < (k : Int)) = true := decide_eq_true (by omega)
              have v1' : (i : Int) < (k : Int) := by omega
              have c0 := HC.out wr HB3.out i hik
              obtain ⟨w4, hw4⟩ : ∃ z, z = wr := ⟨wr, rfl⟩
              rw [← hw4] at HO HB3 c0 ⊢
              clear hw4 wr
              have HS0 : Hid (D ls r i t = bst ls (fun x => D ls r x t) i 0) := Lib.hid rfl
              generalize D ls r i t = d0 at c0 HS0
              go_wp2_with fail
              clear c0
              go_loopw [14, 15] (fun dv jv wr => ∃ (j : Nat) (d : Int), j ≤ k ∧ jv = .int .i64 j ∧ dv = .int .i64 d ∧ Hid (d = bst ls (fun x => D ls r x t) i j) ∧ Hid (∃ q, wr = w4.drewN q)) (fun _ j _ => k - (intOf j).toNat)
              case atStart => exact ⟨0, d0, Nat.zero_le _, rfl, rfl, HS0, Lib.hid ⟨0, rfl⟩⟩
              case round =>
                obtain ⟨j, d, hj, rfl, rfl, HD, HQ⟩ := hrel
                clear HS0
                by_cases hjk : j < k
                · have v2 : decide ((j : Int) < (k : Int)) = true := decide_eq_true (by omega)
                  have v2' : (j : Int) < (k : Int) := by omega
                  have HW := Lib.hid (fun q => (show ∃ q2, wr.drewN q = w4.drewN q2 from by obtain ⟨q1, h⟩ := HQ.out; exact ⟨q1 + q, by rw [h, World.drewN_drewN]⟩))
                  have HBW := Lib.hid (show Below w3.heap.size w3 wr from by obtain ⟨q1, h⟩ := HQ.out; rw [h]; exact bdrewN HB3.out q1)
                  have c1 := HC.out wr HBW.out j hjk
                  have b1 := D_b HG.out r j t
                  have b2 := co_b HG.out i j
                  have CO := Lib.hid (fun q => rcost_any p cap m ls (i : Int) (j : Int) (wr.drewN q) HM.out (HI.out.below (bdrewN (HB.out.trans (HBW.out.mono HB.out.size)) q)))
                  have HB1 := Lib.hid (show (if D ls r j t + co ls i j < d then D ls r j t + co ls i j else d) = bst ls (fun x => D ls r x t) i (j + 1) by rw [HD.out]; rfl)
                  change Hid (∀ q, Calls _ _ _ _ fun e w' => e = .returned (.int .i64 (co ls i j)) ∧ w' = wr.drewN q) at CO
                  generalize D ls r j t = x at c1 b1 HB1
                  generalize co ls i j = y at CO b2 HB1
                  obtain ⟨z, hz⟩ : ∃ z, x + y = z := ⟨_, rfl⟩
                  have hw : IntKind.i64.wrap (x + y) = z := by rw [← hz]; exact wrap_in (n := x + y) ⟨by omega, by omega⟩
                  rw [hz] at HB1
                  clear hz b1 b2
                  by_cases hzd : z < d
                  · have v3 : decide (z < d) = true := decide_eq_true hzd
                    have HB2 := Lib.hid (by have := HB1.out; rwa [if_pos hzd] at this : z = bst ls (fun x => D ls r x t) i (j + 1))
                    clear hzd HB1
                    go_wp2_with fail
                    go_quiet ((go_at_call 13; refine Calls.quiet_of_same (CO.out _)))
                    go_wp2_with fail
                    have c2 : (wr.drewN nq).cell? ⟨b, off + j, none⟩ = some (.int .i64 x) := c1
                    have CO2 := Lib.hid (fun q => (show Calls Tryd.prog 13 #[.slice p m cap, .int .i64 (i : Int), .int .i64 (j : Int)] ((wr.drewN nq).drewN q) (fun e w' => e = .returned (.int .i64 y) ∧ w' = (wr.drewN nq).drewN q) from by rw [World.drewN_drewN]; exact CO.out (nq + q)))
                    have HW2 := Lib.hid (fun q => (show ∃ q2, (wr.drewN nq).drewN q = w4.drewN q2 from by rw [World.drewN_drewN]; exact HW.out (nq + q)))
                    clear c1 CO HW HQ HBW
                    generalize wr.drewN nq = w6 at c2 CO2 HW2 ⊢
                    go_quiet ((go_at_call 13; refine Calls.quiet_of_same (CO2.out _)))
                    go_wp2_with fail
                    go_roundw
                    case rel => exact ⟨j + 1, z, by omega, by first | rfl | go_num, rfl, HB2, Lib.hid (HW2.out _)⟩
                    case measure => simp [intOf]; omega
                  · have v3 : decide (z < d) = false := decide_eq_false hzd
                    have HB2 := Lib.hid (by have := HB1.out; rwa [if_neg hzd] at this : d = bst ls (fun x => D ls r x t) i (j + 1))
                    clear hzd HB1
                    go_wp2_with fail
                    go_quiet ((go_at_call 13; refine Calls.quiet_of_same (CO.out _)))
                    go_wp2_with fail
                    go_roundw
                    case rel => exact ⟨j + 1, d, by omega, by first | rfl | go_num, rfl, HB2, Lib.hid (HW.out _)⟩
                    case measure => simp [intOf]; omega
                · obtain rfl : j = k := by omega
                  have v2 : decide ((j : Int) < (j : Int)) = false := decide_eq_false (by omega)
                  have HDE := Lib.hid (show d = D ls (r + 1) t i by rw [HD.out, bst_D HG.out, D_sym HG.out])
                  have HWF := Lib.hid (show 0 ≤ d ∧ d ≤ 1000 from by rw [HDE.out]; exact D_b HG.out (r + 1) t i)
                  have HTK := Lib.hid (rw1_take (f := D ls (r + 1) t) hik)
                  rw [← HDE.out] at HTK
                  have HLN := Lib.hid (rw1_tlen (f := D ls (r + 1) t) hi)
                  obtain ⟨q1, hq1⟩ := HQ.out
                  have HO4 := Lib.hid (show OwnI wr w3.heap.size _ ((rw1 j (D ls (r + 1) t)).take i) from by rw [hq1]; exact HO.out)
                  have HB4 := Lib.hid (show Below w3.heap.size w3 wr from by rw [hq1]; exact bdrewN HB3.out q1)
                  have hsz := HB4.out.size
                  clear hq1 HQ HD HDE HO HB3
                  obtain ⟨pe, ce, hev, _⟩ := HO4.out.form
                  rw [HLN.out] at hev
                  subst hev
                  go_wp2_with (at_builtin
                               refine wp_app rfl (.tmp 66) (.tmp 68) rfl w3.heap.size _ ((rw1 j (D ls (r + 1) t)).take i) (some ⟨wr.heap.size, 0, none⟩) 1 1 [d] rfl (HO4.out.alloc _) rfl rfl (Ints.one wr d (wf_of HWF.out)) (by rw [HLN.out, List.length_singleton]; omega) (Nat.le_trans hsz (by simp)) ?_
                               intro v8 w8 hown8 hg8 hat8
                               have HO8 := Lib.hid (show OwnI w8 w3.heap.size v8 ((rw1 j (D ls (r + 1) t)).take (i + 1)) by rw [HTK.out]; exact hown8)
                               have HB8 := Lib.hid (show Below w3.heap.size w3 w8 from below_one HB4.out hsz _ HO4.out hg8)
                               clear hown8 hg8 hat8)
                  go_roundw
                  case rel => exact ⟨i + 1, by omega, by first | rfl | go_num, HO8, HB8⟩
                  case measure => simp [intOf]; omega
            · obtain rfl : i = k := by omega
              have v1 : decide ((i : Int) < (i : Int)) = false := decide_eq_false (by omega)
              have ho := HO.out
              rw [rw1_full] at ho
              obtain ⟨pe, ce, rfl, hie⟩ := ho.form
              have HIE := Lib.hid hie
              have HA2 := Lib.hid (show ∀ a, pe = some a → w.heap.size ≤ a.block from fun a ha => Nat.le_trans HB.out.size (own_block ho a ha))
              have HB5 := Lib.hid (bcall HB.out HB3.out)
              rw [rw1_len]
              clear ho hie HO
              go_wp2_with fail
              go_roundw
              case rel => exact ⟨r + 1, pe, ce, by omega, by first | rfl | go_num, rfl, HIE, HA2, HB5⟩
              case measure => simp [intOf]; omega
        · obtain rfl : r = s := by omega
          have v0 : decide ((r : Int) < (r : Int)) = false := decide_eq_false (by omega)
          go_wp2_with fail
          go_ret
          exact ⟨q, c, rfl, HT.out, HA.out, HB.out⟩
theorem rfar_any (n t : Nat) (p : Option Addr) (cap m : Nat) (ls : List Lk) (w : World) (g : Vector.Good n ls) (hm : m = ls.length) (hi : CI layL w p cap ls) (ht : t < n) :
    Calls Tryd.prog 22 #[.int .i64 (n : Int), .slice p m cap, .int .i64 (t : Int)] w fun e w' => ∃ q c, e = .returned (.slice q n c) ∧ Ints w' q c (rw1 n (D ls n t)) ∧ Below w.heap.size w w' := by
  have C := Lib.hid (rwalks_any n t n p cap m ls w g hm hi ht (by have := g.up; omega))
  clear g hm hi ht
  go_enter Tryd.func22, Tryd.ntmps22
  go_wp2_with fail
  refine C.out.mono ?_; rintro e w1 ⟨q, c, rfl, hi, _, hb⟩
  have HI := Lib.hid hi
  have HB := Lib.hid hb
  clear hi hb C
  go_wp2_with fail
  go_ret
  exact ⟨q, c, rfl, HI.out, HB.out⟩
end Go.Proofs.YtedhippamfioeaaDoor.Vector
