/- Package ring: Run. No statement is proved here. -/
import Derived.Test.YteggajhpjdidcaaRing1
namespace Go.Proofs.Yteggajhpjdidcaa.Ring
open Go.ChangeShapes Go.WideShapes Go.ChangeAt Go.RowKit Go.Proofs.Yteggajhpjdidcaa.Kit Go.Proofs.Yteggajhpjdidcaa.App Go.Proofs.Yteggajhpjdidcaa.Err Go.Proofs.Yteggajhpjdidcaa.RingMath
set_option linter.unusedVariables false
set_option maxRecDepth 20000
set_option maxHeartbeats 2000000

theorem run_bad1 (p : Option Addr) (cap n : Nat) (l : List Int) (x : Int) (w : World) (hn : n = l.length) (hi : Ints w p cap l) (c : Int) (hc : code l = c) (h0 : c ≠ 0) :
    Calls Try.prog 14 #[.slice p n cap, .int .i64 x] w fun e w' => e = .returned (.tuple #[.slice none 0 0, er c]) ∧ Below w.heap.size w w' := by
  have CK := Lib.hid (check_any p cap n l w hn hi c hc)
  rw [er_ne h0] at CK ⊢
  clear hn hi hc h0
  go_enter Try.func14, Try.ntmps14
  go_wp2_with fail
  refine CK.out.mono ?_; rintro e w1 ⟨rfl, hb⟩
  have HB := Lib.hid hb
  clear CK hb
  go_wp2_with fail
  go_ret2
  exact ⟨rfl, HB.out⟩
theorem run_bad2 (p : Option Addr) (cap n : Nat) (l : List Int) (x : Int) (w : World) (hn : n = l.length) (hi : Ints w p cap l) (hc : code l = 0) (hx : ¬ (1 ≤ x ∧ x ≤ 20)) :
    Calls Try.prog 14 #[.slice p n cap, .int .i64 x] w fun e w' => e = .returned (.tuple #[.slice none 0 0, er 1]) ∧ Below w.heap.size w w' := by
  have CK := Lib.hid (check_any p cap n l w hn hi 0 hc)
  rw [er_0] at CK
  rw [er_1]
  clear hn hi hc
  by_cases h3 : x < 1
  · have t3 : decide (x < 1) = true := decide_eq_true h3
    clear h3 hx
    go_enter Try.func14, Try.ntmps14
    go_wp2_with fail
    refine CK.out.mono ?_; rintro e w1 ⟨rfl, hb⟩
    have HB := Lib.hid hb
    clear CK hb
    go_wp2_with fail
    go_ret2
    exact ⟨rfl, HB.out⟩
  · have t3 : decide (x < 1) = false := decide_eq_false h3
    have t4 : decide (x > 20) = true := decide_eq_true (by omega)
    clear h3 hx
    go_enter Try.func14, Try.ntmps14
    go_wp2_with fail
    refine CK.out.mono ?_; rintro e w1 ⟨rfl, hb⟩
    have HB := Lib.hid hb
    clear CK hb
    go_wp2_with fail
    go_ret2
    exact ⟨rfl, HB.out⟩
theorem run_bad (p : Option Addr) (cap n : Nat) (l : List Int) (x : Int) (w : World) (hn : n = l.length) (hi : Ints w p cap l) (c : Int) (hc : codeH l x = c) (h0 : c ≠ 0) :
    Calls Try.prog 14 #[.slice p n cap, .int .i64 x] w fun e w' => e = .returned (.tuple #[.slice none 0 0, er c]) ∧ Below w.heap.size w w' := by
  unfold codeH at hc
  by_cases h1 : code l = 0
  · rw [if_pos h1] at hc
    by_cases h2 : 1 ≤ x ∧ x ≤ 20
    · rw [if_pos h2] at hc; exact absurd hc.symm h0
    · rw [if_neg h2] at hc
      subst hc
      exact run_bad2 p cap n l x w hn hi h1 h2
  · rw [if_neg h1] at hc
    exact run_bad1 p cap n l x w hn hi c hc h0

theorem own_at {w : World} {base g n cap : Nat} {l : List Int} (h : OwnI w base (.slice (some ⟨g, 0, none⟩) n cap) l) : OwnI w g (.slice (some ⟨g, 0, none⟩) n cap) l := by
  obtain ⟨⟨h1, h2⟩, h3⟩ := h
  refine ⟨⟨h1, ?_⟩, h3⟩
  rcases h2 with ⟨e1, _⟩ | ⟨g', cap', cur, e1, _, h4⟩
  · cases e1
  · refine .inr ⟨g', cap', cur, e1, ?_, h4⟩
    injection e1 with e1; injection e1 with e1; injection e1 with e1
    omega
/-- What is left lies in block g; what is sent lies behind it. -/
structure St (w0 w : World) (g n cap : Nat) (o : Value) (L out : List Int) : Prop where
  left : OwnI w g (.slice (some ⟨g, 0, none⟩) n cap) L
  own : OwnI w (g + 1) o out
  low : w0.heap.size ≤ g
  bel : Below w0.heap.size w0 w
variable {w0 w : World} {g n cap : Nat} {o : Value} {L out : List Int}
theorem St.lt (H : St w0 w g n cap o L out) : g < w.heap.size := (H.left.lt g rfl).2
theorem St.ne (H : St w0 w g n cap o L out) : o.ownBlock = none ∨ o.ownBlock ≠ some g := by
  refine .inr fun e => ?_
  have := (H.own.lt g e).1
  omega
theorem St.alloc (H : St w0 w g n cap o L out) (ob : Obj) : St w0 (w.alloc ob) g n cap o L out :=
  ⟨H.left.alloc ob, H.own.alloc ob, H.low, balloc H.bel ob⟩
theorem St.set (H : St w0 w g n cap o L out) (j : Nat) (x : Int) (hx : (Lit.int .i64 x).wf = true) : St w0 (w.setCell ⟨g, j, none⟩ (.int .i64 x)) g n cap o (L.set j x) out :=
  ⟨own_set H.left j x hx, H.own.more (set_grown w g j _) H.ne, H.low, gbelow H.bel (Nat.le_refl _) (set_grown w g j _) H.low⟩
theorem St.drew (H : St w0 w g n cap o L out) : St w0 w.drew g n cap o L out := ⟨H.left.drew, H.own.drew, H.low, H.bel.drew⟩
theorem St.app {w' : World} {v : Value} {out' : List Int} (H : St w0 w g n cap o L out) (ho : OwnI w' (g + 1) v out') (hg : w.grownBy w' o.ownBlock) : St w0 w' g n cap v L out' :=
  ⟨H.left.more hg (.inr fun e => by have h : o.ownBlock = some g := e.symm; have := (H.own.lt g h).1; omega), ho, H.low, H.bel.grown hg H.bel.size (fun k hk => Nat.le_trans H.low (Nat.le_of_succ_le (H.own.lt k hk).1))⟩
theorem wf_small {x : Nat} (h : x ≤ 100) : (Lit.int .i64 (x : Int)).wf = true := by
  simp [Lit.wf, IntKind.min, IntKind.max, IntKind.signed, IntKind.bits]; omega
theorem set_get {L : List Int} {t : Nat} (y : Int) (ht : t < L.length) (k : Nat) : (L.set t y)[k]?.getD 0 = if k = t then y else L[k]?.getD 0 := by
  rw [List.getElem?_set]
  by_cases e : t = k
  · subst e; rw [if_pos rfl, if_pos ht, if_pos rfl]; rfl
  · rw [if_neg e, if_neg (fun h => e h.symm)]
theorem nat_rep (k t : Nat) : nat (List.replicate k t) = List.replicate k (t : Int) := by unfold nat; rw [List.map_replicate]
set_option maxHeartbeats 4000000 in
theorem run_good (p : Option Addr) (cap n : Nat) (l : List Int) (h : Nat) (w : World) (hn : n = l.length) (hi : Ints w p cap l) (g : Good l h) :
    Calls Try.prog 14 #[.slice p n cap, .int .i64 (h : Int)] w fun e w' => ∃ v, e = .returned (.tuple #[v, .nilIface]) ∧ OwnI w' w.heap.size v (nat (ord l h)) ∧ Below w.heap.size w w' := by
  have CK := Lib.hid (check_any p cap n l w hn hi 0 g.code)
  rw [er_0] at CK
  have CL := Lib.hid (fun W (hW : Below w.heap.size w W) => clone_all p n cap l W hn (hi.below hW) (by have := g.up; omega))
  have h1 := g.h1
  have h20 := g.h20
  have n1 : 1 ≤ n := by rw [hn]; exact g.lo
  have n8 : n ≤ 8 := by rw [hn]; exact g.up
  have HFN := Lib.hid (show ∀ k, k < n → l[k]?.getD 0 = ((fn l k : Nat) : Int) ∧ fn l k ≤ 20 from fun k hk => g.fn (by omega))
  have HTOP := Lib.hid (show ∀ k, k < n → fn l k ≤ 20 * h from fun k hk => g.top k (by omega))
  have HOR := Lib.hid (show order (fn l) h n 20 = ord l h by unfold ord; rw [hn])
  have t3 : decide ((h : Int) < 1) = false := decide_eq_false (by omega)
  have t4 : decide ((h : Int) > 20) = false := decide_eq_false (by omega)
  have HLEN := Lib.hid g.len.2
  have HN := Lib.hid hn
  clear hn hi g
  go_enter Try.func14, Try.ntmps14
  go_wp2_with fail
  refine CK.out.mono ?_; rintro e w1 ⟨rfl, hb⟩
  have HB := Lib.hid hb
  clear CK hb
  go_wp2_with fail
  refine (CL.out w1 HB.out).mono ?_; rintro e w2 ⟨v, rfl, hv, hb⟩
  obtain ⟨g, cp, rfl, hg1, hg2, hg3, hg4⟩ := own_pos hv (by rw [← HN.out]; exact n1)
  rw [← HN.out] at hv hg3 ⊢
  have HS0 := Lib.hid (show St w w2 g n cp (.slice none 0 0) l [] from ⟨own_at hv, OwnI.nil _ _, Nat.le_trans HB.out.size hg1, bcall HB.out hb⟩)
  clear CL hv hb hg1 hg2
  go_wp2_with fail
  go_loopg [8, 9] (20 * n) (fun gk ov tv wr => ∃ (s t : Nat) (o : Value) (L out : List Int), o = ov ∧ tv = .int .i64 (t : Int) ∧ t < n ∧ L.length = n ∧ Hid (t = s % n) ∧ Hid (s + gk = 20 * n) ∧ Hid (St w wr g n cp o L out) ∧ Hid (∀ k, k < n → L[k]?.getD 0 = ((lf (fn l) h n s k : Nat) : Int)) ∧ Hid (out = nat (sofar (fn l) h n s)))
  case atStart => exact ⟨0, 0, _, l, [], rfl, rfl, n1, HN.out.symm, Lib.hid (Nat.zero_mod n).symm, Lib.hid (Nat.zero_add _), HS0, Lib.hid (fun k hk => by rw [lf_zero]; exact (HFN.out k hk).1), Lib.hid (by rw [sofar_zero]; rfl)⟩
  case round =>
    clear HS0
    obtain ⟨s, t, o, L, out, rfl, rfl, ht, hL, HT, HG, HS, HL, HO⟩ := hrel
    obtain ⟨pl, cl, e1, hil⟩ := HS.out.left.form
    rw [hL] at e1
    injection e1 with e1 e2 e3
    subst e1; subst e3
    have MX := Lib.hid (max_any (some ⟨g, 0, none⟩) cp n L wr hL.symm hil n1)
    have HMAX := Lib.hid (show 0 < AimdMath.hi L → ∃ k, k < n ∧ 0 < lf (fn l) h n s k from fun hp => by
      obtain ⟨k, hk, e⟩ := List.mem_iff_getElem.1 (AimdMath.hi_mem (l := L) (by omega))
      have h2 := HL.out k (by omega)
      rw [List.getElem?_eq_getElem hk] at h2
      refine ⟨k, by omega, ?_⟩
      have h3 : L[k] = ((lf (fn l) h n s k : Nat) : Int) := h2
      omega)
    have HNO := Lib.hid (show ¬ 0 < AimdMath.hi L → ∀ k, k < n → lf (fn l) h n s k = 0 from fun hp k hk => by
      have h2 := HL.out k hk
      rw [List.getElem?_eq_getElem (by omega)] at h2
      have h3 : L[k]'(by omega) = ((lf (fn l) h n s k : Nat) : Int) := h2
      have h4 := AimdMath.hi_ge (l := L) (List.getElem_mem (by omega : k < L.length))
      omega)
    clear hil
    generalize AimdMath.hi L = M at MX HMAX HNO
    by_cases hM : 0 < M
    · have t5 : decide (M > 0) = true := decide_eq_true hM
      have HSN := Lib.hid (show s < 20 * n by
        obtain ⟨k, hk, h2⟩ := HMAX.out hM
        exact more_steps (by omega) hk h2 (HTOP.out k hk))
      have hgk : 0 < gk := by have := HG.out; have := HSN.out; omega
      have hc := own_cell HS.out.left t (by omega)
      have hfz := own_fz HS.out.left t
      rw [HL.out t ht] at hc
      have hx20 : lf (fn l) h n s t ≤ 20 := Nat.le_trans (lf_le s t) (HFN.out t ht).2
      obtain ⟨x, hx⟩ : ∃ x, lf (fn l) h n s t = x := ⟨_, rfl⟩
      rw [hx] at hc hx20
      have HX := Lib.hid hx
      obtain ⟨e, he⟩ : ∃ e, min h x = e := ⟨_, rfl⟩
      have tm : (if (x : Int) < (h : Int) then (x : Int) else (h : Int)) = (e : Int) := by split <;> omega
      have tm2 : (if x < h then (x : Int) else (h : Int)) = (e : Int) := by split <;> omega
      obtain ⟨y, hy⟩ : ∃ y, x - e = y := ⟨_, rfl⟩
      have ty : (x : Int) - (e : Int) = (y : Int) := by omega
      have he20 : e ≤ 20 := by omega
      have HE := Lib.hid he
      have HY := Lib.hid hy
      have HM := Lib.hid hM
      have hlen : n ≤ cp := hg3
      clear hM he hy hx
      go_wp2_with fail
      refine MX.out.mono ?_; rintro e w3 ⟨rfl, rfl⟩
      go_wp2_with fail
      have HS1 := Lib.hid (HS.out.set t (y : Int) (wf_small (by omega)))
      have HL1 := Lib.hid (show (L.set t (y : Int)).length = n by rw [List.length_set, hL])
      have HGE := Lib.hid (fun k => set_get (L := L) (y : Int) (by rw [hL]; exact ht) k)
      generalize L.set t (y : Int) = L1 at HS1 HL1 HGE
      generalize w3.setCell ⟨g, t, none⟩ (.int .i64 (y : Int)) = w4 at HS1 ⊢
      have HOL := Lib.hid (show out.length + e ≤ 160 by
        obtain ⟨R, h2⟩ := sofar_is (f := fn l) (h := h) (T := 20) (by omega : 0 < n) HSN.out
        have h3 := HLEN.out
        rw [← HOR.out, h2, List.length_append, sofar_next (by omega), List.length_append, List.length_replicate, ← HT.out, HX.out, HE.out] at h3
        rw [HO.out, nat_len]
        omega)
      clear HMAX HNO MX hc hfz HS tm tm2 ty t5
      go_loopw [8, 47] (fun ov iv wr => ∃ (j : Nat) (o1 : Value) (out1 : List Int), j ≤ e ∧ iv = .int .i64 j ∧ o1 = ov ∧ Hid (St w wr g n cp o1 L1 out1) ∧ Hid (out1 = out ++ List.replicate j (t : Int))) (fun _ i _ => e - (intOf i).toNat)
      case atStart => exact ⟨0, o, out, Nat.zero_le _, rfl, rfl, HS1, Lib.hid (by simp)⟩
      case round =>
        clear HS1
        obtain ⟨j, o1, out1, hj, rfl, rfl, HS4, HO4⟩ := hrel
        by_cases hje : j < e
        · have u1 : decide ((j : Int) < (e : Int)) = true := decide_eq_true (by omega)
          have HS5 := Lib.hid (HS4.out.alloc (.cells #[.int .i64 (t : Int)] 3))
          have hlo : out1.length ≤ 160 := by rw [HO4.out]; simp; have := HOL.out; omega
          have hB := HS5.out.lt
          go_wp2_with (first
            | (at_builtin
               refine wp_app rfl (.tmp 49) (.tmp 51) rfl (g + 1) o1 out1 (some ⟨wr.heap.size, 0, none⟩) 1 1 [(t : Int)] rfl HS5.out.own rfl rfl (Ints.one wr (t : Int) (wf_small (by omega))) (by simp; omega) hB ?_
               intro o2 w6 ho2 hg2 hat2
               have HS6 := Lib.hid (HS5.out.app ho2 hg2)
               clear ho2 hg2 hat2))
          go_roundw
          case rel => exact ⟨j + 1, o2, _, by omega, by first | rfl | go_num, rfl, HS6, Lib.hid (by rw [HO4.out, List.append_assoc, List.replicate_succ'])⟩
          case measure => simp [intOf]; omega
        · obtain rfl : j = e := by omega
          have u1 : decide ((j : Int) < (j : Int)) = false := decide_eq_false (by omega)
          obtain ⟨t2, ht2⟩ : ∃ t2, (t + 1) % n = t2 := ⟨_, rfl⟩
          have r1 : ((t : Int) + 1) % (n : Int) = (t2 : Int) := by rw [← ht2]; simp
          have r2 : (n : Int) ≠ 0 := by omega
          have r3 : n ≠ 0 := by omega
          have HT2 := Lib.hid ht2
          have ht3 : t2 < n := by rw [← ht2]; exact Nat.mod_lt _ (by omega)
          have HJ := Lib.hid (show min h (lf (fn l) h n s (s % n)) = j by rw [← HT.out, HX.out]; exact HE.out)
          clear ht2
          go_wp2_with fail
          go_roundg (gk - 1)
          case measure => omega
          case rel => exact ⟨s + 1, t2, _, L1, out1, rfl, by first | rfl | go_num, ht3, HL1.out, Lib.hid (by rw [next_tok (by omega), ← HT.out, HT2.out]), Lib.hid (by have := HG.out; omega), HS4, Lib.hid (fun k hk => by
              rw [HGE.out k, lf_next (by omega) s k hk, ← HT.out]
              by_cases ek : k = t
              · subst ek; rw [if_pos rfl, if_pos rfl, HX.out, HE.out, HY.out]
              · rw [if_neg ek, if_neg ek]; exact HL.out k hk), Lib.hid (by
              rw [HO4.out, HO.out, sofar_next (by omega) s, HJ.out, nat_app, nat_rep, ← HT.out])⟩
    · have t5 : decide (M > 0) = false := decide_eq_false hM
      have HE := Lib.hid (show out = nat (ord l h) by
        rw [HO.out, ← HOR.out, sofar_done (by omega) (HNO.out hM) HTOP.out])
      go_wp2_with fail
      refine MX.out.mono ?_; rintro e w3 ⟨rfl, rfl⟩
      go_wp2_with fail
      go_ret2
      exact ⟨_, rfl, by rw [← HE.out]; exact own_mono HS.out.own (by have := HS.out.low; omega), HS.out.bel⟩
end Go.Proofs.Yteggajhpjdidcaa.Ring
