/- The checksum does not depend on the order of words, and exchanging the bytes of all words exchanges those of the checksum: the law returns true for every input. No condition. -/
import Derived.Test.YtcdpkdhapdajgaaOnesMend
import Derived.Test.YtcdpkdhapdajgaaAppOff
import Derived.StillTailTactics
namespace Go.Proofs.Ytcdpkdhapdajgaa.onesOrderP
open Go.ChangeShapes Go.WideShapes Go.ChangeAt Go.RowKit
open Go.Proofs.Ytcdpkdhapdajgaa.Kit Go.Proofs.Ytcdpkdhapdajgaa.Ones Go.Proofs.Ytcdpkdhapdajgaa.App Go.Proofs.Ytcdpkdhapdajgaa.LawOnes Go.Proofs.Ytcdpkdhapdajgaa.OnesMath Go.Proofs.Ytcdpkdhapdajgaa.onesGoodP Go.Proofs.Ytcdpkdhapdajgaa.onesMendP
set_option linter.unusedVariables false

theorem swp_len : ∀ (n : Nat) (l : List Int), l.length ≤ n → (swp l).length = l.length
  | _, [], _ => rfl
  | _, [_], _ => rfl
  | n + 2, a :: b :: r, h => by simp only [swp, List.length_cons, swp_len n r (by simp at h; omega)]
  | 0, _ :: _ :: _, h => by simp at h
  | 1, _ :: _ :: _, h => by simp at h
theorem swp_get : ∀ (n : Nat) (l : List Int), l.length ≤ n → l.length % 2 = 0 → ∀ k : Nat, k < l.length → (swp l)[k]?.getD 0 = if k % 2 = 0 then l[k + 1]?.getD 0 else l[k - 1]?.getD 0
  | _, [], _, _, k, hk => absurd hk (Nat.not_lt_zero _)
  | _, [_], _, h, _, _ => by simp at h
  | n + 2, a :: b :: r, h, he, k, hk => by
    rcases k with _ | _ | k
    · simp [swp]
    · simp [swp]
    · have ih := swp_get n r (by simp at h; omega) (by simp at he; omega) k (by simp at hk; omega)
      simp only [swp, List.getElem?_cons_succ]
      rw [ih]
      by_cases h0 : k % 2 = 0
      · rw [if_pos h0, if_pos (by omega)]
      · rw [if_neg h0, if_neg (by omega), show k + 1 + 1 - 1 = (k - 1) + 1 + 1 by omega, List.getElem?_cons_succ, List.getElem?_cons_succ]
  | 0, _ :: _ :: _, h, _, _, _ => by simp at h
  | 1, _ :: _ :: _, h, _, _, _ => by simp at h
theorem swp_bytes {l : List Int} (he : l.length % 2 = 0) (h : ∀ x ∈ l, 0 ≤ x ∧ x ≤ 255) : ∀ x ∈ swp l, 0 ≤ x ∧ x ≤ 255 := fun x hx => by
  obtain ⟨k, hk, rfl⟩ := List.getElem_of_mem hx
  have hl := swp_len l.length l (Nat.le_refl _)
  have := swp_get l.length l (Nat.le_refl _) he k (by omega)
  rw [List.getElem?_eq_getElem hk, Option.getD_some] at this
  have hz : ∀ j : Nat, 0 ≤ l[j]?.getD 0 ∧ l[j]?.getD 0 ≤ 255 := fun j => by
    by_cases hj : j < l.length
    · rw [List.getElem?_eq_getElem hj]; exact h _ (List.getElem_mem hj)
    · rw [List.getElem?_eq_none (by omega)]; simp
  rw [this]
  split
  · exact hz _
  · exact hz _

theorem swap_math {l : List Int} (hby : wthn l 255 = true) (he : l.length % 2 = 0) :
    wthn (swp l) 255 = true ∧ 65535 - onesum (swp l) = (65535 - onesum l) / 256 + (65535 - onesum l) % 256 * 256 := by
  have hw := wthn_of (swp_bytes he (bytes_of hby))
  refine ⟨hw, ?_⟩
  obtain ⟨q, h1, h2, h3⟩ := swp_wsb l.length l (Nat.le_refl _) he (bytes_of hby)
  have r1 := wsb_range true _ (bytes_of hby)
  have r2 := wsb_range true _ (bytes_of hw)
  rw [onesum_rnd hw, onesum_rnd hby]
  generalize wsb true (swp l) = T' at *
  generalize wsb true l = T at *
  unfold rnd
  by_cases h0 : T = 0
  · rw [if_pos (h2 h0), if_pos h0]; decide
  · rw [if_neg (fun h => h0 (h3 h)), if_neg h0]
    omega

theorem drop2 {l : List Int} {k : Nat} (h : 2 * k + 1 < l.length) : wsb true (l.drop (2 * k)) = l[2 * k]?.getD 0 * 256 + l[2 * k + 1]?.getD 0 + wsb true (l.drop (2 * (k + 1))) := by
  rw [List.drop_eq_getElem_cons (by omega : 2 * k < l.length), List.drop_eq_getElem_cons (by omega : 2 * k + 1 < l.length)]
  rw [List.getElem?_eq_getElem (by omega : 2 * k < l.length), List.getElem?_eq_getElem h]
  simp only [wsb, Option.getD_some, show 2 * (k + 1) = 2 * k + 1 + 1 by omega]
  omega
theorem snoc2 {t : List Int} (he : t.length % 2 = 0) (x y : Int) : wsb true (t ++ [x] ++ [y]) = x * 256 + y + wsb true t := by
  rw [List.append_assoc, even_wsb _ _ he]
  simp only [List.cons_append, List.nil_append, wsb]
  omega

/-- The words behind place m, the last one first: what the first loop has made. -/
structure Turned (l : List Int) (m : Nat) (t : List Int) : Prop where
  len : t.length + 2 * m = l.length
  bytes : ∀ x ∈ t, 0 ≤ x ∧ x ≤ 255
  sum : wsb true t = wsb true (l.drop (2 * m))
theorem Turned.start {l : List Int} (he : l.length % 2 = 0) : Turned l (l.length / 2) [] :=
  ⟨by simp; omega, by simp, by rw [List.drop_of_length_le (by omega)]⟩
theorem Turned.step {l t : List Int} {k : Nat} (hb : ∀ x ∈ l, 0 ≤ x ∧ x ≤ 255) (he : l.length % 2 = 0) (h : Turned l (k + 1) t) : Turned l k (t ++ [l[2 * k]?.getD 0] ++ [l[2 * k + 1]?.getD 0]) := by
  have hl := h.len
  have hz : ∀ j : Nat, 0 ≤ l[j]?.getD 0 ∧ l[j]?.getD 0 ≤ 255 := fun j => by
    by_cases hj : j < l.length
    · rw [List.getElem?_eq_getElem hj]; exact hb _ (List.getElem_mem hj)
    · rw [List.getElem?_eq_none (by omega)]; simp
  refine ⟨by simp; omega, fun x hx => ?_, ?_⟩
  · simp only [List.append_assoc, List.mem_append, List.mem_singleton] at hx
    rcases hx with hx | hx | hx
    · exact h.bytes x hx
    · subst hx; exact hz _
    · subst hx; exact hz _
  · rw [snoc2 (by omega), drop2 (by omega), h.sum]
theorem Turned.all {l t : List Int} (h : Turned l 0 t) (hby : wthn l 255 = true) : t.length = l.length ∧ wthn t 255 = true ∧ onesum t = onesum l := by
  have h1 := wthn_of h.bytes
  refine ⟨by have := h.len; omega, h1, ?_⟩
  rw [onesum_rnd h1, onesum_rnd hby, h.sum]
  rfl
theorem rot {t : List Int} (hby : wthn t 255 = true) {q : Nat} (hq : q % 2 = 0) (hle : q ≤ t.length) (he : t.length % 2 = 0) : wthn (t.drop q ++ t.take q) 255 = true ∧ onesum (t.drop q ++ t.take q) = onesum t := by
  have h1 : wthn (t.drop q ++ t.take q) 255 = true := wthn_of (fun x hx => (List.mem_append.1 hx).elim (fun h => bytes_of hby x (List.mem_of_mem_drop h)) (fun h => bytes_of hby x (List.mem_of_mem_take h)))
  refine ⟨h1, ?_⟩
  have e : wsb true t = wsb true (t.take q) + wsb true (t.drop q) := by
    rw [← even_wsb _ _ (by rw [List.length_take]; omega), List.take_append_drop]
  rw [onesum_rnd h1, onesum_rnd hby, even_wsb _ _ (by rw [List.length_drop]; omega), e, Int.add_comm]

theorem law_bad (p : Option Addr) (cap : Nat) (l : List Int) (a : Int) (w : World) (h : Ints w p cap l) (he : l.length % 2 = 0) (hb : bad l ≠ 0) :
    Calls Try.prog 5 #[.slice p l.length cap, .int .i64 a] w fun e w' => e = .returned (.bool true) ∧ Below w.heap.size w w' := by
  have hlen := h.len_le
  have t1 : ((l.length : Int) % 2 == 1) = false := by rw [beq_eq_false_iff_ne]; omega
  clear he
  go_enter Try.func5, Try.ntmps5
  go_wp2_with (first
    | (go_at_call 8; refine (fact_any _).mono ?_; rintro e w1 ⟨rfl, hb1⟩)
    | (go_at_call 9; refine (sum_bad p cap l w1 (h.below hb1) hb).mono ?_; rintro e w2 ⟨rfl, rfl⟩))
  go_ret
  exact ⟨rfl, hb1⟩
theorem law_odd (p : Option Addr) (cap : Nat) (l : List Int) (a : Int) (w : World) (h : Ints w p cap l) (he : l.length % 2 = 1) :
    Calls Try.prog 5 #[.slice p l.length cap, .int .i64 a] w fun e w' => e = .returned (.bool true) ∧ Below w.heap.size w w' := by
  have hlen := h.len_le
  have t1 : ((l.length : Int) % 2 == 1) = true := by rw [beq_iff_eq]; omega
  clear he
  go_enter Try.func5, Try.ntmps5
  go_wp2_with (go_at_call 8; refine (fact_any _).mono ?_; rintro e w1 ⟨rfl, hb1⟩)
  go_ret
  exact ⟨rfl, hb1⟩

theorem below_one {W w w' : World} {base : Nat} {v : Value} {xs : List Int} (hb : Below base W w) (hB : base ≤ w.heap.size) (o : Obj) (hown : OwnI w base v xs) (hg : (w.alloc o).grownBy w' v.ownBlock) : Below base W w' :=
  below_app (hb.alloc hB o) (hown.alloc o) hg (Nat.le_trans hB (by simp))

/-- Two slices of the call's own that lie in two blocks. -/
def Apart (u v : Value) : Prop := u.ownBlock = none ∨ u.ownBlock ≠ v.ownBlock
theorem Apart.step {w : World} {base : Nat} {u v v' : Value} {l : List Int} (h : Apart u v) (hu : OwnI w base u l) {n : Nat} (hn : w.heap.size ≤ n) (hv : v'.ownBlock = v.ownBlock ∨ v'.ownBlock = some n) : Apart u v' := by
  rcases hv with e | e
  · unfold Apart at *; rw [e]; exact h
  · cases hb : u.ownBlock with
    | none => exact .inl hb
    | some k =>
      refine .inr ?_
      rw [hb, e]
      intro hk
      injection hk with hk
      have := (hu.lt k hb).2
      omega

theorem apart_nil (u : Value) : Apart u (.slice none 0 0) := by
  unfold Apart
  cases u.ownBlock with
  | none => exact .inl rfl
  | some k => exact .inr (by simp [Value.ownBlock])

set_option maxHeartbeats 4000000 in
set_option maxRecDepth 100000 in
theorem law_even (p : Option Addr) (cap : Nat) (l : List Int) (a : Int) (w : World) (h : Ints w p cap l) (hn : l.length ≤ 600) (hby : wthn l 255 = true) (he : l.length % 2 = 0) :
    Calls Try.prog 5 #[.slice p l.length cap, .int .i64 a] w fun e w' => e = .returned (.bool true) ∧ Below w.heap.size w w' := by
  have hsm := swap_math hby he
  have hbl := bytes_of hby
  have hr := onesum_range hby
  have hr2 := onesum_range hsm.1
  have S1 := Lib.hid (fun W (hh : Ints W p cap l) => sum_ok p cap l W hh hn hby)
  have hsl := swp_len l.length l (Nat.le_refl _)
  have S3 := Lib.hid (fun W p' c' (hh : Ints W p' c' (swp l)) => sum_n l.length p' c' (swp l) W hsl.symm hh (by omega) hsm.1)
  have S2 := Lib.hid (fun W p' c' t (hh : Ints W p' c' t) (ht : t.length = l.length ∧ wthn t 255 = true ∧ onesum t = onesum l) => by
    have := sum_n l.length p' c' t W ht.1.symm hh (by omega) ht.2.1
    rw [ht.2.2] at this
    exact this)
  have TA := Lib.hid (fun t (ht : Turned l 0 t) => ht.all hby)
  have HB := Lib.hid hby
  have SG := Lib.hid (swp_get l.length l (Nat.le_refl _) he)
  have SL := Lib.hid hsl
  obtain ⟨n, en⟩ : ∃ n, 65535 - onesum l = n := ⟨_, rfl⟩
  obtain ⟨m, em⟩ : ∃ m, 65535 - onesum (swp l) = m := ⟨_, rfl⟩
  rw [en] at S1 S2
  rw [em] at S3
  have hnr : 0 ≤ n ∧ n ≤ 65535 := by omega
  have t7 : (m == n / 256 + n % 256 * 256) = true := by rw [beq_iff_eq, ← en, ← em]; exact hsm.2
  have t8 : (n == n) = true := beq_self_eq_true n
  have hmr : 0 ≤ m ∧ m ≤ 65535 := by omega
  clear en em hsm hr hr2 hby hsl
  have t1 : ((l.length : Int) % 2 == 1) = false := by rw [beq_eq_false_iff_ne]; omega
  go_enter Try.func5, Try.ntmps5
  go_wp2_with fail
  refine (fact_any _).mono ?_; rintro e w1 ⟨rfl, hb1⟩
  go_wp2_with fail
  refine (S1.out w1 (h.below hb1)).mono ?_; rintro e w2 ⟨rfl, hb2⟩
  go_wp2_with fail
  refine (in_yes n 0 65535 _ hnr).mono ?_; rintro e w3 ⟨rfl, rfl⟩
  have hB := bcall hb1 hb2
  clear hb1 hb2
  go_wp2_with fail
  go_loopw [8, 10] (fun v i wr => ∃ (t : List Int) (m : Nat) (j : Int), OwnI wr w.heap.size v t ∧ Turned l m t ∧ i = .int .i64 j ∧ Hid (j = 2 * (m : Int) - 2) ∧ Below w.heap.size w wr) (fun _ i _ => (intOf i + 2).toNat)
  case atStart => exact ⟨[], l.length / 2, _, OwnI.nil _ _, Turned.start he, rfl, by show _ = _; omega, hB⟩
  case round =>
    obtain ⟨t, m', j, hown, htu, rfl, hj, hBr⟩ := hrel
    have hlt := htu.len
    rcases m' with _ | k
    · obtain rfl : j = -2 := by have := hj.out; omega
      go_wp2_with fail
      have hT := Lib.hid (TA.out t htu)
      have hbw0 := hBr.size
      clear htu hlt hj
      obtain ⟨wo, hwo⟩ : ∃ wo : World, wo = wr := ⟨_, rfl⟩
      subst hwo
      go_loopw [9, 11] (fun v9 i wr => ∃ k : Nat, k ≤ l.length ∧ i = .int .i64 k ∧ OwnI wr w.heap.size v9 ((swp l).take k) ∧ OwnI wr w.heap.size u8 t ∧ Apart u8 v9 ∧ Below w.heap.size w wr) (fun _ i _ => l.length - (intOf i).toNat)
      case atStart => exact ⟨0, Nat.zero_le _, rfl, by rw [List.take_zero]; exact OwnI.nil _ _, hown, apart_nil _, hBr⟩
      case round =>
        obtain ⟨k, hk, rfl, hs, ht, hap, hBr2⟩ := hrel
        by_cases hlt : k < l.length
        · obtain ⟨b, off, rfl, hbw, hc⟩ := h.2.2.2 (by omega)
          have hgk := SG.out k hlt
          have hBs2 := hBr2.size
          have hwx : (Lit.int .i64 ((swp l)[k]?.getD 0)).wf = true := by
            have := swp_bytes he hbl _ (List.getElem_mem (show k < (swp l).length by rw [SL.out]; exact hlt))
            rw [List.getElem?_eq_getElem (by rw [SL.out]; exact hlt)]
            exact wf_small (by simp only [Option.getD_some]; omega)
          have hsn : (swp l).take (k + 1) = (swp l).take k ++ [(swp l)[k]?.getD 0] := by
            rw [List.take_succ_eq_append_getElem (by rw [SL.out]; exact hlt), List.getElem?_eq_getElem (by rw [SL.out]; exact hlt)]; rfl
          have hlk : ((swp l).take k).length = k := by rw [List.length_take, SL.out]; omega
          rcases Nat.mod_two_eq_zero_or_one k with h0 | h0
          · rw [if_pos h0] at hgk
            have hcx := hc (k + 1) (by omega)
            have i1 : k + 1 < l.length := by omega
            have t3 : ((k : Int) % 2 == 0) = true := by rw [beq_iff_eq]; omega
            rw [← hgk] at hcx
            generalize (swp l)[k]?.getD 0 = x at hcx hwx hsn hgk
            have HS := Lib.hid hsn
            have HL := Lib.hid hlk
            have cx := (hBr2.cell (p := ⟨b, off + (k + 1), none⟩) hbw).trans hcx
            clear hsn hlk hgk hc hcx h0
            go_wp2_with (at_builtin
                         refine wp_app rfl (.tmp 66) (.tmp 72) rfl w.heap.size _ _ (some ⟨wr.heap.size, 0, none⟩) 1 1 [x] rfl (hs.alloc _) rfl rfl (Ints.one wr x hwx) (by rw [HL.out]; simp; omega) (Nat.le_trans hBs2 (by simp)) ?_
                         intro v9 w9 hown9 hg9 hat9
                         have hb9 : Below w.heap.size w w9 := below_one hBr2 hBs2 _ hs hg9
                         have ht9 := (ht.alloc (.cells #[.int .i64 x] 3)).more hg9 hap
                         have hap9 := hap.step ht (by simp) hat9
                         clear hat9)
            go_roundw
            case rel => exact ⟨k + 1, by omega, by go_num, by rw [HS.out]; exact hown9, ht9, hap9, hb9⟩
            case measure => simp [intOf]; omega
          · rw [if_neg (by omega)] at hgk
            obtain ⟨k', rfl⟩ : ∃ k', k = k' + 1 := ⟨k - 1, by omega⟩
            have hcx := hc k' (by omega)
            have i1 : k' < l.length := by omega
            have t3 : (((k' + 1 : Nat) : Int) % 2 == 0) = false := by rw [beq_eq_false_iff_ne]; omega
            have t4 : (((k' : Int) + 1) % 2 == 0) = false := by rw [beq_eq_false_iff_ne]; omega
            rw [show k' + 1 - 1 = k' by omega] at hgk
            rw [← hgk] at hcx
            generalize (swp l)[k' + 1]?.getD 0 = x at hcx hwx hsn hgk
            have HS := Lib.hid hsn
            have HL := Lib.hid hlk
            have cx := (hBr2.cell (p := ⟨b, off + k', none⟩) hbw).trans hcx
            clear hsn hlk hgk hc hcx h0
            go_wp2_with (at_builtin
                         refine wp_app rfl (.tmp 74) (.tmp 80) rfl w.heap.size _ _ (some ⟨wr.heap.size, 0, none⟩) 1 1 [x] rfl (hs.alloc _) rfl rfl (Ints.one wr x hwx) (by rw [HL.out]; simp; omega) (Nat.le_trans hBs2 (by simp)) ?_
                         intro v9 w9 hown9 hg9 hat9
                         have hb9 : Below w.heap.size w w9 := below_one hBr2 hBs2 _ hs hg9
                         have ht9 := (ht.alloc (.cells #[.int .i64 x] 3)).more hg9 hap
                         have hap9 := hap.step ht (by simp) hat9
                         clear hat9)
            go_roundw
            case rel => exact ⟨k' + 1 + 1, by omega, by go_num, by rw [HS.out]; exact hown9, ht9, hap9, hb9⟩
            case measure => simp [intOf]; omega
        · obtain rfl : k = l.length := by omega
          rw [List.take_of_length_le (by rw [SL.out]; exact Nat.le_refl _)] at hs
          have hBs3 := hBr2.size
          obtain ⟨p9, cap9, rfl, hi9⟩ := hs.form
          have hl9 := SL.out
          rw [hl9]
          clear hl9
          by_cases c1 : a.tmod 2 = 0
          · have t5 : (a.tmod 2 == 0) = true := by rw [beq_iff_eq]; exact c1
            by_cases c2 : 0 ≤ a ∧ a ≤ (l.length : Int)
            · skip
              obtain ⟨q, rfl⟩ := Int.eq_ofNat_of_zero_le c2.1
              have hq2 : q % 2 = 0 := (by have h9 : ((q : Int)).tmod 2 = (q : Int) % 2 := Int.tmod_eq_emod_of_nonneg (by omega); omega)
              have hql : q ≤ l.length := by omega
              have htl := hT.out.1
              have hrot := rot hT.out.2.1 hq2 (by omega) (by omega)
              have ht0 := ht
              obtain ⟨⟨hll, ⟨rfl, hn0⟩ | ⟨g, cap8, cur, rfl, hbg, hgg, hncap, hcapm, hcs, htk⟩⟩, hwt⟩ := ht0
              · have htz : l.length ≤ 0 := by have h9 := hT.out.1; omega
                obtain rfl : q = 0 := by omega
                have ht00 : t = [] := List.eq_nil_of_length_eq_zero hn0
                subst ht00
                have S20 := Lib.hid (fun p' c' W (hh : Ints W p' c' []) => by
                  have h9 := S2.out W p' c' [] hh hT.out
                  rw [show l.length = 0 by omega] at h9
                  exact h9)
                clear hll hn0 htl hrot hwt hq2 c1 hap
                go_wp2_with (go_at_call 10; refine (in_yes _ 0 _ _ c2).mono ?_; rintro e w7 ⟨rfl, rfl⟩)
                go_still_tail 6, (by kernel_rfl)
                change wpList _ _ _ _ _ wr.drew
                go_wp2_with (at_builtin
                             refine wp_app rfl (.tmp 93) (.tmp 96) rfl w.heap.size (.slice none 0 0) [] none 0 0 [] rfl (OwnI.nil _ _) rfl rfl (Ints.nil _) (by simp) hBs3 ?_
                             intro v8 w8 hown8 hg8 hat8
                             have hb8 : Below w.heap.size w w8 := below_app hBr2.drew (OwnI.nil wr.drew w.heap.size) hg8 hBs3
                             obtain ⟨p8, cap8, rfl, hi8⟩ := hown8.form
                             have hg9 : wr.drew.grownBy w8 none := hg8
                             have hi10 := hi9.keep (w' := w8) hg9.size (fun a _ ha => hg9.block a.block ha (by simp)))
                have hTT := hT
                refine (S20.out p8 cap8 w8 hi8).mono ?_; rintro e w10 ⟨rfl, hb10⟩
                go_wp2_with fail
                refine (S3.out _ _ _ (hi10.below hb10)).mono ?_; rintro e w11 ⟨rfl, hb11⟩
                go_wp2_with fail
                go_ret
                exact ⟨rfl, bcall (bcall hb8 hb10) hb11⟩
              · by_cases hqc : q = cap8
                · subst hqc
                  have hqn : q ≤ t.length := by omega
                  have hqe : t.length ≤ q := by omega
                  have j1 : (0 : Int) ≤ (q : Int) := by omega
                  have j2 : (q : Int) ≤ (t.length : Int) := by omega
                  have j3 : (t.length : Int) ≤ (q : Int) := by omega
                  have hcq : ∀ j : Nat, j < t.length → cur[j]? = some (.int .i64 (t[j]?.getD 0)) := fun j hj => by
                    have h9 : (cur.toList.take (t.length * 1))[j]? = (t.map (Value.int .i64))[j]? := by rw [htk]
                    rw [List.getElem?_take, if_pos (by omega), Array.getElem?_toList, List.getElem?_map, List.getElem?_eq_getElem hj] at h9
                    rw [h9, List.getElem?_eq_getElem hj]
                    rfl
                  have X3 : Ints wr (some ⟨g, 0, none⟩) q (t.take q) := ints_row hgg (by rw [List.length_take]; omega) hcapm (fun x hx => hwt x (List.mem_of_mem_take hx)) (fun j hj => by
                    rw [List.length_take] at hj
                    rw [Nat.zero_add, List.getElem?_take, if_pos (by omega)]; exact hcq j (by omega))
                  clear hcq
                  go_wp2_with (go_at_call 10; refine (in_yes _ 0 _ _ c2).mono ?_; rintro e w7 ⟨rfl, rfl⟩)
                  go_still_tail 6, (by kernel_rfl)
                  change wpList _ _ _ _ _ wr.drew
                  refine wp_off rfl (.tmp 93) (.tmp 96) rfl w.heap.size g _ _ _ cur (t.drop q) ⟨g, 0, none⟩ _ _ (t.take q) rfl rfl hgg hbg hBs3 (by rw [List.length_drop]; omega) (by omega) (by omega) (by omega) (fun j hj => by omega) (fun x hx => hwt x (List.mem_of_mem_drop hx)) (by rw [List.length_take]; omega) X3 (by rw [List.length_drop, List.length_take]; omega) ?_
                  intro p8 cap10 w8 hi8 hg8
                  have hi10 := hi9.keep (w' := w8) hg8.size (fun a ea ha => hg8.block a.block ha (fun e => by
                    subst ea
                    rcases hap with h9 | h9
                    · simp [Value.ownBlock] at h9
                    · exact h9 (by simp only [Value.ownBlock]; exact e.symm)))
                  have hb8 : Below w.heap.size w w8 := hBr2.drew.grown hg8 hBs3 (fun k e => by cases e; exact hbg)
                  have hTT := Lib.hid (show (t.drop q ++ t.take q).length = l.length ∧ wthn (t.drop q ++ t.take q) 255 = true ∧ onesum (t.drop q ++ t.take q) = onesum l from ⟨by rw [List.length_append, List.length_drop, List.length_take]; omega, hrot.1, hrot.2.trans hT.out.2.2⟩)
                  clear X3 hrot hap hwt htk hgg hll htl
                  go_wp2_with fail
                  refine (S2.out _ _ _ _ hi8 hTT.out).mono ?_; rintro e w10 ⟨rfl, hb10⟩
                  go_wp2_with fail
                  refine (S3.out _ _ _ (hi10.below hb10)).mono ?_; rintro e w11 ⟨rfl, hb11⟩
                  go_wp2_with fail
                  go_ret
                  exact ⟨rfl, bcall (bcall hb8 hb10) hb11⟩
                · have hqc' : q < cap8 := by omega
                  have hqn : q ≤ t.length := by omega
                  have j1 : (0 : Int) ≤ (q : Int) := by omega
                  have j2 : (q : Int) ≤ (t.length : Int) := by omega
                  have j3 : (t.length : Int) ≤ (cap8 : Int) := by omega
                  have j4 : (q : Int) ≤ (cap8 : Int) := by omega
                  have j5 : (q : Int) < (cap8 : Int) := by omega
                  have j6 : ¬ cap8 = q := by omega
                  clear hqc
                  have hcq : ∀ j : Nat, j < t.length → cur[j]? = some (.int .i64 (t[j]?.getD 0)) := fun j hj => by
                    have h9 : (cur.toList.take (t.length * 1))[j]? = (t.map (Value.int .i64))[j]? := by rw [htk]
                    rw [List.getElem?_take, if_pos (by omega), Array.getElem?_toList, List.getElem?_map, List.getElem?_eq_getElem hj] at h9
                    rw [h9, List.getElem?_eq_getElem hj]
                    rfl
                  have X1 : ∀ j : Nat, j < l.length - q → cur[q + j]? = some (.int .i64 ((t.drop q)[j]?.getD 0)) := fun j hj => by
                    rw [List.getElem?_drop]; exact hcq (q + j) (by omega)
                  have X2 : ∀ x ∈ t.drop q, (Lit.int .i64 x).wf = true := fun x hx => hwt x (List.mem_of_mem_drop hx)
                  have X3 : Ints wr (some ⟨g, 0, none⟩) cap8 (t.take q) := ints_row hgg (by rw [List.length_take]; omega) hcapm (fun x hx => hwt x (List.mem_of_mem_take hx)) (fun j hj => by
                    rw [List.length_take] at hj
                    rw [Nat.zero_add, List.getElem?_take, if_pos (by omega)]; exact hcq j (by omega))
                  clear hcq
                  go_wp2_with (go_at_call 10; refine (in_yes _ 0 _ _ c2).mono ?_; rintro e w7 ⟨rfl, rfl⟩)
                  go_still_tail 6, (by kernel_rfl)
                  change wpList _ _ _ _ _ wr.drew
                  refine wp_off rfl (.tmp 93) (.tmp 96) rfl w.heap.size g q (l.length - q) (cap8 - q) cur (t.drop q) ⟨g, 0, none⟩ q cap8 (t.take q) rfl rfl hgg hbg hBs3 (by rw [List.length_drop]; omega) (by omega) (by omega) (by omega) X1 X2 (by rw [List.length_take]; omega) X3 (by rw [List.length_drop, List.length_take]; omega) ?_
                  intro p8 cap10 w8 hi8 hg8
                  have hi10 := hi9.keep (w' := w8) hg8.size (fun a ea ha => hg8.block a.block ha (fun e => by
                    subst ea
                    rcases hap with h9 | h9
                    · simp [Value.ownBlock] at h9
                    · exact h9 (by simp only [Value.ownBlock]; exact e.symm)))
                  have hb8 : Below w.heap.size w w8 := hBr2.drew.grown hg8 hBs3 (fun k e => by cases e; exact hbg)
                  have hTT := Lib.hid (show (t.drop q ++ t.take q).length = l.length ∧ wthn (t.drop q ++ t.take q) 255 = true ∧ onesum (t.drop q ++ t.take q) = onesum l from ⟨by rw [List.length_append, List.length_drop, List.length_take]; omega, hrot.1, hrot.2.trans hT.out.2.2⟩)
                  clear X1 X2 X3 hrot hap hwt htk hgg hll htl
                  go_wp2_with fail
                  refine (S2.out _ _ _ _ hi8 hTT.out).mono ?_; rintro e w10 ⟨rfl, hb10⟩
                  go_wp2_with fail
                  refine (S3.out _ _ _ (hi10.below hb10)).mono ?_; rintro e w11 ⟨rfl, hb11⟩
                  go_wp2_with fail
                  go_ret
                  exact ⟨rfl, bcall (bcall hb8 hb10) hb11⟩
            · obtain ⟨p8, cap8, rfl, hi8⟩ := ht.form
              have hl8 := hT.out.1
              rw [hl8]
              clear hl8
              go_wp2_with fail
              refine (in_no _ 0 _ _ c2).mono ?_; rintro e w7 ⟨rfl, rfl⟩
              go_wp2_with fail
              refine (S2.out _ _ _ t hi8 hT.out).mono ?_; rintro e w8 ⟨rfl, hb8⟩
              go_wp2_with fail
              refine (S3.out _ _ _ (hi9.below hb8)).mono ?_; rintro e w10 ⟨rfl, hb10⟩
              go_wp2_with fail
              go_ret
              exact ⟨rfl, bcall (bcall hBr2 hb8) hb10⟩
          · have t5 : (a.tmod 2 == 0) = false := by rw [beq_eq_false_iff_ne]; exact c1
            obtain ⟨p8, cap8, rfl, hi8⟩ := ht.form
            have hl8 := hT.out.1
            rw [hl8]
            clear hl8
            go_wp2_with fail
            refine (S2.out _ _ _ t hi8 hT.out).mono ?_; rintro e w8 ⟨rfl, hb8⟩
            go_wp2_with fail
            refine (S3.out _ _ _ (hi9.below hb8)).mono ?_; rintro e w10 ⟨rfl, hb10⟩
            go_wp2_with fail
            go_ret
            exact ⟨rfl, bcall (bcall hBr2 hb8) hb10⟩
    · obtain ⟨q, hq⟩ : ∃ q : Nat, q = 2 * k := ⟨_, rfl⟩
      obtain rfl : j = (q : Int) := by have := hj.out; omega
      have htu' := htu.step hbl he
      rw [← hq] at htu'
      have hh := h.below hBr
      obtain ⟨b, off, rfl, hbw, hc⟩ := h.2.2.2 (by omega)
      have hx := hbl _ (List.getElem_mem (show q < l.length by omega))
      have hy := hbl _ (List.getElem_mem (show q + 1 < l.length by omega))
      have hcx := hc q (by omega)
      have hcy := hc (q + 1) (by omega)
      rw [List.getElem?_eq_getElem (by omega), Option.getD_some] at hcx hcy
      rw [List.getElem?_eq_getElem (by omega), List.getElem?_eq_getElem (by omega), Option.getD_some, Option.getD_some] at htu'
      generalize l[q] = x at hx hcx htu'
      generalize l[q + 1] = y at hy hcy htu'
      have cx := (hBr.cell (p := ⟨b, off + q, none⟩) hbw).trans hcx
      clear hc hcx
      have HQ := Lib.hid hq
      have HT := Lib.hid htu'
      have i1 : q + 1 < l.length := by omega
      have hl1 : t.length ≤ 600 := by omega
      have hBs := hBr.size
      clear hq htu' htu hlt hj hh h
      go_wp2_with (first
        | (at_builtin
           refine wp_app rfl (.tmp 42) (.tmp 47) rfl w.heap.size _ t (some ⟨wr.heap.size, 0, none⟩) 1 1 [x] rfl (hown.alloc _) rfl rfl (Ints.one wr x (wf_small (by omega))) (by simp; omega) (Nat.le_trans hBs (by simp)) ?_
           intro v4 w4 hown4 hg4 hat4
           have hb4 : Below w.heap.size w w4 := below_one hBr hBs _ hown hg4
           have hBs4 := hb4.size
           have cy := (hb4.cell (p := ⟨b, off + (q + 1), none⟩) hbw).trans hcy
           clear hat4)
        | (at_builtin
           refine wp_app rfl (.tmp 49) (.tmp 55) rfl w.heap.size v4 (t ++ [x]) (some ⟨w4.heap.size, 0, none⟩) 1 1 [y] rfl (hown4.alloc _) rfl rfl (Ints.one w4 y (wf_small (by omega))) (by simp; omega) (Nat.le_trans hBs4 (by simp)) ?_
           intro v5 w5 hown5 hg5 hat5
           have hb5 : Below w.heap.size w w5 := below_one hb4 hBs4 _ hown4 hg5
           clear hat5))
      go_roundw
      case rel => exact ⟨_, k, _, hown5, HT.out, rfl, by have := HQ.out; show _ = _; omega, hb5⟩
      case measure => simp [intOf]; omega

theorem law (p : Option Addr) (cap : Nat) (l : List Int) (a : Int) (w : World) (h : Ints w p cap l) :
    Calls Try.prog 5 #[.slice p l.length cap, .int .i64 a] w fun e w' => e = .returned (.bool true) ∧ Below w.heap.size w w' := by
  rcases Nat.mod_two_eq_zero_or_one l.length with he | he
  · by_cases hb : bad l ≠ 0
    · exact law_bad p cap l a w h he hb
    · obtain ⟨hn, hby⟩ := bad_zero hb
      exact law_even p cap l a w h hn hby he
  · exact law_odd p cap l a w h he

theorem reads : Try.f5.params.toList.all (fun t => Try.prog.readableRec t && decide (t < Try.prog.types.size)) = true := by kernel_rfl

theorem contract (H : Type) (enc : TypeId × Value → H) (W : World) (base : Nat) (args : Array Value) (ds gs : List (DataW H)) (before : List MemPlace)
    (hval : ∀ (j : Nat) t v, Try.f5.params[j]? = some t → args[j]? = some v → Value.okWide Try.prog W .any base t v)
    (hW : DataW.Whole enc Try.prog Try.f5.params.toList Rows.onesOrderSpec.vars false W args.toList ds gs before) :
    Calls Try.prog 5 args W fun e W' => ∃ v, e = .returned v ∧ Rows.onesOrderSpec.post enc Try.prog Try.f5 false true false false W args v W' := by
  have hW' := hW
  obtain ⟨p, q, hA0, hV, rfl, hfz, hnd⟩ := hW
  have hA : DataW.TrodAll enc Try.prog W 0 (fun _ => true) true Try.f5.params.toList args.toList ds p := hA0
  have hlt := hA.lt
  rw [Try.params5] at hA hval
  obtain ⟨v0, vs0, d0, ds0, p0, q0, hargs, rfl, rfl, h0, r0⟩ := trodAll_cons hA
  obtain ⟨v1, vs1, d1, ds1, p1, q1, hvs1, rfl, rfl, h1, r1⟩ := trodAll_cons r0
  obtain ⟨hvsn, rfl, rfl⟩ := trodAll_nil r1
  simp only [hvsn, hvs1] at hargs
  obtain rfl : args = #[v0, v1] := by cases args; simp_all
  obtain ⟨rfl, rfl⟩ := trodVars_none hV
  clear hA0
  obtain ⟨p0a, cap0, l0, rfl, i0⟩ := open_intsl Try.underlying26 Try.underlying3 (by kernel_rfl) (hval 0 26 v0 rfl rfl) h0 (fun x hx => hlt x (by simp [hx]))
  obtain ⟨a1, rfl, rfl, rfl, w1⟩ := open_int Try.underlying3 (hval 1 3 v1 rfl rfl) h1
  have b1 := bounds_int w1
  exact law_post 4 laid reads rfl Try.underlying4 rfl hW' ⟨rfl, rfl, rfl⟩ (law p0a cap0 l0 a1 W i0)

set_option maxRecDepth 100000 in
theorem lifted (os : Os) (started : os.Started) (H : Type) (enc : TypeId × Value → H) :
    ReturnsInHanded {} Try.checked os 5 .any (Rows.onesOrderSpec.pre6 enc Try.prog Try.f5 Rows.onesOrderRow.domain false) (Rows.onesOrderSpec.post enc Try.prog Try.f5 false true false false) := by
  refine returnsInHanded_of_change (C := Try.checked) own started (by kernel_rfl) Try.func5
    (ChangeSpec.witness6 (enc := enc) (C := Try.checked) false ⟨#[], #[.slice none 0 0, .int .i64 0], []⟩ 8 (by kernel_rfl) (by kernel_rfl) (by kernel_rfl) (by kernel_rfl)) ?_
  intro W base args ds gs before hval hW _ _
  exact contract H enc W base args ds gs before hval hW

theorem proved : Rows.OnesOrderSaid :=
  OpenClaim.holds_of_wide 5 Try.f5 rfl rfl rfl rfl rfl rfl rfl ⟨rfl, rfl, rfl, rfl, rfl⟩ rfl rfl rfl rfl rfl (by kernel_rfl) Try.func5 (by kernel_rfl)
    (of_decide_eq_true (by kernel_rfl)) (by unfold Func.isWrapper; first | (rw [if_pos (by decide +kernel)]; kernel_rfl) | (rw [if_neg (by decide +kernel)]; exact ⟨rfl, rfl⟩))
    (fun os started H enc _ => lifted os started H enc)
end Go.Proofs.Ytcdpkdhapdajgaa.onesOrderP
