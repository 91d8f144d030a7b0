/- Package learn: others, Port, Frame, Down. No statement is proved here. -/
import Derived.Test.YtbgbmchpikdgoaaDoorLearn1
import Derived.Test.YtbgbmchpikdgoaaDoorSub
namespace Go.Proofs.YtbgbmchpikdgoaaDoor.Learn
open Go.ChangeShapes Go.WideShapes Go.ChangeAt Go.RowKit Go.Proofs.YtbgbmchpikdgoaaDoor.Kit Go.Proofs.YtbgbmchpikdgoaaDoor.App Go.Proofs.YtbgbmchpikdgoaaDoor.Cells Go.Proofs.YtbgbmchpikdgoaaDoor.Err
set_option linter.unusedVariables false
set_option maxRecDepth 20000
set_option maxHeartbeats 1000000

theorem wf_in {n : Int} (h : -9223372036854775808 ≤ n ∧ n ≤ 9223372036854775807) : (Lit.int .i64 n).wf = true := by simp [Lit.wf, IntKind.min, IntKind.max, IntKind.signed, IntKind.bits]; omega
theorem w4 {k : Nat} (h : k ≤ 4) : (Lit.int .i64 (k : Int)).wf = true := wf_in (by omega)
theorem others_any (p : Int) (w : World) : Calls Tryd.prog 24 #[.int .i64 p] w fun e w' => ∃ v, e = .returned v ∧ OwnI w' w.heap.size v (others p) ∧ Below w.heap.size w w' := by
  go_enter Tryd.func24, Tryd.ntmps24
  go_wp2_with fail
  go_loopw [3, 5] (fun lv iv wr => ∃ k : Nat, k ≤ 4 ∧ iv = .int .i64 (k : Int) ∧ OwnI wr w.heap.size lv (oth p k) ∧ Below w.heap.size w wr) (fun _ i _ => 4 - (intOf i).toNat)
  case atStart => exact ⟨0, Nat.zero_le _, rfl, OwnI.nil _ _, brefl _⟩
  case round =>
    obtain ⟨k, hk, rfl, hown, hB⟩ := hrel
    by_cases hlt : k < 4
    · have u1 : decide ((k : Int) < 4) = true := decide_eq_true (by omega)
      have hBs := hB.size
      have hol := oth_len p k
      by_cases hp : (k : Int) = p
      · have u2 : ((k : Int) != p) = false := by rw [bne_eq_false_iff_eq]; exact hp
        have HO := Lib.hid (oth_no hp)
        clear hp
        go_wp2_with fail
        go_roundw
        case rel => exact ⟨k + 1, by omega, by first | rfl | go_num, by rw [HO.out]; exact hown, hB⟩
        case measure => simp [intOf]; omega
      · have u2 : ((k : Int) != p) = true := by rw [bne_iff_ne]; exact hp
        have HO := Lib.hid (oth_yes hp)
        clear hp
        go_wp2_with (at_builtin
                     refine wp_app rfl (.tmp 11) (.tmp 13) rfl w.heap.size _ (oth p k) (some ⟨wr.heap.size, 0, none⟩) 1 1 [(k : Int)] rfl (hown.alloc _) rfl rfl (Ints.one wr (k : Int) (w4 hk)) (by rw [List.length_singleton]; omega) (Nat.le_trans hBs (by simp)) ?_
                     intro v1 wa hown1 hg1 hat1
                     have hb1 : Below w.heap.size w wa := below_one hB hBs _ hown hg1
                     clear hat1 hg1)
        go_roundw
        case rel => exact ⟨k + 1, by omega, by first | rfl | go_num, by rw [HO.out]; exact hown1, hb1⟩
        case measure => simp [intOf]; omega
    · obtain rfl : k = 4 := by omega
      rw [oth_all] at hown
      obtain ⟨q, c, rfl, hI⟩ := hown.form
      generalize (others p).length = n at hI hown
      go_wp2_with fail
      go_ret
      exact ⟨_, rfl, hown, hB⟩

theorem port_any (X : Nat → Prop) (s : Nat) (l : List E) (a : Int) (w : World) (H : Sw X w s l) :
    Calls Tryd.prog 11 #[.pointer (some ⟨s, 0, none⟩), .int .i64 a] w fun e w' => e = .returned (.int .i64 (find l a)) ∧ Below w.heap.size w w' := by
  obtain ⟨hok, v, HV⟩ := H
  obtain ⟨p, cap, e, hi⟩ := HV.own.form
  subst e
  have c0 := HV.blk.cell 0 _ rfl
  have hlen := hi.len_le
  obtain ⟨n, hn⟩ : ∃ n, l.length = n := ⟨_, rfl⟩
  rw [hn] at c0 hlen
  have HN := Lib.hid hn
  have HI := Lib.hid hi
  clear hi HV hok hn
  go_enter Tryd.func11, Tryd.ntmps11
  go_wp2_with fail
  clear c0
  go_loopw [12] (fun iv wr => ∃ k : Nat, k ≤ n ∧ iv = .int .i64 (k : Int) ∧ Hid (Below w.heap.size w wr) ∧ Hid (∀ x ∈ l.take k, x.1 ≠ a)) (fun i _ => n - (intOf i).toNat)
  case atStart => exact ⟨0, Nat.zero_le _, rfl, Lib.hid (brefl w), Lib.hid (by simp)⟩
  case round =>
    obtain ⟨k, hk, rfl, HW, HX⟩ := hrel
    by_cases hlt : k < n
    · have u1 : decide ((k : Int) < (n : Int)) = true := decide_eq_true (by omega)
      have hkl : k < l.length := by rw [HN.out]; exact hlt
      obtain ⟨x, hx⟩ : ∃ x, l[k]? = some x := ⟨_, List.getElem?_eq_getElem hkl⟩
      obtain ⟨b0, off, rfl, _, hc⟩ := (HI.out.below HW.out).2.2 (by omega)
      have hc1 : wr.cell? ⟨b0, off + k * 2, none⟩ = some (.int .i64 x.1) := hc k x hx 0 _ rfl
      have hc2 : wr.cell? ⟨b0, off + k * 2 + 1, none⟩ = some (.int .i64 x.2) := hc k x hx 1 _ rfl
      have HT := Lib.hid (show l.take (k + 1) = l.take k ++ [x] by rw [List.take_add_one, hx]; rfl)
      have HAT := Lib.hid hx
      have HB := Lib.hid (balloc HW.out (.cells #[.int .i64 x.1, .int .i64 x.2] 52))
      obtain ⟨x1, x2⟩ := x
      clear hc hkl hx
      by_cases hxa : x1 = a
      · have u2 : (x1 == a) = true := by rw [beq_iff_eq]; exact hxa
        have HF := Lib.hid (find_at HAT.out hxa HX.out)
        clear hxa
        go_wp2_with fail
        go_ret
        exact ⟨by rw [HF.out]; rfl, HB.out⟩
      · have u2 : (x1 == a) = false := by rw [beq_eq_false_iff_ne]; exact hxa
        have HXA := Lib.hid hxa
        clear hxa
        go_wp2_with fail
        go_roundw
        case rel => exact ⟨k + 1, by omega, by first | rfl | go_num, HB, Lib.hid (by
          rw [HT.out]
          intro y hy
          rcases List.mem_append.1 hy with h | h
          · exact HX.out y h
          · simp at h; rw [h]; exact HXA.out)⟩
        case measure => simp [intOf]; omega
    · obtain rfl : k = n := by omega
      have u1 : decide ((k : Int) < (k : Int)) = false := decide_eq_false (by omega)
      have HF := Lib.hid (find_none (l := l) (a := a) (fun x hx => HX.out x (by rw [List.take_of_length_le (by rw [HN.out]; exact Nat.le_refl _)]; exact hx)))
      go_wp2_with fail
      go_ret
      exact ⟨by rw [HF.out]; rfl, HW.out⟩

theorem isA_no {a : Int} (h : ¬ isA a) : false = decide (isA a) := (decide_eq_false h).symm
theorem isA_yes {a : Int} (h : isA a) : true = decide (isA a) := (decide_eq_true h).symm
theorem isP_no {a : Int} (h : ¬ isP a) : false = decide (isP a) := (decide_eq_false h).symm
theorem isP_yes {a : Int} (h : isP a) : true = decide (isP a) := (decide_eq_true h).symm
theorem frame_bad (s : Nat) (f t p : Int) (w : World) (h : ¬ (isA f ∧ isA t ∧ isP p)) :
    Calls Tryd.prog 10 #[.pointer (some ⟨s, 0, none⟩), .int .i64 f, .int .i64 t, .int .i64 p] w fun e w' => e = .returned (.tuple #[.slice none 0 0, er 1]) ∧ w' = w := by
  rw [er_1]
  by_cases hf : isA f
  · have C1 := Lib.hid (isAddr_any f true (isA_yes hf))
    by_cases ht : isA t
    · have C2 := Lib.hid (isAddr_any t true (isA_yes ht))
      have C3 := Lib.hid (isPort_any p false (isP_no (fun hp => h ⟨hf, ht, hp⟩)))
      clear h hf ht
      go_enter Tryd.func10, Tryd.ntmps10
      go_wp2_with fail
      refine (C1.out _).mono ?_; rintro e w1 ⟨rfl, rfl⟩
      go_wp2_with fail
      refine (C2.out _).mono ?_; rintro e w1 ⟨rfl, rfl⟩
      go_wp2_with fail
      refine (C3.out _).mono ?_; rintro e w1 ⟨rfl, rfl⟩
      go_wp2_with fail
      go_ret2
      exact ⟨rfl, rfl⟩
    · have C2 := Lib.hid (isAddr_any t false (isA_no ht))
      clear h hf ht
      go_enter Tryd.func10, Tryd.ntmps10
      go_wp2_with fail
      refine (C1.out _).mono ?_; rintro e w1 ⟨rfl, rfl⟩
      go_wp2_with fail
      refine (C2.out _).mono ?_; rintro e w1 ⟨rfl, rfl⟩
      go_wp2_with fail
      go_ret2
      exact ⟨rfl, rfl⟩
  · have C1 := Lib.hid (isAddr_any f false (isA_no hf))
    clear h hf
    go_enter Tryd.func10, Tryd.ntmps10
    go_wp2_with fail
    refine (C1.out _).mono ?_; rintro e w1 ⟨rfl, rfl⟩
    go_wp2_with fail
    go_ret2
    exact ⟨rfl, rfl⟩
/-- A result that is new: the switch does not hold its block. -/
theorem Sw.res {X : Nat → Prop} {w w' : World} {s : Nat} {l : List E} {v : Value} {L : List Int} (H : Sw X w s l) (hb : Below w.heap.size w w') (ho : OwnI w' w.heap.size v L) : Sw (fun k => X k ∨ v.ownBlock = some k) w' s l :=
  H.late hb (fun k hk => by
    rcases hk with h | h
    · exact ⟨.inl h, Nat.lt_of_lt_of_le (H.xl k h) hb.size⟩
    · have := ho.lt k h
      exact ⟨.inr this.1, this.2⟩)
theorem frame_good (X : Nat → Prop) (s : Nat) (l : List E) (f t p : Int) (w : World) (H : Sw X w s l) (hf : isA f) (ht : isA t) (hp : isP p) :
    Calls Tryd.prog 10 #[.pointer (some ⟨s, 0, none⟩), .int .i64 f, .int .i64 t, .int .i64 p] w fun e w' => ∃ v, e = .returned (.tuple #[v, er 0]) ∧ OwnI w' w.heap.size v (out (hear l f p) t p) ∧ Sw (fun k => X k ∨ v.ownBlock = some k) w' s (hear l f p) ∧ Keep X w w' := by
  rw [er_0]
  have C1 := Lib.hid (isAddr_any f true (isA_yes hf))
  have C2 := Lib.hid (isAddr_any t true (isA_yes ht))
  have C3 := Lib.hid (isPort_any p true (isP_yes hp))
  have C4 := Lib.hid (hear_any X s l f p w H hf hp)
  have HXL := Lib.hid H.xl
  have HR := Lib.hid (find_rng (hear_ok H.ok hf hp) t)
  have hout : out (hear l f p) t p = if find (hear l f p) t = p then [] else if find (hear l f p) t = -1 then others p else [find (hear l f p) t] := rfl
  have C5 := Lib.hid (fun W (HW : Sw X W s (hear l f p)) => port_any X s (hear l f p) t W HW)
  have C6 := Lib.hid (others_any p)
  generalize hear l f p = m at hout C4 HR C5 ⊢
  generalize out m t p = o at hout ⊢
  generalize find m t = q at hout HR C5
  have HO := Lib.hid hout
  clear hout H hf ht hp
  go_enter Tryd.func10, Tryd.ntmps10
  go_wp2_with fail
  refine (C1.out _).mono ?_; rintro e w1 ⟨rfl, rfl⟩
  go_wp2_with fail
  refine (C2.out _).mono ?_; rintro e w1 ⟨rfl, rfl⟩
  go_wp2_with fail
  refine (C3.out _).mono ?_; rintro e w1 ⟨rfl, rfl⟩
  go_wp2_with fail
  refine C4.out.mono ?_; rintro e w2 ⟨rfl, hs2, hk2⟩
  have HS2 := Lib.hid hs2
  have HK2 := Lib.hid hk2
  clear hs2 hk2 C4 C1 C2 C3
  go_wp2_with fail
  refine (C5.out _ HS2.out).mono ?_; rintro e w3 ⟨rfl, hb3⟩
  have HS3 := Lib.hid (HS2.out.below hb3)
  have HK3 := Lib.hid (HK2.out.trans (Keep.of_below hb3 HS2.out.xl))
  have hsz : w1.heap.size ≤ w3.heap.size := HK3.out.size
  clear hb3 C5 HS2 HK2
  by_cases e1 : q = p
  · have u1 : (q == p) = true := by rw [beq_iff_eq]; exact e1
    have HE := Lib.hid (show o = [] by rw [HO.out, if_pos e1])
    clear e1
    go_wp2_with fail
    go_ret2
    exact ⟨_, rfl, by rw [HE.out]; exact OwnI.nil _ _, HS3.out.res (v := .slice none 0 0) (L := []) (brefl w3) (OwnI.nil _ _), HK3.out⟩
  · have u1 : (q == p) = false := by rw [beq_eq_false_iff_ne]; exact e1
    by_cases e2 : q = -1
    · have u2 : (q == -1) = true := by rw [beq_iff_eq]; exact e2
      have HE := Lib.hid (show o = others p by rw [HO.out, if_neg e1, if_pos e2])
      clear e1 e2
      go_wp2_with fail
      refine (C6.out _).mono ?_; rintro e w4 ⟨v, rfl, ho4, hb4⟩
      have HO4 := Lib.hid ho4
      have HB4 := Lib.hid hb4
      clear ho4 hb4
      go_wp2_with fail
      go_ret2
      exact ⟨v, rfl, by rw [HE.out]; exact own_mono HO4.out hsz, HS3.out.res HB4.out HO4.out, HK3.out.trans (Keep.of_below HB4.out HS3.out.xl)⟩
    · have u2 : (q == -1) = false := by rw [beq_eq_false_iff_ne]; exact e2
      have HE := Lib.hid (show o = [q] by rw [HO.out, if_neg e1, if_neg e2])
      have hq : 0 ≤ q ∧ q ≤ 3 := by
        rcases HR.out with h | h
        · exact absurd h e2
        · exact h.2
      have HL := Lib.hid (lit_own w3 [q] (by intro x hx; simp at hx; rw [hx]; exact wf_in (by omega)) (by simp))
      have HBL := Lib.hid (balloc (brefl w3) (.cells #[.int .i64 q] 3))
      clear e1 e2 hq
      go_wp2_with fail
      go_ret2
      exact ⟨_, rfl, by rw [HE.out]; exact own_mono HL.out hsz, HS3.out.res HBL.out HL.out, HK3.out.trans (Keep.of_below HBL.out HS3.out.xl)⟩

theorem down_bad (s : Nat) (p : Int) (w : World) (h : ¬ isP p) :
    Calls Tryd.prog 8 #[.pointer (some ⟨s, 0, none⟩), .int .i64 p] w fun e w' => e = .returned (.tuple #[.int .i64 0, er 1]) ∧ Below w.heap.size w w' := by
  rw [er_1]
  have C1 := Lib.hid (isPort_any p false (isP_no h))
  clear h
  go_enter Tryd.func8, Tryd.ntmps8
  go_wp2_with fail
  refine (C1.out _).mono ?_; rintro e w1 ⟨rfl, rfl⟩
  go_wp2_with fail
  go_ret2
  exact ⟨rfl, balloc (brefl w) _⟩
theorem down_good (X : Nat → Prop) (s : Nat) (l : List E) (p : Int) (w : World) (H : Sw X w s l) (hp : isP p) :
    Calls Tryd.prog 8 #[.pointer (some ⟨s, 0, none⟩), .int .i64 p] w fun e w' => e = .returned (.tuple #[.int .i64 ((l.length : Int) - ((down l p).length : Int)), er 0]) ∧ Sw X w' s (down l p) ∧ Keep X w w' := by
  rw [er_0]
  have C1 := Lib.hid (isPort_any p true (isP_yes hp))
  have HOK := Lib.hid (down_ok H.ok p)
  have h8 := H.ok.len
  have h8' : (down l p).length ≤ 8 := HOK.out.len
  obtain ⟨hok, v, HV⟩ := H
  obtain ⟨p1, cap1, e1, hi1⟩ := HV.own.form
  obtain ⟨n, hn⟩ : ∃ n, l.length = n := ⟨_, rfl⟩
  obtain ⟨m, hm⟩ : ∃ m, (down l p).length = m := ⟨_, rfl⟩
  rw [hn] at e1 h8 ⊢
  rw [hm] at h8' ⊢
  subst e1
  have HM := Lib.hid hm
  have HB := Lib.hid (Blk.new w 3 [.int .i64 p])
  have H1 := Lib.hid (HV.below (balloc (brefl w) (.cells #[.int .i64 p] 3)))
  have HK1 := Lib.hid (Keep.of_below (X := X) (balloc (brefl w) (.cells #[.int .i64 p] 3)) HV.xl)
  have HBN := Lib.hid (show ∀ k, (Value.slice p1 n cap1).ownBlock = some k → k < w.heap.size from fun k hk => (HV.own.lt k hk).2)
  have c1 := H1.out.blk.cell 0 _ rfl
  clear HV hok hi1 hn hm hp
  go_enter Tryd.func8, Tryd.ntmps8
  go_wp2_with fail
  refine (C1.out _).mono ?_; rintro e w1 ⟨rfl, rfl⟩
  go_wp2_with fail
  refine (delete_any 20 w.heap.size (fun e => e.2 == p) 0 _ l _ (enters_of Tryd.func20 (by kernel_rfl) rfl) (fun W x hW _ => close_down x p w.heap.size W (HB.out.more hW (fun e => by have := HBN.out _ e.symm; omega))) H1.out.own).mono ?_
  rintro e w2 ⟨v2, rfl, ho2, hb2, hg2⟩
  have ho2 : OE w2 0 v2 (down l p) := ho2
  obtain ⟨p2, cap2, e2, hi2⟩ := ho2.form
  rw [HM.out] at e2
  subst e2
  have hb := H1.out.blk.more hg2 (fun e => (H1.out.ne s e.symm).1 rfl)
  have c2 := hb.cell 0 _ rfl
  have f2 := hb.fz 0
  have H2 := Lib.hid (H1.out.turn hg2 (fun k hk => .inl (by rw [← hb2]; exact hk)) ho2)
  have HK2 := Lib.hid (HK1.out.trans (H1.out.keep_turn hg2 (.slice p2 m cap2)))
  have wr1 : IntKind.i64.wrap ((n : Int) - (m : Int)) = (n : Int) - (m : Int) := by rw [IntKind.wrap_i64]; omega
  clear hb hb2 hg2 ho2 c1 H1 HK1 HB hi2
  go_wp2_with fail
  go_ret2
  exact ⟨rfl, ⟨HOK.out, _, H2.out⟩, HK2.out⟩
end Go.Proofs.YtbgbmchpikdgoaaDoor.Learn
