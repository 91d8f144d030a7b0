/- The contract of the document's frames. No statement is proved here. -/
import Derived.Test.YtfgkbogccaiceaaDoorStuffRef
import Derived.Deep.RegionHeld3
import Derived.StillTailTactics
namespace Go.Proofs.YtfgkbogccaiceaaDoor.Stuff
open Go.ChangeShapes Go.WideShapes Go.ChangeAt Go.RowKit
open Go.Proofs.YtfgkbogccaiceaaDoor.Kit Go.Proofs.YtfgkbogccaiceaaDoor.App Go.Proofs.YtfgkbogccaiceaaDoor.StuffMath
set_option linter.unusedVariables false

/-- What holds at place i, behind the flag that ended at bg (if there was one). -/
def St (l : List Int) (i : Nat) (fs : List (List Int)) : Option Nat → Prop
  | none => fs = [] ∧ ∀ j : Nat, j < i → flagAt l j = false
  | some b => b ≤ i ∧ frames l = fs ++ fr (l.drop b) ∧ ∀ j : Nat, b ≤ j → j < i → flagAt l j = false
def bgI : Option Nat → Int
  | none => -1
  | some b => b
theorem St.stop {l : List Int} {i : Nat} {fs : List (List Int)} {bg : Option Nat} (h : St l i fs bg) (hi : l.length < i + 8) : frames l = fs := by
  have far : ∀ j : Nat, i ≤ j → flagAt l j = false := fun j hj => by
    cases hf : flagAt l j with
    | false => rfl
    | true => have := flagAt_len hf; omega
  cases bg with
  | none =>
    obtain ⟨rfl, h2⟩ := h
    unfold frames
    rw [cut_none l (fun j _ => by
      by_cases hj : j < i
      · exact h2 j hj
      · exact far j (by omega))]
  | some b =>
    obtain ⟨h1, h2, h3⟩ := h
    rw [h2, fr_none (cut_none _ (fun j _ => by
      rw [flagAt_drop]
      by_cases hj : b + j < i
      · exact h3 _ (by omega) hj
      · exact far _ (by omega))), List.append_nil]
theorem St.skip {l : List Int} {i : Nat} {fs : List (List Int)} {bg : Option Nat} (h : St l i fs bg) (hf : flagAt l i = false) : St l (i + 1) fs bg := by
  have step : ∀ (P : Nat → Prop), (∀ j, j < i → P j) → P i → ∀ j, j < i + 1 → P j := fun P h1 h2 j hj => by
    by_cases e : j = i
    · rw [e]; exact h2
    · exact h1 j (by omega)
  cases bg with
  | none => exact ⟨h.1, step _ h.2 hf⟩
  | some b => exact ⟨by have := h.1; omega, h.2.1, fun j hb hj => step (fun j => b ≤ j → flagAt l j = false) (fun j hj hb => h.2.2 j hb hj) (fun _ => hf) j hj hb⟩
theorem St.first {l : List Int} {i : Nat} {fs : List (List Int)} (h : St l i fs none) (hf : flagAt l i = true) : St l (i + 8) fs (some (i + 8)) := by
  obtain ⟨rfl, h2⟩ := h
  refine ⟨Nat.le_refl _, ?_, fun j h1 h2 => by omega⟩
  unfold frames
  rw [cut_some l i hf h2]
  rfl
theorem St.next {l : List Int} {i b : Nat} {fs : List (List Int)} (h : St l i fs (some b)) (hf : flagAt l i = true) : St l (i + 8) (fs ++ piece ((l.drop b).take (i - b))) (some (i + 8)) := by
  obtain ⟨h1, h2, h3⟩ := h
  refine ⟨Nat.le_refl _, ?_, fun j h1 h2 => by omega⟩
  have hc : cutAt (l.drop b) = some (i - b) := cut_some _ _ (by rw [flagAt_drop, show b + (i - b) = i by omega]; exact hf) (fun j hj => by rw [flagAt_drop]; exact h3 _ (by omega) (by omega))
  rw [h2, fr_some hc, List.drop_drop, List.append_assoc, show b + (i - b + 8) = i + 8 by omega]
theorem St.len {l : List Int} {i : Nat} {fs : List (List Int)} {bg : Option Nat} (h : St l i fs bg) : fs.length ≤ l.length := by
  cases bg with
  | none => rw [h.1]; simp
  | some b =>
    have h1 := congrArg List.length h.2.1
    rw [List.length_append] at h1
    have := frames_len l
    omega
theorem ints8 {W : World} {base g : Nat} (h : OwnI W base (.slice (some ⟨g, 0, none⟩) 8 8) flg) : Ints W (some ⟨g, 0, none⟩) 8 flg := by
  obtain ⟨p, c, e, hi⟩ := h.form
  injection e with e1 e2 e3
  subst e1; subst e3
  exact hi
theorem sub_bits {l : List Int} (h : binl l = true) (k m : Nat) : binl ((l.drop k).take m) = true :=
  List.all_eq_true.2 fun x hx => List.all_eq_true.1 h x (List.mem_of_mem_drop (List.mem_of_mem_take hx))
theorem piece_nil : piece [] = [] := by
  unfold piece
  simp [ust]

set_option maxHeartbeats 2000000 in
theorem rframes_any (p : Option Addr) (cap n : Nat) (l : List Int) (w : World) (hn : n = l.length) (h : Ints w p cap l) (h0 : bad l = 0) :
    Calls Tryd.prog 8 #[.slice p n cap] w fun e w' => ∃ v, e = .returned v ∧ OwnR w' w.heap.size v (frames l) ∧ Below w.heap.size w w' := by
  subst hn
  have hl := (bad_zero h0).1
  have hlen := h.len_le
  have hbits := Lib.hid (bad_zero h0).2
  have hcap := h.1
  have hcapm := h.2.1
  have hcapm' : cap ≤ 9223372036854775807 := by unfold maxLen at hcapm; omega
  clear h0
  go_enter Tryd.func8, Tryd.ntmps8
  go_wp2_with fail
  go_loopw [3, 4, 5] (fun s3 s4 s5 wr => ∃ (i : Nat) (fs : List (List Int)) (bg : Option Nat), i ≤ l.length ∧ s5 = .int .i64 i ∧ s4 = .int .i64 (bgI bg) ∧ OwnR wr w.heap.size s3 fs ∧ Hid (St l i fs bg) ∧ Below w.heap.size w wr)
    (fun _ _ s5 _ => l.length + 1 - (intOf s5).toNat)
  case atStart => exact ⟨0, [], none, Nat.zero_le _, rfl, rfl, OwnR.nil _ _, ⟨rfl, fun j hj => absurd hj (Nat.not_lt_zero _)⟩, brefl _⟩
  case round =>
    obtain ⟨i, fs, bg, hi, rfl, hs4, hown, HS, hB⟩ := hrel
    have hB0 := hB.size
    have hfl := HS.out.len
    by_cases hlt : i + 8 ≤ l.length
    · obtain ⟨b, off, rfl, hbw, _⟩ := h.2.2.2 (by omega)
      have SM := fun R hR W g (hW : Below w.heap.size w W) (hf : Ints W (some ⟨g, 0, none⟩) 8 flg) => same_any (some ⟨b, off + i, none⟩) (some ⟨g, 0, none⟩) (cap - i) 8 8 8 ((l.drop i).take 8) flg W (by rw [List.length_take, List.length_drop]; omega) rfl
        (ints_sub (h.below hW) i 8 (cap - i) (by omega) (by omega) (by omega)) hf R hR
      have i0 : (0 : Int) ≤ (i : Int) := by omega
      have i1 : (i : Int) + 8 ≤ (cap : Int) := by omega
      have i2 : (i : Int) ≤ (i : Int) + 8 := by omega
      have i3 : ((i : Int) + 8).toNat = i + 8 := by omega
      have q1 : IntKind.i64.wrap ((i : Int) + 8) = (i : Int) + 8 := IntWalk.i64_in _ (by omega)
      cases hf : flagAt l i with
      | false =>
        have SM' := Lib.hid (SM false hf.symm)
        have HS' := Lib.hid (HS.out.skip hf)
        clear SM hf
        subst hs4
        go_wp2_with fail
        go_region_held3 (fun W' => True)
          (first
            | trivial
            | go_keep)
          (first
            | (go_at_call 16; refine (rflag_any _).mono ?_; rintro e w1 ⟨rfl, hf1, hb1⟩)
            | (go_at_call 20; refine (SM'.out w1 _ (hB.drew.trans (hb1.mono hB0)) (ints8 hf1)).mono ?_; rintro e w2 ⟨rfl, hb2⟩))
        have hB1 := hB.drew.trans (hb1.mono hB0)
        have hB2 := hB1.trans (hb2.mono hB1.size)
        have hB2s := hB2.size
        have ho2 := (OwnR.below (w := wr.drew) hown hb1).below hb2
        clear hf1 hb1 hb2 hB1
        go_wp2_with fail
        go_roundw
        case rel => exact ⟨i + 1, fs, bg, by omega, by go_num, rfl, ho2, HS'.out, hB2⟩
        case measure => simp [intOf]; omega
      | true =>
        have SM' := Lib.hid (SM true hf.symm)
        clear SM
        cases bg with
        | none =>
          have HS' := Lib.hid (HS.out.first hf)
          have hs4' : _ = Value.int .i64 (-1) := hs4
          clear hf hs4
          subst hs4'
          go_wp2_with fail
          go_region_held3 (fun W' => True)
            (first
              | trivial
              | go_keep)
            (first
              | (go_at_call 16; refine (rflag_any _).mono ?_; rintro e w1 ⟨rfl, hf1, hb1⟩)
              | (go_at_call 20; refine (SM'.out w1 _ (hB.drew.trans (hb1.mono hB0)) (ints8 hf1)).mono ?_; rintro e w2 ⟨rfl, hb2⟩))
          have hB1 := hB.drew.trans (hb1.mono hB0)
          have hB2 := hB1.trans (hb2.mono hB1.size)
          have hB2s := hB2.size
          have ho2 := (OwnR.below (w := wr.drew) hown hb1).below hb2
          clear hf1 hb1 hb2 hB1
          go_wp2_with fail
          go_roundw
          case rel => exact ⟨i + 8, fs, some (i + 8), by omega, by go_num, by go_num, ho2, HS'.out, hB2⟩
          case measure => simp [intOf]; omega
        | some b0 =>
          have hb0 := HS.out.1
          have hnx := HS.out.next hf
          have hs4' : _ = Value.int .i64 (b0 : Int) := hs4
          clear hf hs4
          subst hs4'
          by_cases he : b0 < i
          · have tb : decide ((b0 : Int) < (i : Int)) = true := decide_eq_true (by omega)
            have hsb := fun W (hW : Below w.heap.size w W) => ints_sub (h.below hW) b0 (i - b0) (cap - b0) (by omega) (by omega) (by omega)
            have hpl : ((l.drop b0).take (i - b0)).length = i - b0 := by rw [List.length_take, List.length_drop]; omega
            have hpb : bad ((l.drop b0).take (i - b0)) = 0 := bad_of (by omega) (sub_bits hbits.out b0 (i - b0))
            obtain ⟨pc, hpc⟩ : ∃ pc, (l.drop b0).take (i - b0) = pc := ⟨_, rfl⟩
            rw [hpc] at hsb hpl hpb hnx
            have U := Lib.hid (fun R hR W (hW : Below w.heap.size w W) => runstuff_any (some ⟨b, off + b0, none⟩) (cap - b0) (i - b0) pc W hpl.symm (hsb W hW) hpb R hR)
            clear hpc hsb hpb
            cases hu : ust 0 pc with
            | none =>
              rw [piece_none hu, List.append_nil] at hnx
              have HS' := Lib.hid hnx
              have U' := Lib.hid (U.out false (by rw [hu]; rfl))
              clear U hu hnx hpl
              go_wp2_with fail
              go_region_held3 (fun W' => True)
                (first
                  | trivial
                  | go_keep)
                (first
                  | (go_at_call 16; refine (rflag_any _).mono ?_; rintro e w1 ⟨rfl, hf1, hb1⟩)
                  | (go_at_call 20; refine (SM'.out w1 _ (hB.drew.trans (hb1.mono hB0)) (ints8 hf1)).mono ?_; rintro e w2 ⟨rfl, hb2⟩))
              have hB1 := hB.drew.trans (hb1.mono hB0)
              have hB2 := hB1.trans (hb2.mono hB1.size)
              have hB2s := hB2.size
              have ho2 := (OwnR.below (w := wr.drew) hown hb1).below hb2
              clear hf1 hb1 hb2 hB1
              go_wp2_with fail
              refine (U'.out w2 hB2).mono ?_; rintro e w3 ⟨v, rfl, hv, hb3⟩
              have hB3 := hB2.trans (hb3.mono hB2s)
              have ho3 := ho2.below hb3
              go_wp2_with fail
              go_roundw
              case rel => exact ⟨i + 8, fs, some (i + 8), by omega, by go_num, by go_num, ho3, HS'.out, hB3⟩
              case measure => simp [intOf]; omega
            | some x =>
              have hxl : 0 < x.length := by
                have h1 := stf_ust pc 0 x (by omega) hu
                rw [if_neg (by omega)] at h1
                have h2 := stf_len x 0 (by omega)
                rw [h1, hpl] at h2
                omega
              rw [piece_some hu, if_pos hxl] at hnx
              have HS' := Lib.hid hnx
              have hr := rmv_ust pc 0 x hu
              have U' := Lib.hid (fun W hW => U.out true (by rw [hu]; rfl) W hW)
              rw [hr] at U'
              clear U hu hnx hpl hr
              go_wp2_with fail
              go_region_held3 (fun W' => True)
                (first
                  | trivial
                  | go_keep)
                (first
                  | (go_at_call 16; refine (rflag_any _).mono ?_; rintro e w1 ⟨rfl, hf1, hb1⟩)
                  | (go_at_call 20; refine (SM'.out w1 _ (hB.drew.trans (hb1.mono hB0)) (ints8 hf1)).mono ?_; rintro e w2 ⟨rfl, hb2⟩))
              have hB1 := hB.drew.trans (hb1.mono hB0)
              have hB2 := hB1.trans (hb2.mono hB1.size)
              have hB2s := hB2.size
              have ho2 := (OwnR.below (w := wr.drew) hown hb1).below hb2
              clear hf1 hb1 hb2 hB1
              go_wp2_with fail
              refine (U'.out w2 hB2).mono ?_; rintro e w3 ⟨v, rfl, hv, hb3⟩
              have hB3 := hB2.trans (hb3.mono hB2s)
              have ho3 := ho2.below hb3
              have hB30 := hB3.size
              obtain ⟨px, cx, rfl, hix⟩ := hv.form
              have hlx := hix.len_le
              have Hsep := Lib.hid (own_sep ho2 hv)
              have hc3 := alloc_cell w3 (.slice px x.length cx) 22
              clear hv
              go_wp2_with (first
                | (at_builtin
                   refine wp_appR rfl (.tmp 39) (.tmp 41) rfl w.heap.size _ fs ⟨w3.heap.size, 0, none⟩ px x.length cx x rfl (ho3.below (balloc (brefl w3) _)) rfl hc3 rfl (hix.below (balloc (brefl w3) _)) hxl Hsep.out (by omega) (Nat.le_trans hB30 (by simp)) ?_
                   intro v5 w5 ho5 hg5 hat5
                   have hB5 : Below w.heap.size w w5 := below_appR (hB3.alloc hB30 _) (ho3.below (balloc (brefl w3) _)) hg5 (Nat.le_trans hB30 (by simp))
                   clear hg5 hat5))
              go_roundw
              case rel => exact ⟨i + 8, fs ++ [x], some (i + 8), by omega, by go_num, by go_num, ho5, HS'.out, hB5⟩
              case measure => simp [intOf]; omega
          · have tb : decide ((b0 : Int) < (i : Int)) = false := decide_eq_false (by omega)
            rw [show i - b0 = 0 by omega, List.take_zero, piece_nil, List.append_nil] at hnx
            have HS' := Lib.hid hnx
            clear hnx
            go_wp2_with fail
            go_region_held3 (fun W' => True)
              (first
                | trivial
                | go_keep)
              (first
                | (go_at_call 16; refine (rflag_any _).mono ?_; rintro e w1 ⟨rfl, hf1, hb1⟩)
                | (go_at_call 20; refine (SM'.out w1 _ (hB.drew.trans (hb1.mono hB0)) (ints8 hf1)).mono ?_; rintro e w2 ⟨rfl, hb2⟩))
            have hB1 := hB.drew.trans (hb1.mono hB0)
            have hB2 := hB1.trans (hb2.mono hB1.size)
            have hB2s := hB2.size
            have ho2 := (OwnR.below (w := wr.drew) hown hb1).below hb2
            clear hf1 hb1 hb2 hB1
            go_wp2_with fail
            go_roundw
            case rel => exact ⟨i + 8, fs, some (i + 8), by omega, by go_num, by go_num, ho2, HS'.out, hB2⟩
            case measure => simp [intOf]; omega
    · have t1 : decide ((i : Int) + 8 ≤ (l.length : Int)) = false := decide_eq_false (by omega)
      have hE := HS.out.stop (by omega)
      subst hs4
      go_wp2_with fail
      go_ret
      refine ⟨_, rfl, ?_, hB⟩
      rw [hE]
      exact hown
end Go.Proofs.YtfgkbogccaiceaaDoor.Stuff
