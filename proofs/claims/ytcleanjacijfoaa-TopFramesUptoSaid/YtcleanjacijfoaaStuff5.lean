/- The contract of Frames of package stuff. No statement is proved here. -/
import Derived.Test.YtcleanjacijfoaaStuff4
namespace Go.Proofs.Ytcleanjacijfoaa.Stuff
open Go.ChangeShapes Go.WideShapes Go.ChangeAt Go.RowKit
open Go.Proofs.Ytcleanjacijfoaa.Kit Go.Proofs.Ytcleanjacijfoaa.App Go.Proofs.Ytcleanjacijfoaa.StuffMath
set_option linter.unusedVariables false

theorem fr_len : ∀ (n : Nat) (l : List Int), l.length ≤ n → (fr l).length ≤ n := by
  intro n
  induction n with
  | zero =>
    intro l hl
    have : l = [] := List.eq_nil_of_length_eq_zero (by omega)
    subst this
    rw [fr_none rfl]; simp
  | succ n ih =>
    intro l hl
    cases hc : cutAt l with
    | none => rw [fr_none hc]; simp
    | some i =>
      have := cut_lt hc
      rw [fr_some hc, List.length_append]
      have h1 : (piece (l.take i)).length ≤ 1 := by
        unfold piece
        split
        · split <;> simp
        · simp
      have h2 := ih (l.drop (i + 8)) (by rw [List.length_drop]; omega)
      omega
theorem frames_len (l : List Int) : (frames l).length ≤ l.length := by
  unfold frames
  split
  · simp
  · have := fr_len l.length (l.drop (by assumption + 8)) (by rw [List.length_drop]; omega)
    exact this

def lenS : Value → Nat
  | .slice _ n _ => n
  | _ => 0
def flagS : Value → Nat
  | .bool true => 1
  | _ => 0

theorem frames_bad (p : Option Addr) (cap n : Nat) (l : List Int) (w : World) (hn : n = l.length) (h : Ints w p cap l) (m : Int) (hm : bad l = m) (h0 : m ≠ 0) :
    Calls Try.prog 17 #[.slice p n cap] w fun e w' => e = .returned (.tuple #[.slice none 0 0, .iface 63 (.int .i64 m)]) ∧ w = w' := by
  have C := Lib.hid (check_bad p cap n l w hn h m hm h0)
  clear h hn hm h0
  go_enter Try.func17, Try.ntmps17
  go_wp2_with fail
  refine C.out.mono ?_; rintro e w' ⟨rfl, rfl⟩
  go_wp2_with fail
  go_ret2
  exact ⟨rfl, rfl⟩

theorem cut_rest {w : World} {p : Option Addr} {cap : Nat} {l : List Int} {v1 v2 : Value} {f : Bool} (hC : Cut p cap l v1 v2 f) (h : Ints w p cap l) (hl : l.length ≤ 200) :
    ∃ p2 c2 rest, v2 = .slice p2 rest.length c2 ∧ Ints w p2 c2 rest ∧ rest.length ≤ 200 ∧ frames l = fr rest := by
  rcases hC with ⟨hc, _, rfl, _⟩ | ⟨i, p1, c1, p2, c2, hc, _, rfl, _, hi⟩
  · refine ⟨none, 0, [], rfl, Ints.nil w, by simp, ?_⟩
    unfold frames
    rw [hc, fr_none rfl]
  · refine ⟨p2, c2, l.drop (i + 8), by rw [List.length_drop], (hi w h).2, by rw [List.length_drop]; omega, ?_⟩
    unfold frames
    rw [hc]

theorem piece_none {l : List Int} (h : ust 0 l = none) : piece l = [] := by unfold piece; rw [h]
theorem piece_some {l x : List Int} (h : ust 0 l = some x) : piece l = if 0 < x.length then [x] else [] := by
  have h1 := stf_ust l 0 x (by omega) h
  rw [if_neg (by omega)] at h1
  have h2 := stf_len x 0 (by omega)
  rw [h1] at h2
  unfold piece
  rw [h]
  simp only
  by_cases h0 : 0 < x.length
  · rw [if_pos h0, if_pos (by omega)]
  · rw [if_neg h0, if_neg (by omega)]

theorem own_sep {wr w3 : World} {base n c : Nat} {s : Value} {ls : List (List Int)} {px : Option Addr} {x : List Int} (hown : OwnR wr base s ls) (hx3 : OwnI w3 wr.heap.size (.slice px n c) x) : ∀ a, px = some a → s.ownBlock ≠ some a.block := fun a ha e => by
  subst ha
  have h1 := hx3.lt a.block rfl
  have h2 := hown.lt a.block e
  omega

theorem alloc_cell (w : World) (x : Value) (t : TypeId) : (w.alloc (.cells #[x] t)).cell? ⟨w.heap.size, 0, none⟩ = some x := by
  unfold World.cell?
  rw [alloc_new w]
  rfl

set_option maxHeartbeats 2000000 in
theorem frames_ok (p : Option Addr) (cap n : Nat) (l : List Int) (w : World) (hn : n = l.length) (h : Ints w p cap l) (h0 : bad l = 0) :
    Calls Try.prog 17 #[.slice p n cap] w fun e w' => ∃ v, e = .returned (.tuple #[v, .nilIface]) ∧ OwnR w' w.heap.size v (frames l) ∧ Below w.heap.size w w' := by
  have C := Lib.hid (check_good p cap n l w hn h h0)
  subst hn
  have hl := (bad_zero h0).1
  have K1 := Lib.hid (cut_any p cap l.length l w rfl h (by omega))
  have HL := Lib.hid (frames_len l)
  clear h0
  go_enter Try.func17, Try.ntmps17
  go_wp2_with fail
  refine C.out.mono ?_; rintro e w' ⟨rfl, rfl⟩
  go_wp2_with fail
  refine K1.out.mono ?_; rintro e w1 ⟨v1, v2, f, rfl, hC, hb1⟩
  obtain ⟨p2, c2, rest, rfl, hr, hrl, hfr⟩ := cut_rest hC h hl
  have K2 := Lib.hid (cut_any p2 c2 rest.length rest w1 rfl (hr.below hb1) (by omega))
  have HE0 := Lib.hid hfr
  clear hC K1 C h hfr
  go_wp2_with fail
  refine K2.out.mono ?_; rintro e w2 ⟨v3, v4, f2, rfl, hC2, hb2⟩
  have hB2 := bcall hb1 hb2
  clear K2 hb1 hb2
  go_wp2_with fail
  go_loopw [5, 9, 10, 11] (fun s5 s9 s10 s11 wr => ∃ (fs : List (List Int)) (p2 : Option Addr) (c2 : Nat) (rest : List Int) (f : Bool), Hid (Cut p2 c2 rest s9 s10 f) ∧ s11 = .bool f ∧ Ints w p2 c2 rest ∧ rest.length ≤ 200 ∧ Hid (frames l = fs ++ fr rest) ∧ OwnR wr w.heap.size s5 fs ∧ Below w.heap.size w wr)
    (fun _ _ s10 s11 _ => (lenS s10 + 1) * flagS s11)
  case atStart => exact ⟨[], p2, c2, rest, f2, hC2, rfl, hr, hrl, HE0.out, OwnR.nil _ _, hB2⟩
  case round =>
    clear hr hrl HE0 hC2 hB2
    obtain ⟨fs, p2, c2, rest, f, HC, rfl, hr, hrl, HE, hown, hB⟩ := hrel
    have hB0 := hB.size
    rcases HC.out with ⟨hc0, rfl, rfl, rfl⟩ | ⟨i, p3, c3, p4, c4, hc0, rfl, rfl, rfl, hi⟩
    · go_wp2_with fail
      go_ret2
      refine ⟨_, rfl, ?_, hB⟩
      rw [HE.out, fr_none hc0, List.append_nil]
      exact hown
    · have hlt := cut_lt hc0
      have HF := Lib.hid (show frames l = (fs ++ piece (rest.take i)) ++ fr (rest.drop (i + 8)) by rw [HE.out, fr_some hc0, List.append_assoc])
      have hfl : fs.length ≤ 200 := by
        have h1 := congrArg List.length HE.out
        rw [List.length_append] at h1
        have := HL.out
        omega
      have hi1 := (hi w hr).1
      have hi2 := (hi w hr).2
      have U := Lib.hid (fun R hR => unstuff_any p3 c3 i (rest.take i) wr (by rw [List.length_take]; omega) (hi1.below hB) (by rw [List.length_take]; omega) R hR)
      have K := Lib.hid (fun W (hW : Below w.heap.size w W) => cut_any p4 c4 (rest.length - (i + 8)) (rest.drop (i + 8)) W (by rw [List.length_drop]) (hi2.below hW) (by rw [List.length_drop]; omega))
      have I2 := Lib.hid hi2
      have LD := Lib.hid (show (rest.drop (i + 8)).length = rest.length - (i + 8) by rw [List.length_drop])
      have next : ∀ (s5 s9 s10 : Value) (f : Bool) (fs' : List (List Int)) (W : World), Cut p4 c4 (rest.drop (i + 8)) s9 s10 f → frames l = fs' ++ fr (rest.drop (i + 8)) → OwnR W w.heap.size s5 fs' → Below w.heap.size w W →
          ∃ (fs : List (List Int)) (p2 : Option Addr) (c2 : Nat) (rest : List Int) (f' : Bool), Hid (Cut p2 c2 rest s9 s10 f') ∧ Value.bool f = .bool f' ∧ Ints w p2 c2 rest ∧ rest.length ≤ 200 ∧ Hid (frames l = fs ++ fr rest) ∧ OwnR W w.heap.size s5 fs ∧ Below w.heap.size w W :=
        fun s5 s9 s10 f fs' W hc hf ho hb => ⟨fs', p4, c4, _, f, hc, rfl, I2.out, by rw [LD.out]; omega, hf, ho, hb⟩
      have less : ∀ (s9 s10 : Value) (f : Bool), Cut p4 c4 (rest.drop (i + 8)) s9 s10 f → (lenS s10 + 1) * flagS (.bool f) < (lenS (.slice p4 (rest.length - (i + 8)) c4) + 1) * flagS (.bool true) := by
        intro s9 s10 f hc
        rcases hc with ⟨_, rfl, rfl, rfl⟩ | ⟨i', _, _, _, _, hc', rfl, rfl, rfl, _⟩
        · simp [lenS, flagS]
        · have := cut_lt hc'
          rw [LD.out] at this
          rw [LD.out]
          simp only [lenS, flagS]
          omega
      have Next := Lib.hid next
      have Less := Lib.hid less
      clear next less hi hi1 hi2 hr HC HE hc0
      cases hu : ust 0 (rest.take i) with
      | none =>
        have HF' := Lib.hid (show frames l = fs ++ fr (rest.drop (i + 8)) by rw [HF.out, piece_none hu, List.append_nil])
        have U' := Lib.hid (U.out none hu.symm)
        clear U hu HF
        go_wp2_with fail
        refine U'.out.mono ?_; rintro e w3 ⟨v, rfl, _, hb3⟩
        have hB3 := hB.trans (hb3.mono hB0)
        have ho3 := hown.below hb3
        go_wp2_with fail
        refine (K.out w3 hB3).mono ?_; rintro e w4 ⟨s9, s10, f, rfl, hC, hb4⟩
        have hB4 := hB3.trans (hb4.mono hB3.size)
        have ho4 := ho3.below hb4
        go_wp2_with fail
        go_roundw
        case rel => exact Next.out _ _ _ _ _ _ hC HF'.out ho4 hB4
        case measure => exact Less.out _ _ _ hC
      | some x =>
        have U' := Lib.hid (U.out (some x) hu.symm)
        by_cases hx : 0 < x.length
        · have HF' := Lib.hid (show frames l = (fs ++ [x]) ++ fr (rest.drop (i + 8)) by rw [HF.out, piece_some hu, if_pos hx])
          have tx : decide ((0 : Int) < (x.length : Int)) = true := decide_eq_true (by omega)
          clear U hu HF
          go_wp2_with fail
          refine U'.out.mono ?_; rintro e w3 ⟨v, rfl, ho, hb3⟩
          have hx3 := ho x rfl
          obtain ⟨px, cx, rfl, hix⟩ := hx3.form
          have hlx := hix.len_le
          have hsep := own_sep hown hx3
          have hB3 := hB.trans (hb3.mono hB0)
          have ho3 := hown.below hb3
          have hB30 := hB3.size
          have hc3 := alloc_cell w3 (.slice px x.length cx) 22
          have Hsep := Lib.hid hsep
          clear hsep ho hx3
          go_wp2_with (at_builtin
                       refine wp_appR rfl (.tmp 49) (.tmp 51) rfl w.heap.size _ fs ⟨w3.heap.size, 0, none⟩ px x.length cx x rfl (ho3.below (balloc (brefl w3) _)) rfl hc3 rfl (hix.below (balloc (brefl w3) _)) hx Hsep.out (by omega) (Nat.le_trans hB30 (by simp)) ?_
                       intro v5 w5 ho5 hg5 hat5
                       have hB5 : Below w.heap.size w w5 := below_appR (hB3.alloc hB30 _) (ho3.below (balloc (brefl w3) _)) hg5 (Nat.le_trans hB30 (by simp))
                       clear hg5 hat5)
          refine (K.out w5 hB5).mono ?_; rintro e w4 ⟨s9, s10, f, rfl, hC, hb4⟩
          have hB4 := hB5.trans (hb4.mono hB5.size)
          have ho4 := ho5.below hb4
          go_wp2_with fail
          go_roundw
          case rel => exact Next.out _ _ _ _ _ _ hC HF'.out ho4 hB4
          case measure => exact Less.out _ _ _ hC
        · have HF' := Lib.hid (show frames l = fs ++ fr (rest.drop (i + 8)) by rw [HF.out, piece_some hu, if_neg hx, List.append_nil])
          have tx : decide ((0 : Int) < (x.length : Int)) = false := decide_eq_false (by omega)
          clear U hu HF
          go_wp2_with fail
          refine U'.out.mono ?_; rintro e w3 ⟨v, rfl, ho, hb3⟩
          have hx3 := ho x rfl
          obtain ⟨px, cx, rfl, hix⟩ := hx3.form
          have hlx := hix.len_le
          have hB3 := hB.trans (hb3.mono hB0)
          have ho3 := hown.below hb3
          clear ho hx3
          go_wp2_with fail
          refine (K.out w3 hB3).mono ?_; rintro e w4 ⟨s9, s10, f, rfl, hC, hb4⟩
          have hB4 := hB3.trans (hb4.mono hB3.size)
          have ho4 := ho3.below hb4
          go_wp2_with fail
          go_roundw
          case rel => exact Next.out _ _ _ _ _ _ hC HF'.out ho4 hB4
          case measure => exact Less.out _ _ _ hC
end Go.Proofs.Ytcleanjacijfoaa.Stuff
