/- Contracts of Check, count, Stuff, unstuff and Unstuff of package stuff. No statement is proved here. -/
import Derived.Test.YtcleanjacijfoaaAppOff
import Derived.Test.YtcleanjacijfoaaStuffMath
namespace Go.Proofs.Ytcleanjacijfoaa.Stuff
open Go.ChangeShapes Go.WideShapes Go.ChangeAt Go.RowKit
open Go.Proofs.Ytcleanjacijfoaa.Kit Go.Proofs.Ytcleanjacijfoaa.App Go.Proofs.Ytcleanjacijfoaa.StuffMath
set_option linter.unusedVariables false

/-- What is wrong with some bits. -/
def bad (l : List Int) : Int := if 200 < l.length then 4 else if binl l = true then 0 else 1
theorem bad_zero {l : List Int} (h : bad l = 0) : l.length ≤ 200 ∧ binl l = true := by
  unfold bad at h
  by_cases h1 : 200 < l.length
  · simp [h1] at h
  · rw [if_neg h1] at h
    split at h
    · rename_i h2; exact ⟨by omega, h2⟩
    · cases h
theorem bad_of {l : List Int} (h : l.length ≤ 200) (hb : binl l = true) : bad l = 0 := by
  unfold bad; rw [if_neg (by omega), if_pos hb]

theorem bit_get {l : List Int} (h : binl l = true) (k : Nat) : l[k]?.getD 0 = 0 ∨ l[k]?.getD 0 = 1 := by
  by_cases hk : k < l.length
  · have := List.all_eq_true.1 h _ (List.getElem_mem hk)
    rw [List.getElem?_eq_getElem hk]
    simpa using this
  · rw [List.getElem?_eq_none (by omega)]; exact .inl rfl
theorem bits_of {l : List Int} (h : ∀ k : Nat, k < l.length → l[k]?.getD 0 = 0 ∨ l[k]?.getD 0 = 1) : binl l = true := by
  refine List.all_eq_true.2 fun x hx => ?_
  obtain ⟨k, hk, rfl⟩ := List.getElem_of_mem hx
  have := h k hk
  rw [List.getElem?_eq_getElem hk] at this
  simpa using this
theorem bits_false {l : List Int} {k : Nat} (h : ¬ (l[k]?.getD 0 = 0 ∨ l[k]?.getD 0 = 1)) : binl l = false := by
  cases hb : binl l with
  | false => rfl
  | true => exact absurd (bit_get hb k) h
theorem drop_get {l : List Int} {k : Nat} (h : k < l.length) : l.drop k = l[k]?.getD 0 :: l.drop (k + 1) := by
  rw [List.drop_eq_getElem_cons h, List.getElem?_eq_getElem h]; rfl

theorem ret_eq {a b : Value} (h : a = b) : Ending.returned a = .returned b := by rw [h]

theorem check_full (p : Option Addr) (cap n : Nat) (l : List Int) (w : World) (hn : n = l.length) (h : Ints w p cap l) (hl : 200 < l.length) :
    Calls Try.prog 22 #[.slice p n cap] w fun e w' => e = .returned (.iface 63 (.int .i64 4)) ∧ w = w' := by
  subst hn
  have hlen := h.len_le
  go_enter Try.func22, Try.ntmps22
  go_wp2
  go_ret
  exact ⟨rfl, rfl⟩

set_option maxHeartbeats 400000 in
theorem check_loop (p : Option Addr) (cap n : Nat) (l : List Int) (w : World) (hn : n = l.length) (h : Ints w p cap l) (hl : l.length ≤ 200) (R : Value) (hR0 : R = if binl l = true then .nilIface else .iface 63 (.int .i64 1)) :
    Calls Try.prog 22 #[.slice p n cap] w fun e w' => e = .returned R ∧ w = w' := by
  subst hn
  have hR := Lib.hid hR0
  clear hR0
  have hlen := h.len_le
  go_enter Try.func22, Try.ntmps22
  go_wp2
  go_loop [11] (fun i => ∃ k : Nat, k ≤ l.length ∧ i = .int .i64 k ∧ Hid (∀ j : Nat, j < k → l[j]?.getD 0 = 0 ∨ l[j]?.getD 0 = 1)) (fun i => l.length - (intOf i).toNat)
  case atStart => exact ⟨0, Nat.zero_le _, rfl, fun j hj => absurd hj (Nat.not_lt_zero _)⟩
  case round =>
    obtain ⟨k, hk, rfl, H⟩ := hrel
    by_cases hlt : k < l.length
    · obtain ⟨b, off, rfl, _, hc⟩ := h.2.2.2 (by omega)
      have hck := hc k hlt
      clear hc h
      obtain ⟨x, hx⟩ : ∃ x, l[k]?.getD 0 = x := ⟨_, rfl⟩
      rw [hx] at hck
      have Hx := Lib.hid hx
      clear hx
      by_cases h1 : x = 0
      · subst h1
        go_wp2
        go_round
        case rel => exact ⟨k + 1, by omega, by go_num, fun j hj => by
          by_cases e : j = k
          · rw [e, Hx.out]; exact .inl rfl
          · exact H.out j (by omega)⟩
        case measure => simp [intOf]; omega
      · have t1 : (x != 0) = true := by simpa using h1
        by_cases h2 : x = 1
        · subst h2
          go_wp2
          go_round
          case rel => exact ⟨k + 1, by omega, by go_num, fun j hj => by
            by_cases e : j = k
            · rw [e, Hx.out]; exact .inr rfl
            · exact H.out j (by omega)⟩
          case measure => simp [intOf]; omega
        · have t2 : (x != 1) = true := by simpa using h2
          go_wp2
          go_ret
          exact ⟨by rw [hR.out, bits_false (k := k) (by rw [Hx.out]; omega)]; rfl, rfl⟩
    · obtain rfl : k = l.length := by omega
      go_wp2
      go_ret
      exact ⟨by rw [hR.out, bits_of H.out]; rfl, rfl⟩

theorem check_bad (p : Option Addr) (cap n : Nat) (l : List Int) (w : World) (hn : n = l.length) (h : Ints w p cap l) (m : Int) (hm : bad l = m) (h0 : m ≠ 0) :
    Calls Try.prog 22 #[.slice p n cap] w fun e w' => e = .returned (.iface 63 (.int .i64 m)) ∧ w = w' := by
  subst hm
  by_cases h1 : 200 < l.length
  · rw [show bad l = 4 by unfold bad; rw [if_pos h1]]
    exact check_full p cap n l w hn h h1
  · have hb : binl l = false := by
      cases hb : binl l with
      | false => rfl
      | true => exact absurd (bad_of (by omega) hb) h0
    rw [show bad l = 1 by unfold bad; rw [if_neg h1, hb]; rfl]
    exact check_loop p cap n l w hn h (by omega) _ (by rw [hb]; rfl)
theorem check_good (p : Option Addr) (cap n : Nat) (l : List Int) (w : World) (hn : n = l.length) (h : Ints w p cap l) (h0 : bad l = 0) :
    Calls Try.prog 22 #[.slice p n cap] w fun e w' => e = .returned .nilIface ∧ w = w' := by
  exact check_loop p cap n l w hn h (bad_zero h0).1 _ (by rw [(bad_zero h0).2]; rfl)

theorem count_any (c : Nat) (b : Int) (w : World) (hc : c ≤ 10) :
    Calls Try.prog 23 #[.int .i64 c, .int .i64 b] w fun e w' => e = .returned (.int .i64 (cnt c b : Nat)) ∧ w = w' := by
  unfold cnt
  by_cases h1 : b = 0
  · subst h1
    go_enter Try.func23, Try.ntmps23
    go_wp2
    go_ret
    exact ⟨rfl, rfl⟩
  · rw [if_neg h1]
    have t1 : (b == 0) = false := by simpa using h1
    go_enter Try.func23, Try.ntmps23
    go_wp2
    go_ret
    exact ⟨rfl, rfl⟩

theorem stuff_bad (p : Option Addr) (cap n : Nat) (l : List Int) (w : World) (hn : n = l.length) (h : Ints w p cap l) (m : Int) (hm : bad l = m) (h0 : m ≠ 0) :
    Calls Try.prog 14 #[.slice p n cap] w fun e w' => e = .returned (.tuple #[.slice none 0 0, .iface 63 (.int .i64 m)]) ∧ w = w' := by
  have C := Lib.hid (check_bad p cap n l w hn h m hm h0)
  clear h hn hm h0
  go_enter Try.func14, Try.ntmps14
  go_wp2_with fail
  refine C.out.mono ?_; rintro e w' ⟨rfl, rfl⟩
  go_wp2_with fail
  go_ret2
  exact ⟨rfl, rfl⟩
theorem below_one {W w w' : World} {base : Nat} {v : Value} {xs : List Int} (hb : Below base W w) (hB : base ≤ w.heap.size) (o : Obj) (hown : OwnI w base v xs) (hg : (w.alloc o).grownBy w' v.ownBlock) : Below base W w' :=
  below_app (hb.alloc hB o) (hown.alloc o) hg (Nat.le_trans hB (by simp))

theorem stf_step {o l : List Int} {c k : Nat} (h : o ++ stf c (l.drop k) = stf 0 l) (hk : k < l.length) {x : Int} (hx : l[k]?.getD 0 = x) :
    (cnt c x = 5 → (o ++ [x] ++ [0]) ++ stf 0 (l.drop (k + 1)) = stf 0 l) ∧ (cnt c x ≠ 5 → (o ++ [x]) ++ stf (cnt c x) (l.drop (k + 1)) = stf 0 l) := by
  subst hx
  rw [drop_get hk, stf] at h
  constructor
  · intro h5; rw [if_pos h5] at h; rw [← h]; simp
  · intro h5; rw [if_neg h5] at h; rw [← h]; simp

set_option maxHeartbeats 1000000 in
theorem stuff_ok (p : Option Addr) (cap n : Nat) (l : List Int) (w : World) (hn : n = l.length) (h : Ints w p cap l) (h0 : bad l = 0) :
    Calls Try.prog 14 #[.slice p n cap] w fun e w' => ∃ v, e = .returned (.tuple #[v, .nilIface]) ∧ OwnI w' w.heap.size v (stf 0 l) ∧ Below w.heap.size w w' := by
  have C := Lib.hid (check_good p cap n l w hn h h0)
  subst hn
  have hb := Lib.hid (bad_zero h0).2
  have hl := (bad_zero h0).1
  have hlen := h.len_le
  have HL := Lib.hid (stf_len l 0 (by omega))
  clear h0
  go_enter Try.func14, Try.ntmps14
  go_wp2_with fail
  refine C.out.mono ?_; rintro e w' ⟨rfl, rfl⟩
  go_wp2_with fail
  go_loopw [5, 6, 16] (fun v o i wr => ∃ (k c : Nat) (out : List Int), k ≤ l.length ∧ c ≤ 4 ∧ o = .int .i64 c ∧ i = .int .i64 k ∧ OwnI wr w.heap.size v out ∧ Hid (out ++ stf c (l.drop k) = stf 0 l) ∧ Below w.heap.size w wr) (fun _ _ i _ => l.length - (intOf i).toNat)
  case atStart => exact ⟨0, 0, [], Nat.zero_le _, by omega, rfl, rfl, OwnI.nil _ _, rfl, brefl _⟩
  case round =>
    obtain ⟨k, c, out, hk, hc4, rfl, rfl, hown, HE, hB⟩ := hrel
    by_cases hlt : k < l.length
    · obtain ⟨b, off, rfl, hbw, hc⟩ := h.2.2.2 (by omega)
      have hck := (hB.cell (p := ⟨b, off + k, none⟩) hbw).trans (hc k hlt)
      have hxw := h.2.2.1 k
      have hbit := bit_get hb.out k
      clear hc
      obtain ⟨x, hx⟩ : ∃ x, l[k]?.getD 0 = x := ⟨_, rfl⟩
      rw [hx] at hck hxw hbit
      have HS := Lib.hid (stf_step HE.out hlt hx)
      have hol : out.length ≤ 240 := by
        have h1 := congrArg List.length HE.out
        rw [List.length_append] at h1
        have := HL.out
        omega
      have hd5 := @cnt_le c x hc4
      have hct := count_any c x
      obtain ⟨d, hd⟩ : ∃ d, cnt c x = d := ⟨_, rfl⟩
      rw [hd] at HS hd5 hct
      have CT := Lib.hid hct
      clear hx hct hd
      have hBs := hB.size
      by_cases h5 : d = 5
      · subst h5
        go_wp2_with (at_builtin
                     refine wp_app rfl (.tmp 20) (.tmp 22) rfl w.heap.size _ out (some ⟨wr.heap.size, 0, none⟩) 1 1 [x] rfl (hown.alloc _) rfl rfl (Ints.one wr x hxw) (by simp; omega) (Nat.le_trans hBs (by simp)) ?_
                     intro v1 w1 hown1 hg1 hat1
                     have hb1 : Below w.heap.size w w1 := below_one hB hBs _ hown hg1
                     clear hat1 hg1)
        refine (CT.out _ (by omega)).mono ?_; rintro e w2 ⟨rfl, rfl⟩
        have hBs1 := hb1.size
        go_wp2_with (at_builtin
                     refine wp_app rfl (.tmp 29) (.tmp 30) rfl w.heap.size v1 (out ++ [x]) (some ⟨w1.heap.size, 0, none⟩) 1 1 [0] rfl (hown1.alloc _) rfl rfl (Ints.one w1 0 wf_zero) (by simp; omega) (Nat.le_trans hBs1 (by simp)) ?_
                     intro v2 w2 hown2 hg2 hat2
                     have hb2 : Below w.heap.size w w2 := below_one hb1 hBs1 _ hown1 hg2
                     clear hat2 hg2)
        go_roundw
        case rel => exact ⟨k + 1, 0, _, by omega, by omega, rfl, by go_num, hown2, HS.out.1 (by first | trivial | rfl), hb2⟩
        case measure => simp [intOf]; omega
      · have t5 : ((d : Int) == 5) = false := by rw [beq_eq_false_iff_ne]; omega
        go_wp2_with (at_builtin
                     refine wp_app rfl (.tmp 20) (.tmp 22) rfl w.heap.size _ out (some ⟨wr.heap.size, 0, none⟩) 1 1 [x] rfl (hown.alloc _) rfl rfl (Ints.one wr x hxw) (by simp; omega) (Nat.le_trans hBs (by simp)) ?_
                     intro v1 w1 hown1 hg1 hat1
                     have hb1 : Below w.heap.size w w1 := below_one hB hBs _ hown hg1
                     clear hat1 hg1)
        refine (CT.out _ (by omega)).mono ?_; rintro e w2 ⟨rfl, rfl⟩
        go_wp2_with fail
        go_roundw
        case rel => exact ⟨k + 1, d, _, by omega, by omega, rfl, by go_num, hown1, HS.out.2 h5, hb1⟩
        case measure => simp [intOf]; omega
    · obtain rfl : k = l.length := by omega
      go_wp2_with fail
      go_ret2
      refine ⟨_, rfl, ?_, hB⟩
      have := HE.out
      rw [List.drop_length, stf, List.append_nil] at this
      rw [← this]
      exact hown

theorem ust_step {l o : List Int} {c k : Nat} {R : Option (List Int)} (h : R = (ust c (l.drop k)).map (o ++ ·)) (hk : k < l.length) {x : Int} (hx : l[k]?.getD 0 = x) :
    (c < 5 → R = (ust (cnt c x) (l.drop (k + 1))).map ((o ++ [x]) ++ ·)) ∧ (¬ c < 5 → x = 0 → R = (ust 0 (l.drop (k + 1))).map (o ++ ·)) ∧ (¬ c < 5 → x ≠ 0 → R = none) := by
  subst hx
  rw [drop_get hk, ust] at h
  refine ⟨fun h5 => ?_, fun h5 h0 => ?_, fun h5 h0 => ?_⟩
  · rw [if_pos h5, Option.map_map] at h
    rw [h]
    congr 1
    funext y
    simp
  · rw [if_neg h5, if_pos h0] at h; exact h
  · rw [if_neg h5, if_neg h0] at h; exact h

set_option maxHeartbeats 1000000 in
theorem unstuff_any (p : Option Addr) (cap n : Nat) (l : List Int) (w : World) (hn : n = l.length) (h : Ints w p cap l) (hl : l.length ≤ 1000) (R : Option (List Int)) (hR : R = ust 0 l) :
    Calls Try.prog 25 #[.slice p n cap] w fun e w' => ∃ v, e = .returned (.tuple #[v, .bool R.isSome]) ∧ (∀ x, R = some x → OwnI w' w.heap.size v x) ∧ Below w.heap.size w w' := by
  subst hn
  have hlen := h.len_le
  have hR0 : Hid (R = (ust 0 (l.drop 0)).map ([] ++ ·)) := by
    show R = _
    rw [hR, List.drop_zero]
    cases ust 0 l <;> rfl
  clear hR
  go_enter Try.func25, Try.ntmps25
  go_wp2
  go_loopw [2, 4, 9] (fun v o i wr => ∃ (k c : Nat) (out : List Int), k ≤ l.length ∧ c ≤ 5 ∧ o = .int .i64 c ∧ i = .int .i64 k ∧ OwnI wr w.heap.size v out ∧ out.length ≤ k ∧ Hid (R = (ust c (l.drop k)).map (out ++ ·)) ∧ Below w.heap.size w wr) (fun _ _ i _ => l.length - (intOf i).toNat)
  case atStart => exact ⟨0, 0, [], Nat.zero_le _, by omega, rfl, rfl, OwnI.nil _ _, by simp, hR0, brefl _⟩
  case round =>
    obtain ⟨k, c, out, hk, hc5, rfl, rfl, hown, hol, HE, hB⟩ := hrel
    by_cases hlt : k < l.length
    · obtain ⟨b, off, rfl, hbw, hc⟩ := h.2.2.2 (by omega)
      have hck := (hB.cell (p := ⟨b, off + k, none⟩) hbw).trans (hc k hlt)
      have hxw := h.2.2.1 k
      clear hc
      obtain ⟨x, hx⟩ : ∃ x, l[k]?.getD 0 = x := ⟨_, rfl⟩
      rw [hx] at hck hxw
      have HS := Lib.hid (ust_step HE.out hlt hx)
      have hct := count_any c x
      have hd5 : c < 5 → cnt c x ≤ 5 := fun hc => cnt_le (by omega)
      obtain ⟨d, hd⟩ : ∃ d, cnt c x = d := ⟨_, rfl⟩
      rw [hd] at HS hct hd5
      have CT := Lib.hid hct
      clear hx hct hd
      have hBs := hB.size
      by_cases h5 : c < 5
      · have t5 : decide ((c : Int) < 5) = true := decide_eq_true (by omega)
        have hd5' := hd5 h5
        go_wp2_with (at_builtin
                     refine wp_app rfl (.tmp 15) (.tmp 17) rfl w.heap.size _ out (some ⟨wr.heap.size, 0, none⟩) 1 1 [x] rfl (hown.alloc _) rfl rfl (Ints.one wr x hxw) (by simp; omega) (Nat.le_trans hBs (by simp)) ?_
                     intro v1 w1 hown1 hg1 hat1
                     have hb1 : Below w.heap.size w w1 := below_one hB hBs _ hown hg1
                     clear hat1 hg1)
        refine (CT.out _ (by omega)).mono ?_; rintro e w2 ⟨rfl, rfl⟩
        go_wp2_with fail
        go_roundw
        case rel => exact ⟨k + 1, d, _, by omega, hd5', rfl, by go_num, hown1, by simp; omega, HS.out.1 h5, hb1⟩
        case measure => simp [intOf]; omega
      · have t5 : decide ((c : Int) < 5) = false := decide_eq_false (by omega)
        by_cases h1 : x = 0
        · subst h1
          go_wp2_with fail
          go_roundw
          case rel => exact ⟨k + 1, 0, _, by omega, by omega, rfl, by go_num, hown, by omega, HS.out.2.1 h5 rfl, hB⟩
          case measure => simp [intOf]; omega
        · have t1 : (x != 0) = true := by simpa using h1
          go_wp2_with fail
          go_ret2
          have hn := HS.out.2.2 h5 h1
          exact ⟨.slice none 0 0, by rw [hn]; exact rfl, (fun y hy => by rw [hn] at hy; cases hy), hB⟩
    · obtain rfl : k = l.length := by omega
      have hE := HE.out
      rw [List.drop_length, ust] at hE
      by_cases h5 : c < 5
      · have t5 : decide ((c : Int) < 5) = true := decide_eq_true (by omega)
        rw [if_pos h5] at hE
        have hE' : R = some out := by rw [hE]; simp
        have HE' := Lib.hid hE'
        clear hE hE' HE
        go_wp2_with fail
        go_ret2
        exact ⟨u2, by rw [HE'.out]; exact rfl, (fun y hy => by rw [HE'.out] at hy; injection hy with hy; rw [← hy]; exact hown), hB⟩
      · have t5 : decide ((c : Int) < 5) = false := decide_eq_false (by omega)
        rw [if_neg h5] at hE
        have HE' := Lib.hid (show R = none from hE)
        clear hE HE
        go_wp2_with fail
        go_ret2
        exact ⟨u2, by rw [HE'.out]; exact rfl, (fun y hy => by rw [HE'.out] at hy; cases hy), hB⟩

end Go.Proofs.Ytcleanjacijfoaa.Stuff
