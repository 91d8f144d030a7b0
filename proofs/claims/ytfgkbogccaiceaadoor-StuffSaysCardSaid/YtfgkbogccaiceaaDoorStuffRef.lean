/- Contracts of the document's answers about bits. No statement is proved here. -/
import Derived.Test.YtfgkbogccaiceaaDoorStuff5
namespace Go.Proofs.YtfgkbogccaiceaaDoor.Stuff
open Go.ChangeShapes Go.WideShapes Go.ChangeAt Go.RowKit
open Go.Proofs.YtfgkbogccaiceaaDoor.Kit Go.Proofs.YtfgkbogccaiceaaDoor.App Go.Proofs.YtfgkbogccaiceaaDoor.StuffMath
set_option linter.unusedVariables false

theorem rin_yes (n a b : Int) (w : World) (h : a ≤ n ∧ n ≤ b) : Calls Tryd.prog 24 #[.int .i64 n, .int .i64 a, .int .i64 b] w fun e w' => e = .returned (.bool true) ∧ w = w' := by
  obtain ⟨h1, h2⟩ := h
  have t1 : decide (a ≤ n) = true := decide_eq_true h1
  have t2 : decide (n ≤ b) = true := decide_eq_true h2
  go_enter Tryd.func24, Tryd.ntmps24
  go_wp2
  go_ret
  exact ⟨rfl, rfl⟩
theorem rin_no (n a b : Int) (w : World) (h : ¬ (a ≤ n ∧ n ≤ b)) : Calls Tryd.prog 24 #[.int .i64 n, .int .i64 a, .int .i64 b] w fun e w' => e = .returned (.bool false) ∧ w = w' := by
  by_cases h1 : a ≤ n
  · have h2 : ¬ n ≤ b := fun h2 => h ⟨h1, h2⟩
    clear h
    have t1 : decide (a ≤ n) = true := decide_eq_true h1
    have t2 : decide (n ≤ b) = false := decide_eq_false h2
    go_enter Tryd.func24, Tryd.ntmps24
    go_wp2
    go_ret
    exact ⟨rfl, rfl⟩
  · clear h
    have t1 : decide (a ≤ n) = false := decide_eq_false h1
    go_enter Tryd.func24, Tryd.ntmps24
    go_wp2
    go_ret
    exact ⟨rfl, rfl⟩

theorem all_any (p : Option Addr) (cap n : Nat) (l : List Int) (w : World) (hn : n = l.length) (h : Ints w p cap l) (R : Bool) (hR0 : R = binl l) :
    Calls Tryd.prog 17 #[.slice p n cap, .int .i64 0, .int .i64 1] w fun e w' => e = .returned (.bool R) ∧ w = w' := by
  subst hn
  have hR := Lib.hid hR0
  clear hR0
  have hlen := h.len_le
  go_enter Tryd.func17, Tryd.ntmps17
  go_wp2
  go_loop [7] (fun i => ∃ k : Nat, k ≤ l.length ∧ i = .int .i64 k ∧ Hid (∀ j : Nat, j < k → l[j]?.getD 0 = 0 ∨ l[j]?.getD 0 = 1)) (fun i => l.length - (intOf i).toNat)
  case atStart => exact ⟨0, Nat.zero_le _, rfl, fun j hj => absurd hj (Nat.not_lt_zero _)⟩
  case round =>
    obtain ⟨k, hk, rfl, H⟩ := hrel
    by_cases hlt : k < l.length
    · obtain ⟨b, off, rfl, _, hc⟩ := h.2.2.2 (by omega)
      have hck := hc k hlt
      clear hc h
      obtain ⟨x, hx⟩ : ∃ x, l[k]?.getD 0 = x := ⟨_, rfl⟩
      rw [hx] at hck
      have Hx := Lib.hid hx
      clear hx
      by_cases h1 : 0 ≤ x ∧ x ≤ 1
      · go_wp2_with (go_at_call 24; refine (rin_yes x 0 1 _ h1).mono ?_; rintro e w' ⟨rfl, rfl⟩)
        go_round
        case rel => exact ⟨k + 1, by omega, by go_num, fun j hj => by
          by_cases e : j = k
          · rw [e, Hx.out]; omega
          · exact H.out j (by omega)⟩
        case measure => simp [intOf]; omega
      · go_wp2_with (go_at_call 24; refine (rin_no x 0 1 _ h1).mono ?_; rintro e w' ⟨rfl, rfl⟩)
        go_ret
        exact ⟨by rw [hR.out, bits_false (k := k) (by rw [Hx.out]; omega)]; rfl, rfl⟩
    · obtain rfl : k = l.length := by omega
      go_wp2
      go_ret
      exact ⟨by rw [hR.out, bits_of H.out]; rfl, rfl⟩

theorem bits_any (p : Option Addr) (cap n : Nat) (l : List Int) (w : World) (hn : n = l.length) (h : Ints w p cap l) (m : Int) (hm : bad l = m) :
    Calls Tryd.prog 4 #[.slice p n cap, .int .i64 200] w fun e w' => e = .returned (.int .i64 m) ∧ w = w' := by
  have hlen := h.len_le
  by_cases h1 : 200 < l.length
  · have e : m = 4 := by rw [← hm]; simp [bad, h1]
    subst e
    subst hn
    clear hm
    go_enter Tryd.func4, Tryd.ntmps4
    go_wp2
    go_ret
    exact ⟨rfl, rfl⟩
  · have h2 : l.length ≤ 200 := by omega
    have e : m = if binl l = true then 0 else 1 := by rw [← hm]; simp [bad, h1]
    cases hy : binl l with
    | true =>
      rw [hy] at e
      have e' : m = 0 := e
      clear e
      subst e'
      have C := Lib.hid (all_any p cap n l w hn h true hy.symm)
      subst hn
      clear hm hy h1
      go_enter Tryd.func4, Tryd.ntmps4
      go_wp2_with (go_at_call 17; refine C.out.mono ?_; rintro e w' ⟨rfl, rfl⟩)
      go_ret
      exact ⟨rfl, rfl⟩
    | false =>
      rw [hy] at e
      have e' : m = 1 := e
      clear e
      subst e'
      have C := Lib.hid (all_any p cap n l w hn h false hy.symm)
      subst hn
      clear hm hy h1
      go_enter Tryd.func4, Tryd.ntmps4
      go_wp2_with (go_at_call 17; refine C.out.mono ?_; rintro e w' ⟨rfl, rfl⟩)
      go_ret
      exact ⟨rfl, rfl⟩

/-- Just c ones at the end. -/
def Tr (l : List Int) (c : Nat) : Prop := ∃ a, l = a ++ List.replicate c 1 ∧ (a = [] ∨ ∃ a' x, a = a' ++ [x] ∧ x ≠ 1)
theorem Tr.nil : Tr [] 0 := ⟨[], rfl, .inl rfl⟩
theorem Tr.zero (l : List Int) : Tr (l ++ [0]) 0 := ⟨l ++ [0], by simp, .inr ⟨l, 0, rfl, by decide⟩⟩
theorem Tr.one {l : List Int} {c : Nat} (h : Tr l c) : Tr (l ++ [1]) (c + 1) := by
  obtain ⟨a, rfl, ha⟩ := h
  exact ⟨a, by rw [List.replicate_succ', List.append_assoc], ha⟩
theorem Tr.snoc {l : List Int} {c : Nat} (h : Tr l c) {x : Int} (hx : x = 0 ∨ x = 1) : Tr (l ++ [x]) (cnt c x) := by
  rcases hx with rfl | rfl
  · have : cnt c 0 = 0 := by simp [cnt]
    rw [this]; exact Tr.zero l
  · have : cnt c 1 = c + 1 := by simp [cnt]
    rw [this]; exact h.one
theorem Tr.len {l : List Int} {c : Nat} (h : Tr l c) : c ≤ l.length := by
  obtain ⟨a, rfl, _⟩ := h
  simp
theorem Tr.get {l : List Int} {c : Nat} (h : Tr l c) {k : Nat} (hk : k < c) : l[l.length - 1 - k]?.getD 0 = 1 := by
  obtain ⟨a, rfl, _⟩ := h
  rw [List.length_append, List.length_replicate, List.getElem?_append_right (by omega), List.getElem?_replicate, if_pos (by omega)]
  rfl
theorem Tr.stop {l : List Int} {c : Nat} (h : Tr l c) (hc : c < l.length) : l[l.length - 1 - c]?.getD 0 ≠ 1 := by
  obtain ⟨a, rfl, rfl | ⟨a', x, rfl, hx⟩⟩ := h
  · simp at hc
  · rw [List.length_append, List.length_replicate, List.length_append, List.getElem?_append_left (by first | (simp; done) | (simp; omega)), List.getElem?_append_right (by first | (simp; done) | (simp; omega))]
    have : a'.length + [x].length + c - 1 - c - a'.length = 0 := by simp
    rw [this]
    simpa using hx

set_option maxHeartbeats 1000000 in
theorem five_any (p : Option Addr) (cap n : Nat) (l : List Int) (w : World) (hn : n = l.length) (h : Ints w p cap l) (c : Nat) (hT : Tr l c) :
    Calls Tryd.prog 19 #[.slice p n cap] w fun e w' => e = .returned (.int .i64 c) ∧ w = w' := by
  have hlen := h.len_le
  have hcl := hT.len
  have HT := Lib.hid hT
  clear hT
  go_enter Tryd.func19, Tryd.ntmps19
  go_wp2
  go_loop [3] (fun i => ∃ k : Nat, k ≤ c ∧ i = .int .i64 k) (fun i => c + 1 - (intOf i).toNat)
  case atStart => exact ⟨0, Nat.zero_le _, rfl⟩
  case round =>
    obtain ⟨k, hk, rfl⟩ := hrel
    by_cases hlt : k < l.length
    · obtain ⟨b, off, rfl, _, hc⟩ := h.2.2.2 (by omega)
      have hck := hc (l.length - 1 - k) (by omega)
      have tk : decide ((k : Int) < (n : Int)) = true := decide_eq_true (by omega)
      obtain ⟨j, hj⟩ : ∃ j, j = l.length - 1 - k := ⟨_, rfl⟩
      have j1 : (n : Int) - 1 - (k : Int) = (j : Int) := by omega
      have j2 : j < n := by omega
      have hne : n ≤ 9223372036854775807 := by omega
      have hkn : k < n := by omega
      have Hn := Lib.hid hn
      clear hc h
      by_cases hkc : k < c
      · have e1 := HT.out.get hkc
        rw [e1] at hck
        rw [← hj] at hck
        clear e1 hj hn hlt hlen hcl
        go_wp2
        go_round
        case rel => exact ⟨k + 1, by omega, by go_num⟩
        case measure => simp [intOf]; omega
      · obtain rfl : k = c := by omega
        have e1 := HT.out.stop hlt
        rw [← hj] at hck e1
        obtain ⟨x, hx⟩ : ∃ x, l[j]?.getD 0 = x := ⟨_, rfl⟩
        rw [hx] at hck e1
        have t1 : (x == 1) = false := beq_eq_false_iff_ne.2 e1
        clear hj hn hlt hlen hcl hx e1
        go_wp2
        go_ret
        exact ⟨rfl, rfl⟩
    · have tk : decide ((k : Int) < (n : Int)) = false := decide_eq_false (by omega)
      obtain rfl : k = c := by omega
      have Hn := Lib.hid hn
      have hkn : ¬ k < n := by omega
      clear hn hlt hcl hlen
      go_wp2
      go_ret
      exact ⟨rfl, rfl⟩

set_option maxHeartbeats 1000000 in
theorem same_any_q (p q : Option Addr) (cap cap2 n m : Nat) (a b : List Int) (w : World) (hn : n = a.length) (hm : m = b.length) (ha : Ints w p cap a) (hb : Ints w q cap2 b) (R : Bool) (hR0 : R = (a == b)) :
    Calls Tryd.prog 20 #[.slice p n cap, .slice q m cap2] w fun e w' => e = .returned (.bool R) ∧ ∃ m, w' = w.drewN m := by
  have hR := Lib.hid hR0
  clear hR0
  subst hn; subst hm
  have hla := ha.len_le
  have hlb := hb.len_le
  by_cases hlen : a.length = b.length
  · have t0 : ((a.length : Int) != (b.length : Int)) = false := by rw [hlen]; simp
    go_enter Tryd.func20, Tryd.ntmps20
    go_wp2
    go_loopw [5] (fun i wr => ∃ k m : Nat, k ≤ a.length ∧ i = .int .i64 k ∧ Hid (∀ j : Nat, j < k → a[j]?.getD 0 = b[j]?.getD 0) ∧ wr = w.drewN m) (fun i _ => a.length - (intOf i).toNat)
    case atStart => exact ⟨0, 0, Nat.zero_le _, rfl, fun j hj => absurd hj (Nat.not_lt_zero _), rfl⟩
    case round =>
      obtain ⟨k, m, hk, rfl, H, rfl⟩ := hrel
      by_cases hlt : k < a.length
      · obtain ⟨b1, off1, rfl, hb1, hc1⟩ := ha.2.2.2 (by omega)
        obtain ⟨b2, off2, rfl, hb2, hc2⟩ := hb.2.2.2 (by omega)
        have hk1 := hc1 k hlt
        have hk2 := hc2 k (by omega)
        have hltb : k < b.length := by omega
        clear hc1 hc2 ha hb
        obtain ⟨x, hx⟩ : ∃ x, a[k]?.getD 0 = x := ⟨_, rfl⟩
        obtain ⟨y, hy⟩ : ∃ y, b[k]?.getD 0 = y := ⟨_, rfl⟩
        rw [hx] at hk1
        rw [hy] at hk2
        have Hx := Lib.hid hx
        have Hy := Lib.hid hy
        clear hx hy
        by_cases h1 : x = y
        · subst h1
          have t1 : (x != x) = false := by simp
          go_wp2_with (go_region)
          go_roundw
          case rel => exact ⟨k + 1, m + 1, by omega, by go_num, fun j hj => by
            by_cases e : j = k
            · rw [e, Hx.out, Hy.out]
            · exact H.out j (by omega), rfl⟩
          case measure => simp [intOf]; omega
        · have t1 : (x != y) = true := by simpa using h1
          go_wp2_with (go_region)
          go_ret
          refine ⟨by rw [hR.out, beq_eq_false_iff_ne.2 (fun e => h1 (by rw [← Hx.out, ← Hy.out, e]))]; rfl, m + 1, rfl⟩
      · obtain rfl : k = a.length := by omega
        go_wp2
        go_ret
        exact ⟨by rw [hR.out, beq_iff_eq.2 (eq_of_get hlen H.out)]; rfl, m, rfl⟩
  · have t0 : ((a.length : Int) != (b.length : Int)) = true := by rw [bne_iff_ne]; omega
    have hR' : R = false := by rw [hR.out]; exact beq_eq_false_iff_ne.2 (fun e => hlen (by rw [e]))
    clear hR
    subst hR'
    go_enter Tryd.func20, Tryd.ntmps20
    go_wp2
    go_ret
    exact ⟨rfl, 0, rfl⟩
theorem same_any (p q : Option Addr) (cap cap2 n m : Nat) (a b : List Int) (w : World) (hn : n = a.length) (hm : m = b.length) (ha : Ints w p cap a) (hb : Ints w q cap2 b) (R : Bool) (hR0 : R = (a == b)) :
    Calls Tryd.prog 20 #[.slice p n cap, .slice q m cap2] w fun e w' => e = .returned (.bool R) ∧ Below w.heap.size w w' := by
  refine (same_any_q p q cap cap2 n m a b w hn hm ha hb R hR0).mono ?_
  rintro e w' ⟨rfl, m, rfl⟩
  exact ⟨rfl, below_drewN (brefl w) m⟩

theorem stf_step_tr {o l : List Int} {c k : Nat} (h : o ++ stf c (l.drop k) = stf 0 l) (hT : Tr o c) (hb : binl l = true) (hk : k < l.length) {x : Int} (hx : l[k]?.getD 0 = x) :
    Tr (o ++ [x]) (cnt c x) := hT.snoc (by rw [← hx]; exact bit_get hb k)

set_option maxHeartbeats 1000000 in
theorem rstuff_any (p : Option Addr) (cap n : Nat) (l : List Int) (w : World) (hn : n = l.length) (h : Ints w p cap l) (h0 : bad l = 0) :
    Calls Tryd.prog 7 #[.slice p n cap] w fun e w' => ∃ v, e = .returned v ∧ OwnI w' w.heap.size v (stf 0 l) ∧ Below w.heap.size w w' := by
  subst hn
  have hb := Lib.hid (bad_zero h0).2
  have hl := (bad_zero h0).1
  have hlen := h.len_le
  have HL := Lib.hid (stf_len l 0 (by omega))
  clear h0
  go_enter Tryd.func7, Tryd.ntmps7
  go_wp2_with fail
  go_loopw [3, 4] (fun v i wr => ∃ (k c : Nat) (out : List Int), k ≤ l.length ∧ c ≤ 4 ∧ i = .int .i64 k ∧ OwnI wr w.heap.size v out ∧ Hid (out ++ stf c (l.drop k) = stf 0 l) ∧ Hid (Tr out c) ∧ Below w.heap.size w wr) (fun _ i _ => l.length - (intOf i).toNat)
  case atStart => exact ⟨0, 0, [], Nat.zero_le _, by omega, rfl, OwnI.nil _ _, rfl, Tr.nil, brefl _⟩
  case round =>
    obtain ⟨k, c, out, hk, hc4, rfl, hown, HE, HT, hB⟩ := hrel
    by_cases hlt : k < l.length
    · obtain ⟨b, off, rfl, hbw, hc⟩ := h.2.2.2 (by omega)
      have hck := (hB.cell (p := ⟨b, off + k, none⟩) hbw).trans (hc k hlt)
      have hxw := h.2.2.1 k
      clear hc
      obtain ⟨x, hx⟩ : ∃ x, l[k]?.getD 0 = x := ⟨_, rfl⟩
      rw [hx] at hck hxw
      have HS := Lib.hid (stf_step HE.out hlt hx)
      have hT2 := stf_step_tr HE.out HT.out hb.out hlt hx
      have hol : out.length ≤ 240 := by
        have h1 := congrArg List.length HE.out
        rw [List.length_append] at h1
        have := HL.out
        omega
      have hd5 := @cnt_le c x hc4
      obtain ⟨d, hd⟩ : ∃ d, cnt c x = d := ⟨_, rfl⟩
      rw [hd] at HS hd5 hT2
      have HT2 := Lib.hid hT2
      have F := Lib.hid (fun q cq m W hm hi => five_any q cq m (out ++ [x]) W hm hi d hT2)
      clear hx hd hT2
      have hBs := hB.size
      by_cases h5 : d = 5
      · subst h5
        go_wp2_with (first
          | (at_builtin
             refine wp_app rfl (.tmp 11) (.tmp 16) rfl w.heap.size _ out (some ⟨wr.heap.size, 0, none⟩) 1 1 [x] rfl (hown.alloc _) rfl rfl (Ints.one wr x hxw) (by simp; omega) (Nat.le_trans hBs (by simp)) ?_
             intro v1 w1 hown1 hg1 hat1
             have hb1 : Below w.heap.size w w1 := below_one hB hBs _ hown hg1
             obtain ⟨p1, c1, rfl, hi1⟩ := hown1.form
             have hl1 := hi1.len_le
             simp only [List.length_append, List.length_cons, List.length_nil, Nat.zero_add] at hown1 hl1
             clear hat1 hg1))
        refine (F.out _ _ _ w1 (by simp) hi1).mono ?_; rintro e w2 ⟨rfl, rfl⟩
        have hBs1 := hb1.size
        go_wp2_with (first
          | (at_builtin
             refine wp_app rfl (.tmp 21) (.tmp 22) rfl w.heap.size _ (out ++ [x]) (some ⟨w1.heap.size, 0, none⟩) 1 1 [0] rfl (hown1.alloc _) rfl rfl (Ints.one w1 0 wf_zero) (by simp; omega) (Nat.le_trans hBs1 (by simp)) ?_
             intro v2 w2 hown2 hg2 hat2
             have hb2 : Below w.heap.size w w2 := below_one hb1 hBs1 _ hown1 hg2
             clear hat2 hg2))
        go_roundw
        case rel => exact ⟨k + 1, 0, _, by omega, by omega, by go_num, hown2, HS.out.1 (by first | trivial | rfl), Tr.zero _, hb2⟩
        case measure => simp [intOf]; omega
      · have t5 : ((d : Int) == 5) = false := by rw [beq_eq_false_iff_ne]; omega
        go_wp2_with (first
          | (at_builtin
             refine wp_app rfl (.tmp 11) (.tmp 16) rfl w.heap.size _ out (some ⟨wr.heap.size, 0, none⟩) 1 1 [x] rfl (hown.alloc _) rfl rfl (Ints.one wr x hxw) (by simp; omega) (Nat.le_trans hBs (by simp)) ?_
             intro v1 w1 hown1 hg1 hat1
             have hb1 : Below w.heap.size w w1 := below_one hB hBs _ hown hg1
             obtain ⟨p1, c1, rfl, hi1⟩ := hown1.form
             have hl1 := hi1.len_le
             simp only [List.length_append, List.length_cons, List.length_nil, Nat.zero_add] at hown1 hl1
             clear hat1 hg1))
        refine (F.out _ _ _ w1 (by simp) hi1).mono ?_; rintro e w2 ⟨rfl, rfl⟩
        go_wp2_with fail
        go_roundw
        case rel => exact ⟨k + 1, d, _, by omega, by omega, by go_num, hown1, HS.out.2 h5, HT2.out, hb1⟩
        case measure => simp [intOf]; omega
    · obtain rfl : k = l.length := by omega
      go_wp2_with fail
      go_ret
      refine ⟨_, rfl, ?_, hB⟩
      have := HE.out
      rw [List.drop_length, stf, List.append_nil] at this
      rw [← this]
      exact hown

theorem rmv_step {o l : List Int} {c k : Nat} (h : o ++ rmv c (l.drop k) = rmv 0 l) (hk : k < l.length) {x : Int} (hx : l[k]?.getD 0 = x) :
    (c < 5 → (o ++ [x]) ++ rmv (cnt c x) (l.drop (k + 1)) = rmv 0 l) ∧ (¬ c < 5 → o ++ rmv 0 (l.drop (k + 1)) = rmv 0 l) := by
  subst hx
  rw [drop_get hk, rmv] at h
  constructor
  · intro h5; rw [if_pos h5] at h; rw [← h]; simp
  · intro h5; rw [if_neg h5] at h; exact h
theorem rmv_len : ∀ (l : List Int) (c : Nat), (rmv c l).length ≤ l.length := by
  intro l
  induction l with
  | nil => intro c; simp [rmv]
  | cons b l ih =>
    intro c
    unfold rmv
    split
    · have := ih (cnt c b); simp only [List.length_cons]; omega
    · have := ih 0; simp only [List.length_cons]; omega
theorem rmv_bits : ∀ (l : List Int) (c : Nat), binl l = true → binl (rmv c l) = true := by
  intro l
  induction l with
  | nil => intro c _; rfl
  | cons b l ih =>
    intro c h
    simp only [binl, List.all_cons, Bool.and_eq_true] at h
    unfold rmv
    split
    · have := ih (cnt c b) h.2
      simp only [binl, List.all_cons, Bool.and_eq_true] at this ⊢
      exact ⟨h.1, this⟩
    · exact ih 0 h.2
theorem rmv_bad {l : List Int} (h : bad l = 0) : bad (rmv 0 l) = 0 := bad_of (Nat.le_trans (rmv_len l 0) (bad_zero h).1) (rmv_bits l 0 (bad_zero h).2)
theorem ust_same (l : List Int) : (ust 0 l).isSome = (stf 0 (rmv 0 l) == l) := by
  rw [ust_eq]
  by_cases h : stf 0 (rmv 0 l) = l
  · rw [if_pos h, beq_iff_eq.2 h]; rfl
  · rw [if_neg h, beq_eq_false_iff_ne.2 h]; rfl

set_option maxHeartbeats 1000000 in
theorem runstuff_any (p : Option Addr) (cap n : Nat) (l : List Int) (w : World) (hn : n = l.length) (h : Ints w p cap l) (h0 : bad l = 0) (R : Bool) (hR0 : R = (ust 0 l).isSome) :
    Calls Tryd.prog 13 #[.slice p n cap] w fun e w' => ∃ v, e = .returned (.tuple #[v, .bool R]) ∧ OwnI w' w.heap.size v (rmv 0 l) ∧ Below w.heap.size w w' := by
  subst hn
  have hR := Lib.hid (hR0.trans (ust_same l))
  clear hR0
  have hl := (bad_zero h0).1
  have hlen := h.len_le
  have HL := Lib.hid (rmv_len l 0)
  have S := Lib.hid (fun q cq m W hm hi => rstuff_any q cq m (rmv 0 l) W hm hi (rmv_bad h0))
  clear h0
  go_enter Tryd.func13, Tryd.ntmps13
  go_wp2_with fail
  go_loopw [4, 5, 6] (fun v o i wr => ∃ (k c : Nat) (out : List Int), k ≤ l.length ∧ c ≤ 5 ∧ o = .int .i64 c ∧ i = .int .i64 k ∧ OwnI wr w.heap.size v out ∧ Hid (out ++ rmv c (l.drop k) = rmv 0 l) ∧ Below w.heap.size w wr) (fun _ _ i _ => l.length - (intOf i).toNat)
  case atStart => exact ⟨0, 0, [], Nat.zero_le _, by omega, rfl, rfl, OwnI.nil _ _, rfl, brefl _⟩
  case round =>
    obtain ⟨k, c, out, hk, hc5, rfl, rfl, hown, HE, hB⟩ := hrel
    by_cases hlt : k < l.length
    · obtain ⟨b, off, rfl, hbw, hc⟩ := h.2.2.2 (by omega)
      have cellAt := Lib.hid (fun W (hW : Below w.heap.size w W) => (hW.cell (p := ⟨b, off + k, none⟩) hbw).trans (hc k hlt))
      have hxw := h.2.2.1 k
      obtain ⟨x, hx⟩ : ∃ x, l[k]?.getD 0 = x := ⟨_, rfl⟩
      rw [hx] at cellAt hxw
      have hck := cellAt.out wr hB
      have HS := Lib.hid (rmv_step HE.out hlt hx)
      have hol : out.length ≤ 240 := by
        have h1 := congrArg List.length HE.out
        rw [List.length_append] at h1
        have := HL.out
        omega
      clear hx hc
      have hBs := hB.size
      by_cases h5 : c < 5
      · have t5 : decide ((c : Int) < 5) = true := decide_eq_true (by omega)
        have t6 : ((c : Int) == 5) = false := by rw [beq_eq_false_iff_ne]; omega
        by_cases hx0 : x = 0
        · subst hx0
          go_wp2_with (first
            | (at_builtin
               refine wp_app rfl (.tmp 15) (.tmp 20) rfl w.heap.size _ out (some ⟨wr.heap.size, 0, none⟩) 1 1 [0] rfl (hown.alloc _) rfl rfl (Ints.one wr 0 hxw) (by simp; omega) (Nat.le_trans hBs (by simp)) ?_
               intro v1 w1 hown1 hg1 hat1
               have hb1 : Below w.heap.size w w1 := below_one hB hBs _ hown hg1
               have hck1 := cellAt.out w1 hb1
               clear hat1 hg1))
          go_roundw
          case rel => exact ⟨k + 1, 0, _, by omega, by omega, rfl, by go_num, hown1, HS.out.1 h5, hb1⟩
          case measure => simp [intOf]; omega
        · have t0 : (x == 0) = false := beq_eq_false_iff_ne.2 hx0
          have HS' := Lib.hid (show (out ++ [x]) ++ rmv (c + 1) (l.drop (k + 1)) = rmv 0 l by have := HS.out.1 h5; rwa [show cnt c x = c + 1 by simp [cnt, hx0]] at this)
          go_wp2_with (first
            | (at_builtin
               refine wp_app rfl (.tmp 15) (.tmp 20) rfl w.heap.size _ out (some ⟨wr.heap.size, 0, none⟩) 1 1 [x] rfl (hown.alloc _) rfl rfl (Ints.one wr x hxw) (by simp; omega) (Nat.le_trans hBs (by simp)) ?_
               intro v1 w1 hown1 hg1 hat1
               have hb1 : Below w.heap.size w w1 := below_one hB hBs _ hown hg1
               have hck1 := cellAt.out w1 hb1
               clear hat1 hg1))
          go_roundw
          case rel => exact ⟨k + 1, c + 1, _, by omega, by omega, by go_num, by go_num, hown1, HS'.out, hb1⟩
          case measure => simp [intOf]; omega
      · obtain rfl : c = 5 := by omega
        go_wp2_with fail
        go_roundw
        case rel => exact ⟨k + 1, 0, _, by omega, by omega, rfl, by go_num, hown, HS.out.2 (by omega), hB⟩
        case measure => simp [intOf]; omega
    · obtain rfl : k = l.length := by omega
      have hE := HE.out
      rw [List.drop_length, rmv, List.append_nil] at hE
      subst hE
      obtain ⟨p1, c1, rfl, hi1⟩ := hown.form
      have hl1 := hi1.len_le
      have hown' := hown
      go_wp2_with fail
      refine (S.out _ _ _ wr rfl hi1).mono ?_; rintro e w2 ⟨v2, rfl, ho2, hb2⟩
      obtain ⟨p2, c2, rfl, hi2⟩ := ho2.form
      have hl2 := hi2.len_le
      have hB2 := hB.trans (hb2.mono hB.size)
      have SM := Lib.hid (same_any p2 p c2 cap (stf 0 (rmv 0 l)).length l.length (stf 0 (rmv 0 l)) l w2 rfl rfl hi2 (h.below hB2) R hR.out)
      have hown2 := Lib.hid (hown.below hb2)
      clear ho2 hi2 hown hown'
      go_wp2_with fail
      refine SM.out.mono ?_; rintro e w3 ⟨rfl, hb3⟩
      have hown3 := Lib.hid (hown2.out.below hb3)
      go_wp2_with fail
      go_ret2
      exact ⟨_, rfl, hown3.out, hB2.trans (hb3.mono hB2.size)⟩
end Go.Proofs.YtfgkbogccaiceaaDoor.Stuff
