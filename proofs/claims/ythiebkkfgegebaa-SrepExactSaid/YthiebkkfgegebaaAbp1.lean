/- The contract of abp.Check. No statement is proved here. -/
import Derived.Test.YthiebkkfgegebaaFate
import Derived.Test.YthiebkkfgegebaaApp
namespace Go.Proofs.Ythiebkkfgegebaa.Abp
open Go.ChangeShapes Go.WideShapes Go.ChangeAt Go.RowKit Go.Proofs.Ythiebkkfgegebaa.Kit Go.Proofs.Ythiebkkfgegebaa.App Go.Proofs.Ythiebkkfgegebaa.Cells Go.Proofs.Ythiebkkfgegebaa.Fate
set_option linter.unusedVariables false
set_option maxRecDepth 20000

/-- A number that may be sent. -/
def fit (x : Int) : Bool := decide (0 ≤ x) && decide (x ≤ 1000)
def fits (l : List Int) : Bool := l.all fit
theorem fits_get {l : List Int} (h : fits l = true) (k : Nat) (hk : k < l.length) : 0 ≤ l[k]?.getD 0 ∧ l[k]?.getD 0 ≤ 1000 := by
  have := List.all_eq_true.1 h _ (List.getElem_mem hk)
  rw [List.getElem?_eq_getElem hk]
  unfold fit at this
  rw [Bool.and_eq_true] at this
  exact ⟨of_decide_eq_true this.1, of_decide_eq_true this.2⟩
theorem fits_of {l : List Int} (h : ∀ k : Nat, k < l.length → fit (l[k]?.getD 0) = true) : fits l = true := by
  refine List.all_eq_true.2 fun x hx => ?_
  obtain ⟨k, hk, rfl⟩ := List.getElem_of_mem hx
  have := h k hk
  rwa [List.getElem?_eq_getElem hk] at this
theorem fits_false {l : List Int} {k : Nat} (hk : k < l.length) (h : fit (l[k]?.getD 0) = false) : fits l = false := by
  cases hb : fits l with
  | false => rfl
  | true =>
    have := List.all_eq_true.1 hb _ (List.getElem_mem hk)
    rw [List.getElem?_eq_getElem hk] at h
    rw [show (some l[k]).getD 0 = l[k] from rfl] at h
    rw [this] at h
    cases h
/-- What is wrong with data of that kind and so many fates. -/
def bad (l : List Int) (m : Nat) : Int := if 20 < l.length ∨ 200 < m then 4 else if fits l = true then 0 else 1
def er (c : Int) : Value := if c = 0 then .nilIface else .iface 54 (.int .i64 c)
theorem er_0 : er 0 = .nilIface := rfl
theorem er_1 : er 1 = .iface 54 (.int .i64 1) := rfl
theorem er_4 : er 4 = .iface 54 (.int .i64 4) := rfl
theorem er_ne {c : Int} (h : c ≠ 0) : er c = .iface 54 (.int .i64 c) := by unfold er; rw [if_neg h]
theorem bad_zero (l : List Int) (m : Nat) : bad l m = 0 ↔ l.length ≤ 20 ∧ m ≤ 200 ∧ fits l = true := by
  unfold bad
  by_cases h : 20 < l.length ∨ 200 < m
  · rw [if_pos h]; exact ⟨fun h => by omega, fun h2 => by omega⟩
  · rw [if_neg h]
    by_cases h2 : fits l = true
    · rw [if_pos h2]; exact ⟨fun _ => ⟨by omega, by omega, h2⟩, fun _ => rfl⟩
    · rw [if_neg h2]; exact ⟨fun h => by omega, fun h3 => absurd h3.2.2 h2⟩

theorem out_any (x : Int) (w : World) (R : Bool) (hR : R = fit x) :
    Calls Try.prog 22 #[.int .i64 x] w fun e w' => e = .returned (.bool (!R)) ∧ w = w' := by
  by_cases h1 : 0 ≤ x
  · have t1 : decide (x < 0) = false := decide_eq_false (by omega)
    have hd : R = decide (x ≤ 1000) := by rw [hR]; unfold fit; rw [decide_eq_true h1]; rfl
    clear hR
    by_cases h2 : x ≤ 1000
    · have t2 : decide (x > 1000) = false := decide_eq_false (by omega)
      have hR : R = true := by rw [hd, decide_eq_true h2]
      clear hd
      subst hR
      go_enter Try.func22, Try.ntmps22
      go_wp2_with fail
      go_ret
      exact ⟨rfl, rfl⟩
    · have t2 : decide (x > 1000) = true := decide_eq_true (by omega)
      have hR : R = false := by rw [hd, decide_eq_false h2]
      clear hd
      subst hR
      go_enter Try.func22, Try.ntmps22
      go_wp2_with fail
      go_ret
      exact ⟨rfl, rfl⟩
  · have t1 : decide (x < 0) = true := decide_eq_true (by omega)
    have hR2 : R = false := by rw [hR]; unfold fit; rw [decide_eq_false h1]; rfl
    clear hR
    subst hR2
    go_enter Try.func22, Try.ntmps22
    go_wp2_with fail
    go_ret
    exact ⟨rfl, rfl⟩

set_option maxHeartbeats 1000000 in
theorem index_any (p : Option Addr) (cap n : Nat) (l : List Int) (w : World) (hn : n = l.length) (hi : Ints w p cap l) (hl : l.length ≤ 1000) :
    Calls Try.prog 23 #[.slice p n cap, .func (.func 22) #[] #[]] w fun e w' => (∃ r : Int, e = .returned (.int .i64 r) ∧ decide (r ≥ 0) = !fits l) ∧ w' = w := by
  have hlen := hi.len_le
  have HI := Lib.hid hi
  have OU := Lib.hid out_any
  have HN := Lib.hid hn
  clear hi
  rw [← hn] at hl hlen
  clear hn
  go_enter Try.func23, Try.ntmps23
  go_wp2_with fail
  go_loopw [8] (fun iv wr => ∃ k : Nat, k ≤ n ∧ iv = .int .i64 k ∧ wr = w ∧ Hid (∀ j : Nat, j < k → fit (l[j]?.getD 0) = true)) (fun i _ => n - (intOf i).toNat)
  case atStart => exact ⟨0, Nat.zero_le _, rfl, rfl, fun j hj => absurd hj (Nat.not_lt_zero _)⟩
  case round =>
    obtain ⟨k, hk, rfl, rfl, H⟩ := hrel
    by_cases hlt : k < n
    · have hkl : k < l.length := by rw [← HN.out]; exact hlt
      obtain ⟨b, off, rfl, _, hc⟩ := HI.out.2.2.2 (by omega)
      have hck := hc k hkl
      clear hc
      have HK := Lib.hid hkl
      clear hkl
      obtain ⟨x, hx⟩ : ∃ x, l[k]?.getD 0 = x := ⟨_, rfl⟩
      rw [hx] at hck
      have Hx := Lib.hid hx
      clear hx
      obtain ⟨R, hR⟩ : ∃ R, R = fit x := ⟨_, rfl⟩
      have C := Lib.hid (fun W => OU.out x W R hR)
      have HR := Lib.hid hR
      clear hR
      cases R with
      | true =>
        go_wp2_with fail
        refine (C.out _).mono ?_; rintro e w1 ⟨rfl, rfl⟩
        go_wp2_with fail
        go_roundw
        case rel => exact ⟨k + 1, by omega, by first | rfl | go_num, by first | trivial | rfl, fun j hj => by
          by_cases e : j = k
          · rw [e, Hx.out]; exact HR.out.symm
          · exact H.out j (by omega)⟩
        case measure => simp [intOf]; omega
      | false =>
        go_wp2_with fail
        refine (C.out _).mono ?_; rintro e w1 ⟨rfl, rfl⟩
        go_wp2_with fail
        go_ret
        exact ⟨⟨k, rfl, by rw [fits_false HK.out (by rw [Hx.out]; exact HR.out.symm), decide_eq_true (by omega)]; rfl⟩, rfl⟩
    · obtain rfl : k = n := by omega
      go_wp2_with fail
      go_ret
      exact ⟨⟨-1, rfl, by rw [fits_of (fun j hj => H.out j (by rw [HN.out]; exact hj))]; rfl⟩, rfl⟩
theorem contains_any (p : Option Addr) (cap n : Nat) (l : List Int) (w : World) (hn : n = l.length) (hi : Ints w p cap l) (hl : l.length ≤ 1000) (R : Bool) (hR : R = fits l) :
    Calls Try.prog 21 #[.slice p n cap, .func (.func 22) #[] #[]] w fun e w' => e = .returned (.bool (!R)) ∧ w' = w := by
  subst hR
  have IX := Lib.hid (index_any p cap n l w hn hi hl)
  clear hi hl hn
  go_enter Try.func21, Try.ntmps21
  go_wp2_with fail
  refine IX.out.mono ?_; rintro e w1 ⟨⟨r, rfl, hr⟩, rfl⟩
  have HR := Lib.hid hr
  clear hr IX
  go_wp2_with fail
  go_ret
  exact ⟨by rw [← HR.out]; rfl, rfl⟩

set_option maxHeartbeats 1000000 in
theorem check_any (p q : Option Addr) (cap cq n m : Nat) (l : List Int) (w : World) (hn : n = l.length) (hi : Ints w p cap l) (hm : m ≤ 9223372036854775807) (c : Int) (hc : c = bad l m) :
    Calls Try.prog 20 #[.slice p n cap, .slice q m cq] w fun e w' => e = .returned (er c) ∧ w' = w := by
  have hlen := hi.len_le
  have HI := Lib.hid hi
  have HN := Lib.hid hn
  clear hi
  rw [← hn] at hlen
  unfold bad at hc
  rw [← hn] at hc
  clear hn
  by_cases h1 : 20 < n
  · have t1 : decide ((n : Int) > 20) = true := decide_eq_true (by omega)
    rw [if_pos (.inl h1)] at hc
    subst hc
    rw [er_4]
    go_enter Try.func20, Try.ntmps20
    go_wp2_with fail
    go_ret
    exact ⟨rfl, rfl⟩
  · have t1 : decide ((n : Int) > 20) = false := decide_eq_false (by omega)
    by_cases h2 : 200 < m
    · have t2 : decide ((m : Int) > 200) = true := decide_eq_true (by omega)
      rw [if_pos (.inr h2)] at hc
      subst hc
      rw [er_4]
      go_enter Try.func20, Try.ntmps20
      go_wp2_with fail
      go_ret
      exact ⟨rfl, rfl⟩
    · have t2 : decide ((m : Int) > 200) = false := decide_eq_false (by omega)
      rw [if_neg (by omega)] at hc
      obtain ⟨R, hR⟩ : ∃ R, R = fits l := ⟨_, rfl⟩
      rw [← hR] at hc
      have CT := Lib.hid (fun W (h : Ints W p cap l) => contains_any p cap n l W HN.out h (by rw [← HN.out]; omega) R hR)
      clear hR
      cases R with
      | true =>
        have hc0 : c = 0 := by rw [hc]; rfl
        clear hc
        subst hc0
        rw [er_0]
        go_enter Try.func20, Try.ntmps20
        go_wp2_with fail
        refine (CT.out _ HI.out).mono ?_; rintro e w1 ⟨rfl, rfl⟩
        go_wp2_with fail
        go_ret
        exact ⟨rfl, rfl⟩
      | false =>
        have hc0 : c = 1 := by rw [hc]; rfl
        clear hc
        subst hc0
        rw [er_1]
        go_enter Try.func20, Try.ntmps20
        go_wp2_with fail
        refine (CT.out _ HI.out).mono ?_; rintro e w1 ⟨rfl, rfl⟩
        go_wp2_with fail
        go_ret
        exact ⟨rfl, rfl⟩
end Go.Proofs.Ythiebkkfgegebaa.Abp
