/- The document's answer for what is wrong with data and fates: the contract of Sent. No statement is proved here. -/
import Derived.Test.YtainefacghlmjaaDoorAbp1
import Derived.Test.YtainefacghlmjaaDoorAll
namespace Go.Proofs.YtainefacghlmjaaDoor.Abp
open Go.ChangeShapes Go.WideShapes Go.ChangeAt Go.RowKit Go.Proofs.YtainefacghlmjaaDoor.Kit Go.Proofs.YtainefacghlmjaaDoor.App Go.Proofs.YtainefacghlmjaaDoor.Cells Go.Proofs.YtainefacghlmjaaDoor.Fate
set_option linter.unusedVariables false
set_option maxRecDepth 20000

theorem fits_within (l : List Int) : fits l = within 0 1000 l := rfl
set_option maxHeartbeats 1000000 in
theorem sent_any (p q : Option Addr) (cap cq n m : Nat) (l : List Int) (w : World) (hn : n = l.length) (hi : Ints w p cap l) (hm : m ≤ 9223372036854775807) (c : Int) (hc : c = bad l m) :
    Calls Tryd.prog 10 #[.slice p n cap, .slice q m cq] w fun e w' => e = .returned (.int .i64 c) ∧ w' = w := by
  have hlen := hi.len_le
  have HI := Lib.hid hi
  have HN := Lib.hid hn
  clear hi
  rw [← hn] at hlen
  unfold bad at hc
  rw [← hn] at hc
  clear hn
  by_cases h1 : 20 < n
  · have t1 : decide ((n : Int) > 20) = true := decide_eq_true (by omega)
    rw [if_pos (.inl h1)] at hc
    subst hc
    go_enter Tryd.func10, Tryd.ntmps10
    go_wp2_with fail
    go_ret
    exact ⟨rfl, rfl⟩
  · have t1 : decide ((n : Int) > 20) = false := decide_eq_false (by omega)
    by_cases h2 : 200 < m
    · have t2 : decide ((m : Int) > 200) = true := decide_eq_true (by omega)
      rw [if_pos (.inr h2)] at hc
      subst hc
      go_enter Tryd.func10, Tryd.ntmps10
      go_wp2_with fail
      go_ret
      exact ⟨rfl, rfl⟩
    · have t2 : decide ((m : Int) > 200) = false := decide_eq_false (by omega)
      rw [if_neg (by omega), fits_within] at hc
      obtain ⟨R, hR⟩ : ∃ R, R = within 0 1000 l := ⟨_, rfl⟩
      rw [← hR] at hc
      have CT := Lib.hid (fun W (h : Ints W p cap l) => all_any 0 1000 p cap n l W HN.out h R hR)
      clear hR
      cases R with
      | true =>
        have hc0 : c = 0 := by rw [hc]; rfl
        clear hc
        subst hc0
        go_enter Tryd.func10, Tryd.ntmps10
        go_wp2_with fail
        refine (CT.out _ HI.out).mono ?_; rintro e w1 ⟨rfl, rfl⟩
        go_wp2_with fail
        go_ret
        exact ⟨rfl, rfl⟩
      | false =>
        have hc0 : c = 1 := by rw [hc]; rfl
        clear hc
        subst hc0
        go_enter Tryd.func10, Tryd.ntmps10
        go_wp2_with fail
        refine (CT.out _ HI.out).mono ?_; rintro e w1 ⟨rfl, rfl⟩
        go_wp2_with fail
        go_ret
        exact ⟨rfl, rfl⟩
end Go.Proofs.YtainefacghlmjaaDoor.Abp
