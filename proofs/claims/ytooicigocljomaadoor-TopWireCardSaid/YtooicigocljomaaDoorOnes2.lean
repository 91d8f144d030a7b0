/- Contracts of the iterators of package ones. No statement is proved here. -/
import Derived.Test.YtooicigocljomaaDoorOnes1
import Derived.WalkLawsBesides
import Derived.RegionTactic
import Derived.ChangeAlike
import Derived.BigRegionIn
namespace Go.Proofs.YtooicigocljomaaDoor.Ones
open Go.RowKit Go.Shelf Go.Proofs.YtooicigocljomaaDoor.Kit Go.Proofs.YtooicigocljomaaDoor.It
set_option linter.unusedVariables false
attribute [local go_sem] Oper.semAt_some

/-- The words of bytes, two by two: as slices. -/
def chunkAt (b off n k : Nat) : Array Value := #[.slice (some ⟨b, off + 2 * k, none⟩) (min 2 (n - 2 * k)) (min 2 (n - 2 * k))]
def chunks (b off n : Nat) : List (Array Value) := (List.range ((n + 1) / 2)).map (chunkAt b off n)

set_option maxRecDepth 100000 in
set_option maxHeartbeats 1000000 in
theorem chunk1_in (l B1 B2 b off n cap : Nat) (p : Option Addr) (hp : 0 < n → p = some ⟨b, off, none⟩) (J Jx : Nat → World → Prop) (W : World) (hn : n ≤ 600) (hcap : n ≤ cap) (hcap2 : cap ≤ 9223372036854775807)
    (h1 : W.cell? ⟨B1, 0, none⟩ = some (.slice p n cap)) (h2 : W.cell? ⟨B2, 0, none⟩ = some (.int .i64 2))
    (hY : ∀ k (hk : k < (n + 1) / 2) W1, J k W1 → W.heap.size ≤ W1.heap.size → YieldAt Fence.wide 0 Tryd.prog l (chunkAt b off n k) W1 fun e W' =>
      ((e = .returned (.bool true) ∧ J (k + 1) W') ∨ (e = .returned (.bool false) ∧ Jx (k + 1) W')) ∧ Kept (fun k => k = B1 ∨ k = B2) W.heap.size W1 W')
    (hO : OwnFrom W.heap.size J) (h0 : J 0 W) :
    CallsIn Fence.wide 0 Tryd.prog 50 #[.func (.yield l) #[] #[], .pointer (some ⟨B1, 0, none⟩), .pointer (some ⟨B2, 0, none⟩)] W fun e W' => (∃ v, e = .returned v) ∧ (J ((n + 1) / 2) W' ∨ ∃ k, Jx k W') := by
  refine callsIn_of_wp Tryd.func50 rfl trivial ?_ rfl
  simp only [Tryd.ntmps50, List.size_toArray, List.length_cons, List.length_nil, Nat.reduceAdd, Nat.reduceSub, Array.replicate_succ, Array.replicate_zero, List.push_toArray, List.append_toArray, List.nil_append, List.cons_append]
  gi_wp2
  gi_loopw [4, 5] (fun x _ wr => ∃ i k : Nat, i ≤ n + 1 ∧ Hid (i = 2 * k) ∧ x = .int .i64 (i : Int) ∧ J k wr ∧ Kept (fun k => k = B1 ∨ k = B2) W.heap.size W wr)
    (fun x _ _ => n + 1 - (intOf x).toNat)
  case atStart => exact ⟨0, 0, Nat.zero_le _, rfl, rfl, h0, Kept.refl _ _ _⟩
  case round =>
    obtain ⟨i, k, hk, Hi, rfl, hJ, hK⟩ := hrel
    have g1 := hK.cell (p := ⟨B1, 0, none⟩) (.inl (.inl rfl)) h1
    have g2 := hK.cell (p := ⟨B2, 0, none⟩) (.inl (.inr rfl)) h2
    have hKs := hK.size
    clear h1 h2
    by_cases hlt : i < n
    · obtain rfl := hp (by omega)
      clear hp
      have hJd : J k wr.drew := ownFrom_drew hO hJ
      have hK' : Kept (fun k => k = B1 ∨ k = B2) W.heap.size W wr.drew := hK.trans Kept.drew
      obtain ⟨fn, tmps, asg, body, hy, hR⟩ := hY k (by have := Hi.out; omega) wr.drew hJd hKs
      by_cases hl2 : i + 2 ≤ n
      · have e2 : chunkAt b off n k = #[.slice (some ⟨b, off + i, none⟩) 2 2] := by
          have := Hi.out; unfold chunkAt; rw [← this, show min 2 (n - i) = 2 from by omega]
        rw [e2] at hy
        clear e2 hY
        gi_wp2
        gi_region
        gi_wp2
        refine ⟨rfl, hR.mono ?_⟩
        rintro e W3 ⟨(⟨rfl, hJ3⟩ | ⟨rfl, hJx3⟩), hk3⟩
        · have g3 : W3.cell? ⟨B2, 0, none⟩ = some (.int .i64 2) := hk3.cell (p := ⟨B2, 0, none⟩) (.inl (.inr rfl)) g2
          gi_wp2
          go_roundw
          case rel => exact ⟨i + 2, k + 1, by omega, by have := Hi.out; show i + 2 = 2 * (k + 1); omega, by go_num, hJ3, hK'.trans hk3⟩
          case measure => simp [intOf]; omega
        · gi_wp2
          refine bodyPost_ret (results_none rfl _ _ _) rfl ?_
          exact ⟨⟨_, rfl⟩, .inr ⟨_, hJx3⟩⟩
      · obtain rfl : n = i + 1 := by omega
        have e2 : chunkAt b off (i + 1) k = #[.slice (some ⟨b, off + i, none⟩) 1 1] := by
          have := Hi.out; unfold chunkAt; rw [← this, show min 2 (i + 1 - i) = 1 from by omega]
        rw [e2] at hy
        clear e2 hY
        gi_wp2
        gi_region
        gi_wp2
        refine ⟨rfl, hR.mono ?_⟩
        rintro e W3 ⟨(⟨rfl, hJ3⟩ | ⟨rfl, hJx3⟩), hk3⟩
        · have g3 : W3.cell? ⟨B2, 0, none⟩ = some (.int .i64 2) := hk3.cell (p := ⟨B2, 0, none⟩) (.inl (.inr rfl)) g2
          gi_wp2
          go_roundw
          case rel => exact ⟨i + 2, k + 1, by omega, by have := Hi.out; show i + 2 = 2 * (k + 1); omega, by go_num, hJ3, hK'.trans hk3⟩
          case measure => simp [intOf]; omega
        · gi_wp2
          refine bodyPost_ret (results_none rfl _ _ _) rfl ?_
          exact ⟨⟨_, rfl⟩, .inr ⟨_, hJx3⟩⟩
    · gi_wp2
      go_end0
      have e : (n + 1) / 2 = k := by have := Hi.out; omega
      exact ⟨⟨_, rfl⟩, .inl (by rw [e]; exact hJ)⟩

theorem chunk_any (p : Option Addr) (n cap : Nat) (w : World) :
    Calls Tryd.prog 40 #[.slice p n cap, .int .i64 2] w fun e w' => e = .returned (.func (.func 50) #[] #[.pointer (some ⟨w.heap.size, 0, none⟩), .pointer (some ⟨w.heap.size + 1, 0, none⟩)]) ∧ (w.alloc (.cells #[.slice p n cap] 22)).alloc (.cells #[.int .i64 2] 3) = w' := by
  go_enter Tryd.func40, Tryd.ntmps40
  go_wp2
  go_ret
  exact ⟨rfl, rfl⟩
theorem pairs_any (p : Option Addr) (n cap : Nat) (w : World) :
    Calls Tryd.prog 43 #[.slice p n cap] w fun e w' => e = .returned (.func (.func 51) #[] #[.pointer (some ⟨w.heap.size, 0, none⟩)]) ∧ w.alloc (.cells #[.slice p n cap] 22) = w' := by
  go_enter Tryd.func43, Tryd.ntmps43
  go_wp2
  go_ret
  exact ⟨rfl, rfl⟩
theorem words_any (p : Option Addr) (n cap : Nat) (w : World) :
    Calls Tryd.prog 34 #[.slice p n cap] w fun e w' => e = .returned (.func (.func 42) #[] #[.pointer (some ⟨w.heap.size, 0, none⟩)]) ∧ w.alloc (.cells #[.slice p n cap] 22) = w' := by
  go_enter Tryd.func34, Tryd.ntmps34
  go_wp2
  go_ret
  exact ⟨rfl, rfl⟩
theorem chunk_iter (B1 B2 b off n cap : Nat) (p : Option Addr) (hp : 0 < n → p = some ⟨b, off, none⟩) (w0 : World) (hn : n ≤ 600) (hcap : n ≤ cap) (hcap2 : cap ≤ 9223372036854775807)
    (h1 : w0.cell? ⟨B1, 0, none⟩ = some (.slice p n cap)) (h2 : w0.cell? ⟨B2, 0, none⟩ = some (.int .i64 2)) :
    Iter Tryd.prog 50 #[.pointer (some ⟨B1, 0, none⟩), .pointer (some ⟨B2, 0, none⟩)] (chunks b off n) (fun k => k = B1 ∨ k = B2) w0 := by
  intro l J Jx W hl hK hJ hJx hY h0
  have hlen : (chunks b off n).length = (n + 1) / 2 := by simp [chunks]
  rw [hlen]
  refine chunk1_in l B1 B2 b off n cap p hp J Jx W hn hcap hcap2 (hK.cell (.inl (.inl rfl)) h1) (hK.cell (.inl (.inr rfl)) h2) (fun k hk W1 hj hs => ?_) hJ h0
  have := hY k (by omega) W1 hj hs
  simpa [chunks] using this
end Go.Proofs.YtooicigocljomaaDoor.Ones
