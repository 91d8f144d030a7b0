/- Contracts of slices.Values and of Mend of package ones. No statement is proved here. -/
import Derived.Test.YtcdpkdhapdajgaaOnes4
namespace Go.Proofs.Ytcdpkdhapdajgaa.Ones
open Go.RowKit Go.Shelf Go.Proofs.Ytcdpkdhapdajgaa.Kit Go.Proofs.Ytcdpkdhapdajgaa.It
set_option linter.unusedVariables false
attribute [local go_sem] Oper.semAt_some

set_option maxRecDepth 100000 in
set_option maxHeartbeats 1000000 in
theorem values1_in (l B b off n cap : Nat) (zs : List Int) (J Jx : Nat → World → Prop) (W : World) (hn : zs.length = n) (hn6 : n ≤ 600)
    (h1 : W.cell? ⟨B, 0, none⟩ = some (.slice (some ⟨b, off, none⟩) n cap))
    (h2 : ∀ j : Nat, j < n → W.cell? ⟨b, off + j, none⟩ = some (.int .i64 (zs[j]?.getD 0)))
    (hO : OwnFrom W.heap.size J)
    (hY : ∀ k (hk : k < n) W1, J k W1 → W.heap.size ≤ W1.heap.size → YieldAt Fence.wide 0 Try.prog l #[.int .i64 (zs[k]?.getD 0)] W1 fun e W' =>
      ((e = .returned (.bool true) ∧ J (k + 1) W') ∨ (e = .returned (.bool false) ∧ Jx (k + 1) W')) ∧ Kept (fun k => k = B ∨ k = b) W.heap.size W1 W')
    (h0 : J 0 W) :
    CallsIn Fence.wide 0 Try.prog 23 #[.func (.yield l) #[] #[], .pointer (some ⟨B, 0, none⟩)] W fun e W' => (∃ v, e = .returned v) ∧ (J n W' ∨ ∃ k, Jx k W') := by
  clear hn
  refine callsIn_of_wp Try.func23 rfl trivial ?_ rfl
  simp only [Try.ntmps23, List.size_toArray, List.length_cons, List.length_nil, Nat.reduceAdd, Nat.reduceSub, Array.replicate_succ, Array.replicate_zero, List.push_toArray, List.append_toArray, List.nil_append, List.cons_append]
  gi_wp2
  gi_loopw [7] (fun i wr => ∃ k : Nat, k ≤ n ∧ i = .int .i64 k ∧ J k wr ∧ Kept (fun k => k = B ∨ k = b) W.heap.size W wr)
    (fun i _ => n - (intOf i).toNat)
  case atStart => exact ⟨0, Nat.zero_le _, rfl, h0, Kept.refl _ _ _⟩
  case round =>
    obtain ⟨k, hk, rfl, hJs, hK⟩ := hrel
    by_cases hlt : k < n
    · obtain ⟨fn, tmps, asg, body, hy, hR⟩ := hY k hlt wr hJs hK.size
      have hcx := hK.cell (.inl (.inr rfl)) (h2 k hlt)
      generalize zs[k]?.getD 0 = x at hcx hy
      clear h2 hY h1
      gi_wp2
      refine ⟨rfl, hR.mono ?_⟩
      rintro e W3 ⟨(⟨rfl, hJ3⟩ | ⟨rfl, hJ3⟩), hk3⟩
      · gi_wp2
        go_roundw
        case rel => exact ⟨k + 1, by omega, by simp, hJ3, hK.trans hk3⟩
        case measure => simp [intOf]; omega
      · gi_wp2
        refine bodyPost_ret (results_none rfl _ _ _) rfl ?_
        exact ⟨⟨_, rfl⟩, .inr ⟨k + 1, hJ3⟩⟩
    · obtain rfl : k = n := by omega
      gi_wp2
      go_end0
      exact ⟨⟨_, rfl⟩, .inl hJs⟩

theorem values_iter (B b off cap : Nat) (zs : List Int) (w0 : World) (hn : zs.length ≤ 600)
    (h1 : w0.cell? ⟨B, 0, none⟩ = some (.slice (some ⟨b, off, none⟩) zs.length cap)) (h2 : ∀ j : Nat, j < zs.length → w0.cell? ⟨b, off + j, none⟩ = some (.int .i64 (zs[j]?.getD 0))) :
    Iter Try.prog 23 #[.pointer (some ⟨B, 0, none⟩)] (zs.map fun x => #[.int .i64 x]) (fun k => k = B ∨ k = b) w0 := by
  intro l J Jx W hl hK hJ hJx hY h0
  rw [List.length_map]
  refine values1_in l B b off zs.length cap zs J Jx W rfl hn (hK.cell (.inl (.inl rfl)) h1) (fun j hj => hK.cell (.inl (.inr rfl)) (h2 j hj)) hJ (fun k hk W1 hj hs => ?_) h0
  have := hY k (by simpa using hk) W1 hj hs
  rw [List.getElem?_eq_getElem hk]
  simpa using this

theorem total_values (B b cap : Nat) (zs : List Int) (W w : World) (hB : B = W.heap.size) (hn : zs.length ≤ 600) (hx : ∀ x ∈ zs, 0 ≤ x ∧ x ≤ 65535) (hb : b < W.heap.size)
    (hd : ∀ j : Nat, j < zs.length → W.cell? ⟨b, j, none⟩ = some (.int .i64 (zs[j]?.getD 0))) (hw : w = W.alloc (.cells #[.slice (some ⟨b, 0, none⟩) zs.length cap] 26)) :
    Calls Try.prog 17 #[.func (.func 23) #[] #[.pointer (some ⟨B, 0, none⟩)]] w fun e w' => e = .returned (.int .i64 (sum1 zs)) ∧ Below W.heap.size W w' := by
  subst hB
  have c1 : w.cell? ⟨W.heap.size, 0, none⟩ = some (.slice (some ⟨b, 0, none⟩) zs.length cap) := by rw [hw]; go_simp
  have hsz : w.heap.size = W.heap.size + 1 := by rw [hw]; simp
  refine (total_any 23 _ (enters_of Try.func23 (by kernel_rfl) rfl) zs (fun k => k = W.heap.size ∨ k = b) w hx (fun k hk => by rcases hk with rfl | rfl <;> omega)
    (values_iter W.heap.size b 0 cap zs w hn c1 (fun j hj => by rw [hw, Nat.zero_add, World.cell?_alloc_lt W _ _ hb]; exact hd j hj))).mono ?_
  rintro e w' ⟨rfl, hbw⟩
  refine ⟨rfl, ?_⟩
  have : Below W.heap.size W w := by rw [hw]; exact (Below.refl _ _).alloc (Nat.le_refl _) _
  exact this.trans (hbw.mono (by omega))

theorem within3 (a b c m : Int) (w : World) (g : Nat) (W : World) (hg : g = W.heap.size) (hw : w = W.alloc (.cells #[.int .i64 a, .int .i64 b, .int .i64 c] 3))
    (ha : (Lit.int .i64 a).wf = true) (hb : (Lit.int .i64 b).wf = true) (hc : (Lit.int .i64 c).wf = true) :
    Calls Try.prog 19 #[.slice (some ⟨g, 0, none⟩) 3 3, .int .i64 m] w fun e w' => e = .returned (.bool (wthn [a, b, c] m)) ∧ w = w' := by
  have h : Ints w (some ⟨g, 0, none⟩) 3 [a, b, c] := by
    refine ⟨by simp, by simp [maxLen], fun j => ?_, fun _ => ⟨g, 0, rfl, by rw [hw, hg]; simp, fun j hj => ?_⟩⟩
    · rcases j with _|_|_|j
      · exact ha
      · exact hb
      · exact hc
      · simp [Lit.wf, IntKind.min, IntKind.max, IntKind.signed, IntKind.bits]
    · subst hg; subst hw
      rcases j with _|_|_|j
      · go_simp
      · go_simp
      · go_simp
      · simp at hj; omega
  exact within_any (some ⟨g, 0, none⟩) 3 [a, b, c] m w h

theorem wthn3 (a b c m : Int) : wthn [a, b, c] m = decide ((0 ≤ a ∧ a ≤ m) ∧ (0 ≤ b ∧ b ≤ m) ∧ 0 ≤ c ∧ c ≤ m) := by
  unfold wthn
  rw [decide_eq_decide]
  constructor
  · intro h
    exact ⟨by simpa using h 0 (by simp), by simpa using h 1 (by simp), by simpa using h 2 (by simp)⟩
  · rintro ⟨ha, hb, hc⟩ j hj
    rcases j with _|_|_|j
    · simpa using ha
    · simpa using hb
    · simpa using hc
    · simp at hj; omega

theorem mend_bad (a b c : Int) (w : World) (ha : (Lit.int .i64 a).wf = true) (hb : (Lit.int .i64 b).wf = true) (hc : (Lit.int .i64 c).wf = true)
    (hbad : ¬ ((0 ≤ a ∧ a ≤ 65535) ∧ (0 ≤ b ∧ b ≤ 65535) ∧ 0 ≤ c ∧ c ≤ 65535)) :
    Calls Try.prog 14 #[.int .i64 a, .int .i64 b, .int .i64 c] w fun e w' => e = .returned (.tuple #[.int .i64 0, .iface 23 (.int .i64 1)]) ∧ Below w.heap.size w w' := by
  have hc3 := within3 a b c 65535 _ w.heap.size w rfl rfl ha hb hc
  rw [wthn3, decide_eq_false hbad] at hc3
  have C := Lib.hid hc3
  clear hc3 ha hb hc hbad
  go_enter Try.func14, Try.ntmps14
  go_wp2_with (go_at_call 19; refine C.out.mono ?_; rintro e w' ⟨rfl, rfl⟩)
  go_ret2
  exact ⟨rfl, (Below.refl _ _).alloc (Nat.le_refl _) _⟩

theorem mend_ok (a b c : Int) (w : World) (ha : 0 ≤ a ∧ a ≤ 65535) (hb : 0 ≤ b ∧ b ≤ 65535) (hc : 0 ≤ c ∧ c ≤ 65535) :
    Calls Try.prog 14 #[.int .i64 a, .int .i64 b, .int .i64 c] w fun e w' => e = .returned (.tuple #[.int .i64 (65535 - sum1 [65535 - a, 65535 - b, c]), .nilIface]) ∧ Below w.heap.size w w' := by
  have wf : ∀ x : Int, 0 ≤ x ∧ x ≤ 65535 → (Lit.int .i64 x).wf = true := fun x hx => by
    simp [Lit.wf, IntKind.min, IntKind.max, IntKind.signed, IntKind.bits]; omega
  have hc3 := within3 a b c 65535 _ w.heap.size w rfl rfl (wf a ha) (wf b hb) (wf c hc)
  rw [wthn3, decide_eq_true ⟨ha, hb, hc⟩] at hc3
  have C := Lib.hid hc3
  clear hc3 wf
  have hr := sum1_range (xs := [65535 - a, 65535 - b, c]) (fun x hx => by simp at hx; omega)
  have T := Lib.hid (total_values (w.heap.size + 1 + 1) (w.heap.size + 1) 3 [65535 - a, 65535 - b, c] ((w.alloc (.cells #[.int .i64 a, .int .i64 b, .int .i64 c] 3)).alloc (.cells #[.int .i64 (65535 - a), .int .i64 (65535 - b), .int .i64 c] 3)) _ (by simp) (by simp) (fun x hx => by simp at hx; omega) (by simp)
    (fun j hj => by rcases j with _|_|_|j; go_simp; go_simp; go_simp; (simp at hj; omega)) rfl)
  simp only [List.length_cons, List.length_nil, Nat.reduceAdd] at T
  generalize sum1 [65535 - a, 65535 - b, c] = s at hr T ⊢
  go_enter Try.func14, Try.ntmps14
  go_wp2_with (first
    | (go_at_call 19; refine C.out.mono ?_; rintro e w' ⟨rfl, rfl⟩)
    | (go_at_call 20; refine (values_any _ _ _ _).mono ?_; rintro e w' ⟨rfl, rfl⟩)
    | (go_at_call 17; refine T.out.mono ?_; rintro e w' ⟨rfl, hbw⟩))
  go_ret2
  exact ⟨rfl, ((((Below.refl _ _).alloc (Nat.le_refl _) _).alloc (by simp) _).trans (hbw.mono (by simp; omega)))⟩
end Go.Proofs.Ytcdpkdhapdajgaa.Ones
