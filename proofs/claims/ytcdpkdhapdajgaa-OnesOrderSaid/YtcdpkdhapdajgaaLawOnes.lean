/- Contracts of what the laws of package ones call besides. No statement is proved here. -/
import Derived.Test.YtcdpkdhapdajgaaOnes5
import Derived.Test.YtcdpkdhapdajgaaApp
namespace Go.Proofs.Ytcdpkdhapdajgaa.LawOnes
open Go.RowKit Go.Proofs.Ytcdpkdhapdajgaa.Kit Go.Proofs.Ytcdpkdhapdajgaa.Ones Go.Proofs.Ytcdpkdhapdajgaa.App
set_option linter.unusedVariables false

theorem in_yes (n a b : Int) (w : World) (h : a ≤ n ∧ n ≤ b) : Calls Try.prog 10 #[.int .i64 n, .int .i64 a, .int .i64 b] w fun e w' => e = .returned (.bool true) ∧ w = w' := by
  obtain ⟨h1, h2⟩ := h
  have t1 : decide (a ≤ n) = true := decide_eq_true h1
  have t2 : decide (n ≤ b) = true := decide_eq_true h2
  go_enter Try.func10, Try.ntmps10
  go_wp2
  go_ret
  exact ⟨rfl, rfl⟩
theorem in_no (n a b : Int) (w : World) (h : ¬ (a ≤ n ∧ n ≤ b)) : Calls Try.prog 10 #[.int .i64 n, .int .i64 a, .int .i64 b] w fun e w' => e = .returned (.bool false) ∧ w = w' := by
  by_cases h1 : a ≤ n
  · have h2 : ¬ n ≤ b := fun h2 => h ⟨h1, h2⟩
    clear h
    have t1 : decide (a ≤ n) = true := decide_eq_true h1
    have t2 : decide (n ≤ b) = false := decide_eq_false h2
    go_enter Try.func10, Try.ntmps10
    go_wp2
    go_ret
    exact ⟨rfl, rfl⟩
  · clear h
    have t1 : decide (a ≤ n) = false := decide_eq_false h1
    go_enter Try.func10, Try.ntmps10
    go_wp2
    go_ret
    exact ⟨rfl, rfl⟩

theorem behind_any (p : Option Addr) (cap : Nat) (l : List Int) (x : Int) (w : World) (h : Ints w p cap l) (hl : l.length ≤ 700) (hx : (Lit.int .i64 x).wf = true) :
    Calls Try.prog 11 #[.slice p l.length cap, .int .i64 x] w fun e w' => ∃ v, e = .returned v ∧ OwnI w' w.heap.size v (l ++ [x]) ∧ Below w.heap.size w w' := by
  go_enter Try.func11, Try.ntmps11
  go_wp2_with (first
    | (at_builtin
       refine wp_app rfl (.tmp 6) (.tmp 7) rfl w.heap.size (.slice none 0 0) [] p cap l.length l rfl (OwnI.nil _ _) rfl rfl h (by simp; omega) (Nat.le_refl _) ?_
       intro v1 w1 hown1 hg1 hat1
       rw [List.nil_append] at hown1
       have hb1 : Below w.heap.size w w1 := below_app (Below.refl _ _) (OwnI.nil w w.heap.size) hg1 (Nat.le_refl _))
    | (at_builtin
       refine wp_app rfl (.tmp 9) (.tmp 11) rfl w.heap.size v1 l (some ⟨w1.heap.size, 0, none⟩) 1 1 [x] rfl (hown1.alloc _) rfl rfl (Ints.one w1 x hx) (by simp; omega) (Nat.le_trans hb1.size (by simp)) ?_
       intro v2 w2 hown2 hg2 hat2))
  go_ret
  exact ⟨v2, rfl, hown2, below_app (hb1.alloc hb1.size _) (hown1.alloc _) hg2 (Nat.le_trans hb1.size (by simp))⟩

theorem below_set {W w : World} {base : Nat} {g cap : Nat} {n : Nat} {l : List Int} (hb : Below base W w) (hown : OwnI w base (.slice (some ⟨g, 0, none⟩) n cap) l) (j : Nat) (u : Value) : Below base W (w.setCell ⟨g, j, none⟩ u) :=
  hb.setCell (p := ⟨g, j, none⟩) (hown.lt g rfl).1 u

theorem own_set {w : World} {base g cap n : Nat} {l : List Int} (hown : OwnI w base (.slice (some ⟨g, 0, none⟩) n cap) l) (j : Nat) (hj : j < l.length) (x : Int) (hx : (Lit.int .i64 x).wf = true) :
    OwnI (w.setCell ⟨g, j, none⟩ (.int .i64 x)) base (.slice (some ⟨g, 0, none⟩) n cap) (l.set j x) := by
  obtain ⟨h1, h2⟩ := hown
  have hn : n = l.length := by
    rcases h1.2 with ⟨e, _⟩ | ⟨g', cap', cur, e, _⟩
    · cases e
    · injection e
  subst hn
  refine ⟨?_, fun y hy => ?_⟩
  · have := World.ownsRow.stored h1 j (.int .i64 x)
    rw [List.length_set, List.map_set]
    exact this.1
  · rcases List.mem_or_eq_of_mem_set hy with h | rfl
    · exact h2 y h
    · exact hx

theorem set_any (p : Option Addr) (cap : Nat) (l : List Int) (i : Nat) (x : Int) (w : World) (h : Ints w p cap l) (hl : l.length ≤ 700) (hi : i < l.length) (hx : (Lit.int .i64 x).wf = true) :
    Calls Try.prog 13 #[.slice p l.length cap, .int .i64 i, .int .i64 x] w fun e w' => ∃ v, e = .returned v ∧ OwnI w' w.heap.size v (l.set i x) ∧ Below w.heap.size w w' := by
  go_enter Try.func13, Try.ntmps13
  go_wp2_with (at_builtin
               refine wp_app rfl (.tmp 8) (.tmp 9) rfl w.heap.size (.slice none 0 0) [] p cap l.length l rfl (OwnI.nil _ _) rfl rfl h (by simp; omega) (Nat.le_refl _) ?_
               intro v1 w1 hown1 hg1 hat1
               rw [List.nil_append] at hown1
               have hb1 : Below w.heap.size w w1 := below_app (Below.refl _ _) (OwnI.nil w w.heap.size) hg1 (Nat.le_refl _)
               clear hat1 hg1
               obtain ⟨g, cap1, rfl⟩ : ∃ g cap1, v1 = .slice (some ⟨g, 0, none⟩) l.length cap1 := by
                 rcases hown1.1.2 with ⟨_, e⟩ | ⟨g, cap1, cur, e, _⟩
                 · omega
                 · exact ⟨g, cap1, e⟩
               have hc1 : w1.cell? ⟨g, i, none⟩ = some (.int .i64 (l[i]?.getD 0)) := by
                 have := hown1.1.cellAt i (by omega)
                 rw [this, List.getElem?_map, List.getElem?_eq_getElem hi]; rfl
               have hf1 := hown1.1.frozenAt i
               generalize l[i]?.getD 0 = y at hc1)
  go_ret
  exact ⟨_, rfl, own_set hown1 i hi x hx, below_set hb1 hown1 i _⟩

def lsum (l : List Int) : Int := l.foldl (· + ·) 0
theorem lsum_snoc (l : List Int) (x : Int) : lsum (l ++ [x]) = lsum l + x := by simp [lsum]
theorem lsum_range {l : List Int} (h : ∀ x ∈ l, 0 ≤ x ∧ x ≤ 255) : 0 ≤ lsum l ∧ lsum l ≤ 255 * l.length := by
  have key : ∀ (l : List Int) (s : Int), (∀ x ∈ l, 0 ≤ x ∧ x ≤ 255) → s ≤ l.foldl (· + ·) s ∧ l.foldl (· + ·) s ≤ s + 255 * l.length := by
    intro l
    induction l with
    | nil => intro s _; simp
    | cons x l ih =>
      intro s h
      have h1 := ih (s + x) (fun y hy => h y (by simp [hy]))
      have h2 := h x (by simp)
      simp only [List.foldl_cons, List.length_cons]
      omega
  have := key l 0 h
  unfold lsum; omega

theorem esum_any (p : Option Addr) (cap : Nat) (l : List Int) (w : World) (h : Ints w p cap l) (hl : l.length ≤ 700) (hb : ∀ x ∈ l, 0 ≤ x ∧ x ≤ 255) :
    Calls Try.prog 15 #[.slice p l.length cap] w fun e w' => e = .returned (.int .i64 (lsum l)) ∧ w = w' := by
  go_enter Try.func15, Try.ntmps15
  go_wp2
  go_loop [3, 4] (fun s i => ∃ k : Nat, k ≤ l.length ∧ i = .int .i64 k ∧ s = .int .i64 (lsum (l.take k))) (fun _ i => l.length - (intOf i).toNat)
  case atStart => exact ⟨0, Nat.zero_le _, rfl, rfl⟩
  case round =>
    obtain ⟨k, hk, rfl, rfl⟩ := hrel
    by_cases hlt : k < l.length
    · obtain ⟨b, off, rfl, _, hc⟩ := h.2.2.2 (by omega)
      have hck := hc k hlt
      have hr := lsum_range (l := l.take k) (fun x hm => hb x (List.mem_of_mem_take hm))
      have hxk := hb _ (List.getElem_mem hlt)
      have hlen : (l.take k).length ≤ k := List.length_take_le _ _
      have E := Lib.hid (show lsum (l.take (k + 1)) = lsum (l.take k) + l[k] by rw [List.take_succ_eq_append_getElem hlt, lsum_snoc])
      rw [List.getElem?_eq_getElem hlt, Option.getD_some] at hck
      generalize lsum (l.take k) = s at hr E
      generalize l[k] = x at hck hxk E
      have hr1 : 0 ≤ s := hr.1
      have hr2 : s ≤ 178500 := by omega
      clear hc h hb hr
      go_wp2
      go_round
      case rel => exact ⟨k + 1, by omega, by go_num, by rw [E.out]⟩
      case measure => simp [intOf]; omega
    · obtain rfl : k = l.length := by omega
      go_wp2
      go_ret
      exact ⟨ret_int rfl, rfl⟩

theorem lit_ints (w : World) (l : List Int) (h : ∀ x ∈ l, (Lit.int .i64 x).wf = true) (hm : l.length ≤ 700) : Ints (w.alloc (.cells (l.map (Value.int .i64)).toArray 3)) (some ⟨w.heap.size, 0, none⟩) l.length l :=
  ⟨Nat.le_refl _, by simp [maxLen]; omega, fun j => by
    by_cases hj : j < l.length
    · rw [List.getElem?_eq_getElem hj]; exact h _ (List.getElem_mem hj)
    · rw [List.getElem?_eq_none (by omega)]; simp [Lit.wf, IntKind.min, IntKind.max, IntKind.signed, IntKind.bits], fun _ => ⟨w.heap.size, 0, rfl, by simp, fun j hj => by
    have : (w.alloc (.cells (l.map (Value.int .i64)).toArray 3)).heap[w.heap.size]? = some (.cells (l.map (Value.int .i64)).toArray 3) := World.alloc_heap_new w _
    unfold World.cell?
    rw [this]
    simp [hj]⟩⟩

theorem fact_any (w : World) : Calls Try.prog 8 #[] w fun e w' => e = .returned (.bool true) ∧ Below w.heap.size w w' := by
  have s1 := fun W : World => sum_ok (some ⟨W.heap.size, 0, none⟩) 3 [1, 2, 3] _ (lit_ints W [1, 2, 3] (by decide) (by decide)) (by decide) (by decide)
  have s2 := fun W : World => good_ok (some ⟨W.heap.size, 0, none⟩) 4 [1, 2, 254, 253] _ (lit_ints W [1, 2, 254, 253] (by decide) (by decide)) (by decide) (by decide)
  have e1 : (65535 - onesum [1, 2, 3] : Int) = 64509 := by decide
  have e2 : (onesum [1, 2, 254, 253] == 65535) = true := by decide
  simp only [e1, e2, List.length_cons, List.length_nil, Nat.reduceAdd, List.map_cons, List.map_nil, List.toArray] at s1 s2
  have S1 := Lib.hid s1
  have S2 := Lib.hid s2
  clear s1 s2 e1 e2
  go_enter Try.func8, Try.ntmps8
  go_wp2_with (first
    | (go_at_call 9; refine (S1.out _).mono ?_; rintro e w1 ⟨rfl, hb1⟩)
    | (go_at_call 12; refine (S2.out _).mono ?_; rintro e w2 ⟨rfl, hb2⟩))
  go_ret
  exact ⟨rfl, bcall (balloc (bcall (balloc (brefl w) _) hb1) _) hb2⟩
end Go.Proofs.Ytcdpkdhapdajgaa.LawOnes
