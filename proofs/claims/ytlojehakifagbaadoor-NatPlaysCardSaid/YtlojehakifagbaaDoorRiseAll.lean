/- The contract of Rising of the document's answers: its first, its last, and its numbers. No statement is proved here. -/
import Derived.Test.YtlojehakifagbaaDoorRising
namespace Go.Proofs.YtlojehakifagbaaDoor.Rising
open Go.ChangeShapes Go.WideShapes Go.ChangeAt Go.RowKit Go.Proofs.YtlojehakifagbaaDoor.Kit Go.Proofs.YtlojehakifagbaaDoor.App Go.Proofs.YtlojehakifagbaaDoor.Err Go.Proofs.YtlojehakifagbaaDoor.AimdMath Go.Proofs.YtlojehakifagbaaDoor.RiseMath
set_option linter.unusedVariables false
set_option maxRecDepth 20000

/-- What is not yet used. -/
def unused : List Int → List Bool → List Int
  | [], _ => []
  | x :: l, [] => x :: l
  | x :: l, b :: u => if b = true then unused l u else x :: unused l u
theorem unused_all : ∀ (l : List Int), unused l (List.replicate l.length false) = l
  | [] => rfl
  | x :: l => by rw [List.length_cons, List.replicate_succ]; simp [unused, unused_all l]
theorem unused_set : ∀ (l : List Int) (u : List Bool) (c : Nat), u.length = l.length → u[c]? = some false → (l[c]?.getD 0 :: unused l (u.set c true)).Perm (unused l u)
  | [], u, c, hl, h => by
    have : u = [] := List.eq_nil_of_length_eq_zero hl
    subst this; simp at h
  | x :: l, [], c, hl, h => by simp at h
  | x :: l, b :: u, 0, hl, h => by
    have : b = false := by simpa using h
    subst this
    simp [unused]
  | x :: l, b :: u, c + 1, hl, h => by
    have ih := unused_set l u c (by simpa using hl) (by simpa using h)
    cases b
    · have e1 : unused (x :: l) (false :: u) = x :: unused l u := rfl
      have e2 : unused (x :: l) ((false :: u).set (c + 1) true) = x :: unused l (u.set c true) := rfl
      rw [e1, e2]
      have e3 : (x :: l)[c + 1]?.getD 0 = l[c]?.getD 0 := rfl
      rw [e3]
      exact (List.Perm.swap _ _ _).trans (ih.cons x)
    · exact ih
theorem unused_none : ∀ (l : List Int) (u : List Bool), u.length = l.length → (∀ i, i < u.length → u[i]? = some true) → unused l u = []
  | [], _, _, _ => rfl
  | x :: l, [], hl, _ => by simp at hl
  | x :: l, b :: u, hl, h => by
    have h0 := h 0 (by simp)
    have : b = true := by simpa using h0
    subst this
    exact unused_none l u (by simpa using hl) fun i hi => by have := h (i + 1) (by simpa using hi); simpa using this
/-- As St, and r is in order, no greater than what is left, and with what is left it is l. -/
def Sm (l : List Int) (j : Nat) (r : List Int) (u : List Bool) : Prop := St l j r u ∧ r.Pairwise (· ≤ ·) ∧ (∀ y, y ∈ r → ∀ i : Nat, i < l.length → u[i]? = some false → y ≤ l[i]?.getD 0) ∧ (r ++ unused l u).Perm l
theorem Sm_zero {l : List Int} : Sm l 0 [] (List.replicate l.length false) := ⟨St_zero, List.Pairwise.nil, by simp, by rw [List.nil_append, unused_all]⟩
theorem Sm_next {l : List Int} {j : Nat} {r : List Int} {u : List Bool} {b : Int} (h : Sm l j r u) (hj : j < l.length) (hb : Bst l u l.length b) : ∃ c : Nat, b = (c : Int) ∧ c < l.length ∧ u[c]? = some false ∧ Sm l (j + 1) (r ++ [l[c]?.getD 0]) (u.set c true) := by
  obtain ⟨c, h1, h2, h3, h4⟩ := St_next h.1 hj hb
  obtain ⟨g1, g2, g3, g4⟩ := h
  have hbest : ∀ i, i < l.length → u[i]? = some false → l[c]?.getD 0 ≤ l[i]?.getD 0 := by
    rcases hb with ⟨e, _⟩ | ⟨c', e, _, _, h5⟩
    · omega
    · obtain rfl : c' = c := by omega
      exact h5
  refine ⟨c, h1, h2, h3, h4, ?_, fun y hy i hi hf => ?_, ?_⟩
  · rw [List.pairwise_append]
    refine ⟨g2, by simp, fun y hy z hz => ?_⟩
    rw [List.mem_singleton.1 hz]
    exact g3 y hy c h2 h3
  · rw [List.getElem?_set] at hf
    by_cases e : c = i
    · rw [if_pos e] at hf
      split at hf <;> cases hf
    · rw [if_neg e] at hf
      rcases List.mem_append.1 hy with hy | hy
      · exact g3 y hy i hi hf
      · rw [List.mem_singleton.1 hy]; exact hbest i hi hf
  · rw [List.append_assoc]
    exact (List.Perm.append_left r (unused_set l u c g1.1 h3)).trans g4
theorem Sm_end {l : List Int} {r : List Int} {u : List Bool} (h : Sm l l.length r u) (h0 : 0 < l.length) : r.length = l.length ∧ r[0]?.getD 0 = lo l ∧ r[l.length - 1]?.getD 0 = AimdMath.hi l ∧ r.Pairwise (· ≤ ·) ∧ r.Perm l := by
  obtain ⟨h1, h2, h3⟩ := St_end h.1 h0
  refine ⟨h1, h2, h3, h.2.1, ?_⟩
  have h4 := h.2.2.2
  rwa [unused_none l u h.1.1 (cnt_full u (by have := h.1.1; have := h.1.2.2.1; omega)), List.append_nil] at h4
/-- The numbers in order. -/
def srt (l : List Int) : List Int := l.mergeSort (fun a b => decide (a ≤ b))
theorem srt_perm (l : List Int) : (srt l).Perm l := List.mergeSort_perm l _
theorem srt_le (l : List Int) : (srt l).Pairwise (· ≤ ·) := by
  have := List.pairwise_mergeSort (le := fun a b : Int => decide (a ≤ b)) (fun a b c h1 h2 => by simp at *; omega) (fun a b => by simp; omega) l
  exact this.imp fun h => by simpa using h
theorem srt_only {r l : List Int} (h1 : r.Pairwise (· ≤ ·)) (h2 : r.Perm l) : r = srt l :=
  List.Perm.eq_of_pairwise (le := fun a b : Int => a ≤ b) (fun a b _ _ h3 h4 => Int.le_antisymm h3 h4) h1 (srt_le l) (h2.trans (srt_perm l).symm)
theorem srt_mem {l : List Int} (x : Int) : x ∈ srt l ↔ x ∈ l := (srt_perm l).mem_iff
theorem srt_len (l : List Int) : (srt l).length = l.length := (srt_perm l).length_eq

set_option maxHeartbeats 4000000 in
theorem rising_all (p : Option Addr) (cap n : Nat) (l : List Int) (w : World) (hn : n = l.length) (hi : Ints w p cap l) (h1 : 1 ≤ n) (h1000 : n ≤ 1000) :
    Calls Tryd.prog 19 #[.slice p n cap] w fun e w' => (∃ v r, e = .returned v ∧ OwnI w' w.heap.size v r ∧ r.length = n ∧ r[0]?.getD 0 = lo l ∧ r[n - 1]?.getD 0 = AimdMath.hi l ∧ r.Pairwise (· ≤ ·) ∧ r.Perm l) ∧ Below w.heap.size w w' := by
  have hlen := hi.len_le
  rw [← hn] at hlen
  obtain ⟨b, off, rfl, hbw, hc⟩ := hi.2.2.2 (by omega)
  have HI := Lib.hid hi
  have HN := Lib.hid hn
  have HC := Lib.hid (fun W (hb : Below w.heap.size w W) (j : Nat) (hj : j < n) => (World.cell?_of_block (w := w) (a := ⟨b, off + j, none⟩) (hb.block b hbw)).trans (hc j (by omega)))
  obtain ⟨w1, hm, hou, hg1⟩ := made w n h1000
  have HS : Hid (∃ r u, Sm l 0 r u ∧ OwnI w1 w.heap.size (.slice none 0 0) r ∧ OwnB w1 w.heap.size n u ∧ (Value.slice none 0 0).ownBlock ≠ some w.heap.size ∧ Below w.heap.size w w1) :=
    Lib.hid ⟨[], List.replicate n false, by rw [hn]; exact Sm_zero, OwnI.nil _ _, hou, by simp [Value.ownBlock], ⟨hg1.os, hg1.tape, hg1.output, hg1.size, fun k hk => hg1.block k hk (by simp)⟩⟩
  clear hi hn hc hou hg1 hbw
  go_enter Tryd.func19, Tryd.ntmps19
  go_wp2_with fail
  go_loopw [3, 5] (fun ov nv wr => ∃ j : Nat, ∃ vv, vv = ov ∧ j ≤ n ∧ nv = .int .i64 (j : Int) ∧ Hid (∃ r u, Sm l j r u ∧ OwnI wr w.heap.size vv r ∧ OwnB wr w.heap.size n u ∧ vv.ownBlock ≠ some w.heap.size ∧ Below w.heap.size w wr)) (fun _ i _ => n - (intOf i).toNat)
  case atStart => exact ⟨0, _, rfl, Nat.zero_le _, rfl, HS⟩
  case round =>
    obtain ⟨j, vv, rfl, hj, rfl, HW⟩ := hrel
    by_cases hjn : j < n
    · obtain ⟨r, u, hst, hor, hou, hne, hb⟩ := HW.out
      have hul := hou.1
      have HU := Lib.hid hou
      have HBD := Lib.hid hb
      have HST := Lib.hid (And.intro hst (And.intro hor hne))
      clear hor hou hne hb hst HS HW
      go_wp2_with fail
      go_loopw [6, 7] (fun bv iv wq => ∃ i m : Nat, ∃ t : Int, i ≤ n ∧ iv = .int .i64 (i : Int) ∧ bv = .int .i64 t ∧ wq = wr.drewN m ∧ Hid (Bst l u i t)) (fun _ i _ => n - (intOf i).toNat)
      case atStart => exact ⟨0, 0, -1, Nat.zero_le _, rfl, rfl, rfl, Lib.hid Bst_zero⟩
      case round =>
        obtain ⟨i, m, t, hin, rfl, rfl, rfl, HB⟩ := hrel
        by_cases hlt : i < n
        · obtain ⟨ub, hub⟩ : ∃ ub, u[i]? = some ub := ⟨_, List.getElem?_eq_getElem (by omega)⟩
          have cu := HU.out.cell i ub hub
          have HUB := Lib.hid hub
          clear hub
          cases ub with
          | true =>
            go_wp2_with fail
            go_quiet (fail)
            go_wp2_with fail
            go_roundw
            case rel => exact ⟨i + 1, _, t, by omega, by first | rfl | go_num, by first | trivial | rfl, by first | rfl | (simp only [World.drewN_drewN]; rfl), Lib.hid (Bst_used HB.out HUB.out)⟩
            case measure => simp [intOf]; omega
          | false =>
            rcases HB.out with ⟨rfl, hb2⟩ | ⟨c, rfl, hci, hc2, hc3⟩
            · have HB2 := Lib.hid (Bst_first (l := l) hb2 HUB.out)
              clear hb2 HB
              have t1 : decide ((-1 : Int) < 0) = true := by decide
              go_wp2_with fail
              go_quiet (fail)
              go_wp2_with fail
              go_roundw
              case rel => exact ⟨i + 1, _, _, by omega, by first | rfl | go_num, by first | trivial | rfl, by first | rfl | (simp only [World.drewN_drewN]; rfl), HB2⟩
              case measure => simp [intOf]; omega
            · have t1 : decide ((c : Int) < 0) = false := decide_eq_false (by omega)
              have hcn : c < n := by omega
              have ci := HC.out wr HBD.out i hlt
              have cc := HC.out wr HBD.out c hcn
              by_cases hx : l[i]?.getD 0 < l[c]?.getD 0
              · have HB2 := Lib.hid (Bst_less hc3 HUB.out hx)
                have t2 : decide (l[i]?.getD 0 < l[c]?.getD 0) = true := decide_eq_true hx
                clear hc2 hc3 HB hx
                generalize l[i]?.getD 0 = x at ci t2
                generalize l[c]?.getD 0 = y at cc t2
                go_wp2_with fail
                go_quiet (fail)
                go_wp2_with fail
                go_roundw
                case rel => exact ⟨i + 1, _, _, by omega, by first | rfl | go_num, by first | trivial | rfl, by first | rfl | (simp only [World.drewN_drewN]; rfl), HB2⟩
                case measure => simp [intOf]; omega
              · have HB2 := Lib.hid (Bst_not hci hc2 hc3 hx)
                have t2 : decide (l[i]?.getD 0 < l[c]?.getD 0) = false := decide_eq_false hx
                clear hc2 hc3 HB hx
                generalize l[i]?.getD 0 = x at ci t2
                generalize l[c]?.getD 0 = y at cc t2
                go_wp2_with fail
                go_quiet (fail)
                go_wp2_with fail
                go_roundw
                case rel => exact ⟨i + 1, _, _, by omega, by first | rfl | go_num, by first | trivial | rfl, by first | rfl | (simp only [World.drewN_drewN]; rfl), HB2⟩
                case measure => simp [intOf]; omega
        · obtain rfl : i = n := by omega
          obtain ⟨hst, hor, hne⟩ := HST.out
          obtain ⟨c, rfl, hc1, hc2, hst2⟩ := Sm_next hst (by have := HN.out; omega) (by rw [← HN.out]; exact HB.out)
          have hcn : c < i := by have := HN.out; omega
          have cu := HU.out.cell c false hc2
          have fu := HU.out.fz c
          have hxw : (Lit.int .i64 (l[c]?.getD 0)).wf = true := HI.out.2.2.1 c
          have HU2 := Lib.hid (show OwnB ((wr.drewN m).setCell ⟨w.heap.size, c, none⟩ (.bool true)) w.heap.size i (u.set c true) from OwnB.set (show OwnB (wr.drewN m) w.heap.size i u from HU.out) c true)
          have HB2 := Lib.hid (show Below w.heap.size w ((wr.drewN m).setCell ⟨w.heap.size, c, none⟩ (.bool true)) from gbelow (below_drewN HBD.out m) (Nat.le_refl _) (set_grown _ w.heap.size c (.bool true)) (Nat.le_refl _))
          have HO2 := Lib.hid (show OwnI ((wr.drewN m).setCell ⟨w.heap.size, c, none⟩ (.bool true)) w.heap.size vv r from OwnI.more (w := wr.drewN m) hor (set_grown _ w.heap.size c (.bool true)) (.inr hne))
          have HN2 := Lib.hid hne
          have HS2 := Lib.hid hst2
          have cc2 : ((wr.drewN m).setCell ⟨w.heap.size, c, none⟩ (.bool true)).cell? ⟨b, off + c, none⟩ = some (.int .i64 (l[c]?.getD 0)) := HC.out _ HB2.out c hcn
          clear hst hor hne hst2 HST HU HBD hc1 hc2 HB
          generalize l[c]?.getD 0 = x at cc2 hxw HS2
          have hB0 := HB2.out.size
          generalize hwz : (wr.drewN m).setCell ⟨w.heap.size, c, none⟩ (.bool true) = wz at cc2 HB2 HO2 HU2 hB0
          go_wp2_with (first
            | (at_builtin
               refine wp_app rfl (.tmp 47) (.tmp 52) rfl w.heap.size vv r (some ⟨wz.heap.size, 0, none⟩) 1 1 [x] rfl (HO2.out.alloc _) rfl rfl (Ints.one _ x hxw) (by have := HS2.out.1.2.1; have := HN.out; rw [List.length_append] at *; simp at *; omega) (Nat.le_trans hB0 (by simp)) ?_
               intro v8 w8 ho8 hg8 hat8
               have HB8 := Lib.hid (below_one HB2.out hB0 _ HO2.out hg8)
               have HO8 := Lib.hid ho8
               have HG8 := Lib.hid (And.intro hg8 hat8)
               clear ho8 hg8 hat8))
          go_wp2_with fail
          go_roundw
          case rel => exact ⟨j + 1, v8, rfl, by omega, by first | rfl | go_num, Lib.hid ⟨r ++ [x], u.set c true, HS2.out, HO8.out, (HU2.out.more (World.grownBy_alloc wz _ none) (by simp)).more HG8.out.1 (fun e => HN2.out e.symm), by
            rcases HG8.out.2 with e | e
            · rw [e]; exact HN2.out
            · rw [e]
              intro e2
              have h3 := HU2.out.lt
              have h4 := Option.some.inj e2
              simp at h4
              omega, HB8.out⟩⟩
          case measure => simp [intOf]; omega
    · obtain rfl : j = n := by omega
      obtain ⟨r, u, hst, hor, hou, hne, hb⟩ := HW.out
      have hen := Sm_end (by rw [← HN.out]; exact hst) (by rw [← HN.out]; omega)
      rw [← HN.out] at hen
      have HR := Lib.hid (And.intro hor (And.intro hen hb))
      clear hst hor hou hne hb HS HW hen
      go_wp2_with fail
      go_ret
      exact ⟨⟨_, r, rfl, HR.out.1, HR.out.2.1⟩, HR.out.2.2⟩
/-- Rising answers the numbers in order. -/
theorem rising_srt (p : Option Addr) (cap n : Nat) (l : List Int) (w : World) (hn : n = l.length) (hi : Ints w p cap l) (h1 : 1 ≤ n) (h1000 : n ≤ 1000) :
    Calls Tryd.prog 19 #[.slice p n cap] w fun e w' => (∃ q c, e = .returned (.slice q n c) ∧ OwnI w' w.heap.size (.slice q n c) (srt l)) ∧ Below w.heap.size w w' := by
  refine (rising_all p cap n l w hn hi h1 h1000).mono ?_
  rintro e w' ⟨⟨v, r, rfl, ho, hl, _, _, hp, hm⟩, hb⟩
  have e1 := srt_only hp hm
  subst e1
  obtain ⟨q, c, e2, _⟩ := ho.form
  rw [hl] at e2
  subst e2
  exact ⟨⟨q, c, rfl, ho⟩, hb⟩
end Go.Proofs.YtlojehakifagbaaDoor.Rising
