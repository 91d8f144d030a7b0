/- The spanning tree: links told in another order, one link gone. Mathematics alone. No statement is proved here. -/
import Derived.Test.YthjhlemdmahlnaaStpMath
namespace Go.Proofs.Ythjhlemdmahlnaa.Stp
open Go.Proofs.Ythjhlemdmahlnaa.Vector Go.Proofs.Ythjhlemdmahlnaa.Spf
set_option linter.unusedVariables false

variable {n : Nat} {ls ms : List Lk}
/-- Without the link at k. -/
def gone (ls : List Lk) (k : Nat) : List Lk := ls.take k ++ ls.drop (k + 1)
theorem gone_sub {k : Nat} {l : Lk} (h : l ∈ gone ls k) : l ∈ ls := by
  rcases List.mem_append.1 h with h | h
  · exact List.mem_of_mem_take h
  · exact List.mem_of_mem_drop h
theorem gone_len {k : Nat} (h : k < ls.length) : (gone ls k).length + 1 = ls.length := by
  unfold gone
  rw [List.length_append, List.length_take, List.length_drop]; omega
theorem gone_good (g : Vector.Good n ls) {k : Nat} (h : k < ls.length) : Vector.Good n (gone ls k) :=
  ⟨g.lo, g.up, by have := gone_len h; have := g.len; omega, fun l hl => g.all l (gone_sub hl)⟩
theorem gone_keeps (g : Vector.Good n ls) {k : Nat} (hu : us ls n k = false) : Keeps ls (gone ls k) := by
  refine keeps_of g (fun l hl => gone_sub hl) fun j hj hju => ?_
  have hne : j ≠ k := fun e => by rw [e, hu] at hju; cases hju
  unfold lk
  rw [List.getElem?_eq_getElem hj]
  refine List.mem_append.2 ?_
  rcases Nat.lt_or_ge j k with h | h
  · refine .inl (List.mem_iff_getElem?.2 ⟨j, ?_⟩)
    rw [List.getElem?_take, if_pos h, List.getElem?_eq_getElem hj]; rfl
  · refine .inr (List.mem_iff_getElem?.2 ⟨j - (k + 1), ?_⟩)
    rw [List.getElem?_drop, show k + 1 + (j - (k + 1)) = j by omega, List.getElem?_eq_getElem hj]; rfl
/-- A link told from its other end; all of them, the last first. -/
def tw (l : Lk) : Lk := ⟨l.b, l.a, l.c⟩
def turned (ls : List Lk) : List Lk := ls.reverse.map tw
theorem turned_len (ls : List Lk) : (turned ls).length = ls.length := by simp [turned]
theorem turned_mem {l : Lk} : l ∈ turned ls ↔ tw l ∈ ls := by
  unfold turned
  rw [List.mem_map]
  constructor
  · rintro ⟨x, hx, rfl⟩
    exact List.mem_reverse.1 hx
  · intro h
    exact ⟨tw l, List.mem_reverse.2 h, rfl⟩
theorem turned_good (g : Vector.Good n ls) : Vector.Good n (turned ls) :=
  ⟨g.lo, g.up, by rw [turned_len]; exact g.len, fun l hl => by
    have := g.all _ (turned_mem.1 hl)
    exact ⟨this.2.1, this.1, this.2.2.1, fun e => this.2.2.2 e.symm⟩⟩
theorem turned_ed {i j : Nat} {c : Int} : Ed (turned ls) i j c ↔ Ed ls i j c := by
  constructor
  · rintro ⟨l, hl, hc, h⟩
    exact ⟨tw l, turned_mem.1 hl, hc, by rcases h with ⟨a, b⟩ | ⟨a, b⟩; exact .inr ⟨b, a⟩; exact .inl ⟨b, a⟩⟩
  · rintro ⟨l, hl, hc, h⟩
    exact ⟨tw l, turned_mem.2 hl, hc, by rcases h with ⟨a, b⟩ | ⟨a, b⟩; exact .inr ⟨b, a⟩; exact .inl ⟨b, a⟩⟩
theorem turned_keeps (g : Vector.Good n ls) : Keeps ls (turned ls) := by
  refine ⟨fun i j c h => turned_ed.1 h, fun i v h => turned_ed.2 ?_⟩
  have := (up_ov g h).co
  rcases co_or g i v with e | e
  · omega
  · exact e
theorem turned_step {s j : Nat} (h : s + 1 + j = ls.length) : (turned ls).take (s + 1) = (turned ls).take s ++ [tw (lk ls j)] := by
  rw [List.take_add_one]
  congr 1
  unfold turned lk
  rw [List.getElem?_map, List.getElem?_reverse (by omega), show ls.length - 1 - s = j by omega, List.getElem?_eq_getElem (by omega)]
  rfl
/-- Both ends of a link have one root. -/
theorem ends_root (g : Vector.Good n ls) {k : Nat} (h : k < ls.length) : rt ls (lk ls k).a.toNat = rt ls (lk ls k).b.toNat := by
  have he : Ed ls (lk ls k).a.toNat (lk ls k).b.toNat (lk ls k).c := ⟨_, lk_mem h, rfl, .inl ⟨rfl, rfl⟩⟩
  have h1 := D_le (Way.one he) 8 (by omega)
  have h2 := Ed.cost g he
  have h3 : ds ls (lk ls k).a.toNat (lk ls k).b.toNat ≤ (lk ls k).c := h1
  exact rt_same g (by omega)
end Go.Proofs.Ythjhlemdmahlnaa.Stp
