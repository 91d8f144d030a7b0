/- The document's answer on queues: what is wrong, in which order they are served. No statement is proved here. -/
import Derived.Test.YtmjkjkiogkmmpaaDoorDrrIn
import Derived.Test.YtmjkjkiogkmmpaaDoorDrrTwo
import Derived.Test.YtmjkjkiogkmmpaaDoorDrrRefMath
import Derived.Test.YtmjkjkiogkmmpaaDoorAll
import Derived.BigRegion
import Derived.BigQuiet
namespace Go.Proofs.YtmjkjkiogkmmpaaDoor.Drr
open Go.ChangeShapes Go.WideShapes Go.ChangeAt Go.RowKit Go.Proofs.YtmjkjkiogkmmpaaDoor.Kit Go.Proofs.YtmjkjkiogkmmpaaDoor.App Go.Proofs.YtmjkjkiogkmmpaaDoor.Err
set_option linter.unusedVariables false
set_option maxRecDepth 20000
set_option maxHeartbeats 2000000

theorem rqueues_any (p : Option Addr) (cap n : Nat) (qs : List (List Int)) (w : World) (hn : n = qs.length) (hi : RowsI w p cap qs) (c : Int) (hc : code qs = c) :
    Calls Tryd.prog 4 #[.slice p n cap] w fun e w' => e = .returned (.int .i64 c) ∧ w' = w := by
  have hlen := hi.len_le
  rw [← hn] at hlen
  unfold code at hc
  rw [← hn] at hc
  by_cases h5 : 5 < n
  · have t1 : decide ((n : Int) > 5) = true := decide_eq_true (by omega)
    rw [if_pos h5] at hc
    subst hc
    clear hn hi h5
    go_enter Tryd.func4, Tryd.ntmps4
    go_wp2_with fail
    go_ret
    exact ⟨rfl, rfl⟩
  · have t1 : decide ((n : Int) > 5) = false := decide_eq_false (by omega)
    rw [if_neg h5] at hc
    have HC := Lib.hid hc
    have HI := Lib.hid hi
    have HN := Lib.hid hn
    have CT := Lib.hid (all_any 1 20)
    clear hn hi hc h5
    go_enter Tryd.func4, Tryd.ntmps4
    go_wp2_with fail
    go_loopw [3] (fun iv wr => ∃ k : Nat, k ≤ n ∧ iv = .int .i64 k ∧ wr = w ∧ Hid (∀ j : Nat, j < k → bad1 (row qs j) = 0)) (fun i _ => n - (intOf i).toNat)
    case atStart => exact ⟨0, Nat.zero_le _, rfl, rfl, fun j hj => absurd hj (Nat.not_lt_zero _)⟩
    case round =>
      obtain ⟨k, hk, rfl, rfl, H⟩ := hrel
      by_cases hlt : k < n
      · have u1 : decide ((k : Int) < (n : Int)) = true := decide_eq_true (by omega)
        have HK := Lib.hid (show k < qs.length by rw [← HN.out]; exact hlt)
        obtain ⟨b, off, rfl, _, hcc⟩ := HI.out.2.2 (Nat.lt_of_le_of_lt (Nat.zero_le _) HK.out)
        obtain ⟨q, c1, hck, hik⟩ := hcc k HK.out
        have hlen1 := hik.len_le
        clear hcc
        obtain ⟨m, hm⟩ : ∃ m, (row qs k).length = m := ⟨_, rfl⟩
        rw [show (qs[k]?.getD []).length = m from hm] at hck
        have hlen1' : m ≤ 9223372036854775807 := by rw [← hm]; exact hlen1
        clear hlen1
        have hik' : Ints wr q c1 (row qs k) := hik
        clear hik
        obtain ⟨d, hd⟩ : ∃ d, bad1 (row qs k) = d := ⟨_, rfl⟩
        have HD := Lib.hid hd
        unfold bad1 at hd
        rw [hm] at hd
        by_cases h8 : 8 < m
        · have u2 : decide ((m : Int) > 8) = true := decide_eq_true (by omega)
          rw [if_pos h8] at hd
          have HB := Lib.hid (show c = 4 by rw [← HC.out, bads_at qs k HK.out H.out (by rw [HD.out, ← hd]; decide), HD.out, hd])
          clear hd hm hik' h8
          go_wp2_with fail
          go_ret
          exact ⟨by rw [HB.out]; rfl, rfl⟩
        · have u2 : decide ((m : Int) > 8) = false := decide_eq_false (by omega)
          rw [if_neg h8] at hd
          obtain ⟨R, hR⟩ : ∃ R, R = within 1 20 (row qs k) := ⟨_, rfl⟩
          have C := Lib.hid (CT.out q c1 m (row qs k) wr hm.symm hik' R hR)
          rw [show fits (row qs k) = R from hR.symm] at hd
          cases R with
          | false =>
            rw [if_neg (by decide)] at hd
            have HB := Lib.hid (show c = 1 by rw [← HC.out, bads_at qs k HK.out H.out (by rw [HD.out, ← hd]; decide), HD.out, hd])
            clear hd hm hik' h8 hR
            go_wp2_with fail
            refine C.out.mono ?_; rintro e w1 ⟨rfl, rfl⟩
            go_wp2_with fail
            go_ret
            exact ⟨by rw [HB.out]; rfl, rfl⟩
          | true =>
            rw [if_pos rfl] at hd
            have H2 := Lib.hid (show ∀ j : Nat, j < k + 1 → bad1 (row qs j) = 0 from fun j hj => by
              by_cases e : j = k
              · rw [e, HD.out, hd]
              · exact H.out j (by omega))
            clear hd hm hik' h8 hR
            go_wp2_with fail
            refine C.out.mono ?_; rintro e w1 ⟨rfl, rfl⟩
            go_wp2_with fail
            go_roundw
            case rel => exact ⟨k + 1, by omega, by first | rfl | go_num, by first | trivial | rfl, H2⟩
            case measure => simp [intOf]; omega
      · obtain rfl : k = n := by omega
        have u1 : decide ((k : Int) < (k : Int)) = false := decide_eq_false (by omega)
        have HB := Lib.hid (show c = 0 by rw [← HC.out]; exact bads_none (fun j hj => H.out j (by rw [HN.out]; exact hj)))
        go_wp2_with fail
        go_ret
        exact ⟨by rw [HB.out]; rfl, rfl⟩

def lstA (n : Nat) (a : Nat → Nat) : List Int := (List.range n).map fun k : Nat => ((a k : Nat) : Int)
def lstC (n : Nat) (c : Nat → Int) : List Int := (List.range n).map c
theorem lstA_len (n : Nat) (a : Nat → Nat) : (lstA n a).length = n := by simp [lstA]
theorem lstC_len (n : Nat) (c : Nat → Int) : (lstC n c).length = n := by simp [lstC]
theorem lstA_get {n k : Nat} (a : Nat → Nat) (hk : k < n) : (lstA n a)[k]?.getD 0 = ((a k : Nat) : Int) := by simp [lstA, hk]
theorem lstC_get {n k : Nat} (c : Nat → Int) (hk : k < n) : (lstC n c)[k]?.getD 0 = c k := by simp [lstC, hk]
theorem lstA_zero (n : Nat) : lstA n (fun _ => 0) = List.replicate n 0 := by simp [lstA, List.map_const']
theorem lstC_zero (n : Nat) : lstC n (fun _ => 0) = List.replicate n 0 := by simp [lstC, List.map_const']
theorem lstA_set {n i : Nat} (a : Nat → Nat) (hi : i < n) (x : Nat) : (lstA n a).set i (x : Int) = lstA n (upF a i x) := by
  unfold lstA
  rw [map_set n _ i hi]
  refine List.map_congr_left fun j _ => ?_
  unfold upF
  split <;> rfl
theorem lstC_set {n i : Nat} (c : Nat → Int) (hi : i < n) (x : Int) : (lstC n c).set i x = lstC n (upF c i x) := by
  unfold lstC
  rw [map_set n _ i hi]
  rfl
theorem upF_up {α : Type} (f : Nat → α) (i : Nat) (x y : α) : upF (upF f i x) i y = upF f i y := by
  funext k
  unfold upF
  split <;> rfl
theorem upF_self {α : Type} (f : Nat → α) (i : Nat) : upF f i (f i) = f := by
  funext k
  unfold upF
  split
  · rename_i h; rw [h]
  · rfl

structure Three (w0 w : World) (G1 G2 B n : Nat) (A S : List Int) (o : Value) (out : List Int) : Prop where
  two : Two w0 w G1 G2 n A S
  own : OwnI w B o out
  lt2 : G2 < B
  siz : B ≤ w.heap.size
variable {w0 w w' : World} {G1 G2 B n : Nat} {A S out out' : List Int} {o o' : Value}
theorem Three.below (H : Three w0 w G1 G2 B n A S o out) (hb : Below w.heap.size w w') : Three w0 w' G1 G2 B n A S o out :=
  ⟨⟨H.two.o1.below hb, H.two.o2.below hb, H.two.lo, H.two.lt, bcall H.two.bel hb⟩, H.own.below hb, H.lt2, Nat.le_trans H.siz hb.size⟩
theorem Three.drewN (H : Three w0 w G1 G2 B n A S o out) (m : Nat) : Three w0 (w.drewN m) G1 G2 B n A S o out := H.below (bdrewN (brefl w) m)
theorem Three.drew (H : Three w0 w G1 G2 B n A S o out) : Three w0 w.drew G1 G2 B n A S o out := H.below (bdrewN (brefl w) 1)
theorem Three.alloc (H : Three w0 w G1 G2 B n A S o out) (ob : Obj) : Three w0 (w.alloc ob) G1 G2 B n A S o out := H.below (balloc (brefl w) ob)
theorem own_ge {v : Value} {l : List Int} {g : Nat} (h : OwnI w B v l) (hg : g < B) : v.ownBlock = none ∨ v.ownBlock ≠ some g := by
  cases hv : v.ownBlock with
  | none => exact .inl rfl
  | some k => exact .inr (fun e => by have := (h.lt k hv).1; injection e with e; omega)
theorem Three.set1 (H : Three w0 w G1 G2 B n A S o out) (k : Nat) (x : Int) (hx : (Lit.int .i64 x).wf = true) : Three w0 (w.setCell ⟨G1, k, none⟩ (.int .i64 x)) G1 G2 B n (A.set k x) S o out :=
  ⟨H.two.set1 k x hx, H.own.more (set_grown w G1 k _) (own_ge H.own (Nat.lt_trans H.two.lt H.lt2)), H.lt2, by have := (set_grown w G1 k (.int .i64 x)).size; have := H.siz; omega⟩
theorem Three.set2 (H : Three w0 w G1 G2 B n A S o out) (k : Nat) (x : Int) (hx : (Lit.int .i64 x).wf = true) : Three w0 (w.setCell ⟨G2, k, none⟩ (.int .i64 x)) G1 G2 B n A (S.set k x) o out :=
  ⟨H.two.set2 k x hx, H.own.more (set_grown w G2 k _) (own_ge H.own H.lt2), H.lt2, by have := (set_grown w G2 k (.int .i64 x)).size; have := H.siz; omega⟩
theorem Three.app (H : Three w0 w G1 G2 B n A S o out) (ho : OwnI w' B o' out') (hg : w.grownBy w' o.ownBlock) : Three w0 w' G1 G2 B n A S o' out' :=
  ⟨⟨H.two.o1.more hg (.inr (fun e => by have := (H.own.lt G1 e.symm).1; have := H.two.lt; have := H.lt2; omega)), H.two.o2.more hg (.inr (fun e => by have := (H.own.lt G2 e.symm).1; have := H.lt2; omega)), H.two.lo, H.two.lt,
    H.two.bel.grown hg H.two.bel.size (fun k hk => by have := (H.own.lt k hk).1; have := H.two.lo; have := H.two.lt; have := H.lt2; omega)⟩, ho, H.lt2, Nat.le_trans H.siz hg.size⟩
end Go.Proofs.YtmjkjkiogkmmpaaDoor.Drr
