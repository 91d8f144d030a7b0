/- The cells of package frag; the contracts of put, values, slices.IndexFunc and slices.ContainsFunc. No statement is proved here. -/
import Derived.Test.YtcleanjacijfoaaFFits
import Derived.Laws.OwnMore
import Derived.Shelf.RegionOpenPlain
import Derived.Test.YtcleanjacijfoaaPutMath
import Derived.Test.YtcleanjacijfoaaBytes
import Derived.Laws.StructEq
import Derived.Deep.RegionHeld3
namespace Go.Proofs.Ytcleanjacijfoaa.Part
open Go.ChangeShapes Go.WideShapes Go.ChangeAt Go.RowKit Go.Proofs.Ytcleanjacijfoaa.Kit Go.Proofs.Ytcleanjacijfoaa.App Go.Proofs.Ytcleanjacijfoaa.Cells
set_option linter.unusedVariables false
set_option maxRecDepth 20000

/-- A cell: nought where no byte is known, else the byte and one. -/
def layN : Lay Nat := ⟨fun v => [.bool (decide (v ≠ 0)), .int .u8 ((v - 1 : Nat) : Int)], 2, by decide, fun _ => rfl, fun x v hv => by
  simp only [List.mem_cons, List.not_mem_nil, or_false] at hv
  rcases hv with rfl | rfl <;> rfl⟩
def rowN (h : Nat → Nat) : List Nat := (List.range 200).map h
theorem rowN_len (h : Nat → Nat) : (rowN h).length = 200 := by simp [rowN]
theorem rowN_get (h : Nat → Nat) (i : Nat) (hi : i < 200) : (rowN h)[i]? = some (h i) := by
  unfold rowN
  rw [List.getElem?_map, List.getElem?_range hi]; rfl
theorem rowN_set (h h' : Nat → Nat) (j : Nat) (x : Nat) (hj : j < 200) (hh : ∀ i, h' i = if i = j then x else h i) : (rowN h).set j x = rowN h' := by
  apply List.ext_getElem?
  intro i
  rw [List.getElem?_set, rowN_len]
  by_cases h1 : j = i
  · subst h1
    rw [if_pos rfl, if_pos hj, rowN_get _ _ hj, hh, if_pos rfl]
  · rw [if_neg h1]
    by_cases h2 : i < 200
    · rw [rowN_get _ _ h2, rowN_get _ _ h2, hh, if_neg (fun e => h1 e.symm)]
    · rw [List.getElem?_eq_none (by rw [rowN_len]; omega), List.getElem?_eq_none (by rw [rowN_len]; omega)]
def CH (w : World) (base g : Nat) (h : Nat → Nat) : Prop := OC layN 80 w base (.slice (some ⟨g, 0, none⟩) 200 200) (rowN h) ∧ ∀ i, h i ≤ 256
theorem CH.ge {w : World} {base g : Nat} {h : Nat → Nat} (H : CH w base g h) : base ≤ g ∧ g < w.heap.size := H.1.lt g rfl
theorem oc_len {h : Nat → Nat} {w : World} {base g : Nat} (H : OC layN 80 w base (.slice (some ⟨g, 0, none⟩) 200 200) (rowN h)) : w.ownsRow base 80 2 (.slice (some ⟨g, 0, none⟩) 200 200) 200 (layN.all (rowN h)) := by
  have h1 : w.ownsRow base 80 layN.k (.slice (some ⟨g, 0, none⟩) 200 200) (rowN h).length (layN.all (rowN h)) := H
  rw [rowN_len] at h1
  exact h1
theorem CH.cell {w : World} {base g : Nat} {h : Nat → Nat} (H : CH w base g h) (i : Nat) (hi : i < 200) : w.cell? ⟨g, i * 2, none⟩ = some (.bool (decide (h i ≠ 0))) ∧ w.cell? ⟨g, i * 2 + 1, none⟩ = some (.int .u8 ((h i - 1 : Nat) : Int)) := by
  have hr := rowN_get h i hi
  refine ⟨?_, ?_⟩
  · have := World.ownsRow.cellAt (oc_len H.1) (i * 2) (by omega)
    exact this.trans (layN.all_get (rowN h) i _ hr 0 (by show 0 < 2; omega))
  · have := World.ownsRow.cellAt (oc_len H.1) (i * 2 + 1) (by omega)
    exact this.trans (layN.all_get (rowN h) i _ hr 1 (by show 1 < 2; omega))
theorem CH.frozen {w : World} {base g : Nat} {h : Nat → Nat} (H : CH w base g h) (i : Nat) : w.frozen? ⟨g, i, none⟩ = false := World.ownsRow.frozenAt (oc_len H.1) i
theorem CH.below {w w' : World} {base g : Nat} {h : Nat → Nat} (H : CH w base g h) (hb : Below w.heap.size w w') : CH w' base g h := ⟨H.1.below hb, H.2⟩
theorem CH.alloc {w : World} {base g : Nat} {h : Nat → Nat} (H : CH w base g h) (o : Obj) : CH (w.alloc o) base g h := ⟨H.1.alloc o, H.2⟩
theorem CH.drew {w : World} {base g : Nat} {h : Nat → Nat} (H : CH w base g h) : CH w.drew base g h := H
theorem CH.more {w w' : World} {base g : Nat} {h : Nat → Nat} (H : CH w base g h) {row : Nat} (hg : w.grownBy w' (some row)) (hne : g ≠ row) : CH w' base g h := ⟨H.1.more hg (.inr (fun e => hne (Option.some.inj e))), H.2⟩
theorem all_setN : ∀ (l : List Nat) (k x : Nat), k < l.length → x ≠ 0 → ((layN.all l).set (k * 2) (.bool true)).set (k * 2 + 1) (.int .u8 ((x - 1 : Nat) : Int)) = layN.all (l.set k x)
  | [], k, x, h, _ => by simp at h
  | z :: l, 0, x, h, hx => by
    show _ = layN.enc x ++ layN.all l
    have : layN.enc x = [.bool true, .int .u8 ((x - 1 : Nat) : Int)] := by show [_, _] = _; rw [decide_eq_true hx]
    rw [this]; rfl
  | z :: l, k + 1, x, h, hx => by
    have ih := all_setN l k x (by simpa using h) hx
    show ((layN.enc z ++ layN.all l).set ((k + 1) * 2) _).set ((k + 1) * 2 + 1) _ = layN.enc z ++ layN.all (l.set k x)
    rw [← ih, List.set_append_right _ _ (by show 2 ≤ _; omega), List.set_append_right _ _ (by show 2 ≤ _; omega)]
    have e1 : (k + 1) * 2 - (layN.enc z).length = k * 2 := by show (k + 1) * 2 - 2 = _; omega
    have e2 : (k + 1) * 2 + 1 - (layN.enc z).length = k * 2 + 1 := by show (k + 1) * 2 + 1 - 2 = _; omega
    rw [e1, e2]
theorem CH.set {w : World} {base g : Nat} {h h' : Nat → Nat} (H : CH w base g h) (j x : Nat) (hj : j < 200) (hx0 : x ≠ 0) (hx : x ≤ 256) (hh : ∀ i, h' i = if i = j then x else h i) :
    CH ((w.setCell ⟨g, j * 2, none⟩ (.bool true)).setCell ⟨g, j * 2 + 1, none⟩ (.int .u8 ((x - 1 : Nat) : Int))) base g h' ∧ w.grownBy ((w.setCell ⟨g, j * 2, none⟩ (.bool true)).setCell ⟨g, j * 2 + 1, none⟩ (.int .u8 ((x - 1 : Nat) : Int))) (some g) := by
  have a1 := World.ownsRow.stored (oc_len H.1) (j * 2) (.bool true)
  have a2 := World.ownsRow.stored a1.1 (j * 2 + 1) (.int .u8 ((x - 1 : Nat) : Int))
  have hall := all_setN (rowN h) j x (by rw [rowN_len]; exact hj) hx0
  rw [rowN_set h h' j x hj hh] at hall
  rw [hall] at a2
  refine ⟨⟨?_, fun i => ?_⟩, ?_⟩
  · show World.ownsRow _ _ _ layN.k _ (rowN h').length _
    rw [rowN_len]; exact a2.1
  · rw [hh]; split
    · exact hx
    · exact H.2 i
  · have g1 := a1.2
    have g2 := a2.2
    exact ⟨g2.os.trans g1.os, g2.tape.trans g1.tape, g2.output.trans g1.output, Nat.le_trans g1.size g2.size, fun k hk hne => (g2.block k (Nat.lt_of_lt_of_le hk g1.size) hne).trans (g1.block k hk hne)⟩
theorem gb_trans {a b c : World} {g : Option Nat} (g1 : a.grownBy b g) (g2 : b.grownBy c g) : a.grownBy c g :=
  ⟨g2.os.trans g1.os, g2.tape.trans g1.tape, g2.output.trans g1.output, Nat.le_trans g1.size g2.size, fun k hk hne => (g2.block k (Nat.lt_of_lt_of_le hk g1.size) hne).trans (g1.block k hk hne)⟩
theorem gb_drew {a b : World} {g : Option Nat} (h : a.grownBy b g) : a.grownBy b.drew g := ⟨h.os, h.tape, h.output, h.size, h.block⟩
theorem gb_alloc {a b : World} {g : Option Nat} (h : a.grownBy b g) (o : Obj) : a.grownBy (b.alloc o) g := gb_trans h (World.grownBy_alloc b o g)

/-- Two cells compared. -/
theorem eqC (b1 b2 : Bool) (v1 v2 : Int) (W : World) :
    (Op.equalIn 10000 79 (.agg #[.bool b1, .int .u8 v1]) (.agg #[.bool b2, .int .u8 v2])).run Try.prog W = .ok (b1 == b2 && v1 == v2) W := by
  have hS : Try.prog.underlying 79 = some (.struct (Try.prog.fieldsOf 79)) := by kernel_rfl
  have hp : Try.prog.stoodInHeld 79 = false := by kernel_rfl
  rw [show (10000 : Nat) = 9999 + 1 from rfl, run_equalIn_agg W 9999 79 _ _ hS hp]
  simp only [Program.fieldsOf, Try.underlying79]
  go_simp
  cases h1 : (b1 == b2) <;> cases h2 : (v1 == v2) <;> simp_all

set_option maxHeartbeats 2000000 in
theorem put_any (g a m c base : Nat) (p : Option Addr) (mo : Bool) (s : ByteArray) (w : World) (h : Nat → Nat) (H : CH w base g h) (hm : m = s.size) (ha : a + m ≤ 200) (hp : 0 < m → p = some ⟨g, a * 2, none⟩) (R : Bool) (hR0 : R = true ↔ Still h ⟨(a : Int), mo, s⟩ s.size) :
    Calls Try.prog 30 #[.slice p m c, .string s] w fun e w' => e = .returned (.bool R) ∧ w.grownBy w' (some g) ∧ (R = true → CH w' base g (put h ⟨(a : Int), mo, s⟩)) := by
  have hR := Lib.hid hR0
  have HP := Lib.hid hp
  have hmix := mixedP
  have hgd : Try.prog.eqGuardType Try.prog.depth 79 = false := by kernel_rfl
  subst hm
  clear hR0 hp
  have hat : Hid (Prt.at ⟨(a : Int), mo, s⟩ = a) := by show _ = _; unfold Prt.at; simp
  go_enter Try.func30, Try.ntmps30
  go_wp2_with fail
  go_loopw [9] (fun iv wr => ∃ k : Nat, k ≤ s.size ∧ iv = .int .i64 k ∧ CH wr base g (putTo h ⟨(a : Int), mo, s⟩ k) ∧ w.grownBy wr (some g) ∧ Hid (Still h ⟨(a : Int), mo, s⟩ k)) (fun i _ => s.size - (intOf i).toNat)
  case atStart => exact ⟨0, Nat.zero_le _, rfl, by rw [putTo_zero]; exact H, World.grownBy.refl _ _, fun i h1 h2 => absurd h2 (by omega)⟩
  case round =>
    obtain ⟨k, hk, rfl, hH, hG, hst⟩ := hrel
    clear H
    by_cases hlt : k < s.size
    · have hpp := HP.out (by omega)
      subst hpp
      have e0 := hH.cell (a + k) (by omega)
      rw [show putTo h ⟨(a : Int), mo, s⟩ k (a + k) = h (a + k) by have := putTo_at h ⟨(a : Int), mo, s⟩ k; rw [hat.out] at this; exact this] at e0
      obtain ⟨e1, e2⟩ := e0
      have hvb : h (a + k) ≤ 256 := by have := hH.2 (a + k); rw [show putTo h ⟨(a : Int), mo, s⟩ k (a + k) = h (a + k) by have := putTo_at h ⟨(a : Int), mo, s⟩ k; rw [hat.out] at this; exact this] at this; exact this
      have hgs := hH.ge
      have hz1 := cell_at a mo s k hlt
      obtain ⟨z, hz⟩ : ∃ z, (s[k]'hlt).toNat = z := ⟨_, rfl⟩
      have hz2 : z < 256 := by rw [← hz]; exact UInt8.toNat_lt _
      rw [hz] at hz1
      obtain ⟨v, hv⟩ : ∃ v, h (a + k) = v := ⟨_, rfl⟩
      rw [hv] at e1 e2 hvb
      have HV := Lib.hid hv
      have HZ := Lib.hid hz1
      clear hv hz1
      have a1 : a * 2 + k * 2 = (a + k) * 2 := by omega
      have a2 : a * 2 + k * 2 + 1 = (a + k) * 2 + 1 := by omega
      rw [← a1] at e1
      rw [← a2] at e2
      have f1 := hH.frozen (a * 2 + k * 2)
      have f2 := hH.frozen (a * 2 + k * 2 + 1)
      have hset := Lib.hid (hH.set (h' := putTo h ⟨(a : Int), mo, s⟩ (k + 1)) (a + k) (z + 1) (by omega) (by omega) (by omega) (fun i => by
        have := putTo_succ h ⟨(a : Int), mo, s⟩ k i
        rw [hat.out, HZ.out] at this; exact this))
      have hG2 := Lib.hid hG
      clear hH hG a1 a2
      by_cases hc1 : v = 0
      · subst hc1
        have e1' : wr.cell? ⟨g, a * 2 + k * 2, none⟩ = some (.bool false) := e1
        clear e1
        go_wp2_with fail
        go_big_region_o
        go_wp2_with fail
        go_roundw
        case rel =>
          have q := hset.out
          refine ⟨k + 1, by omega, by first | rfl | go_num, ?_, ?_, ?_⟩
          · rw [show (a * 2 + k * 2) = (a + k) * 2 by omega]; exact (q.1.alloc _).drew
          · rw [show (a * 2 + k * 2) = (a + k) * 2 by omega]; exact gb_drew (gb_alloc (gb_trans hG2.out q.2) _)
          · intro i h1 h2
            rw [hat.out] at h1 h2
            by_cases h3 : i = a + k
            · rw [h3]; exact .inl HV.out
            · exact hst.out i (by rw [hat.out]; exact h1) (by rw [hat.out]; omega)
        case measure => simp [intOf]; omega
      · have e1' : wr.cell? ⟨g, a * 2 + k * 2, none⟩ = some (.bool true) := by rw [e1, decide_eq_true hc1]
        have E1 := fun W => eqC true true ((v - 1 : Nat) : Int) (z : Int) W
        clear e1
        by_cases hc2 : v = z + 1
        · subst hc2
          have e3 : ((z + 1 - 1 : Nat) : Int) = (z : Int) := by omega
          rw [e3] at e2 E1
          have E2 : ∀ W, (Op.equalIn 10000 79 (.agg #[.bool true, .int .u8 (z : Int)]) (.agg #[.bool true, .int .u8 (z : Int)])).run Try.prog W = .ok true W := fun W => by rw [E1 W]; simp
          clear E1 e3
          go_wp2_with fail
          go_big_region_o
          go_wp2_with fail
          go_roundw
          case rel =>
            have q := hset.out
            refine ⟨k + 1, by omega, by first | rfl | go_num, ?_, ?_, ?_⟩
            · rw [show (a * 2 + k * 2) = (a + k) * 2 by omega]; exact (q.1.alloc _).drew
            · rw [show (a * 2 + k * 2) = (a + k) * 2 by omega]; exact gb_drew (gb_alloc (gb_trans hG2.out q.2) _)
            · intro i h1 h2
              rw [hat.out] at h1 h2
              by_cases h3 : i = a + k
              · rw [h3]; exact .inr (by rw [HV.out, HZ.out])
              · exact hst.out i (by rw [hat.out]; exact h1) (by rw [hat.out]; omega)
          case measure => simp [intOf]; omega
        · have e3 : (((v - 1 : Nat) : Int) == (z : Int)) = false := by rw [beq_eq_false_iff_ne]; omega
          obtain ⟨u, hu⟩ : ∃ u : Int, ((v - 1 : Nat) : Int) = u := ⟨_, rfl⟩
          rw [hu] at e2 E1 e3
          have E2 : ∀ W, (Op.equalIn 10000 79 (.agg #[.bool true, .int .u8 u]) (.agg #[.bool true, .int .u8 (z : Int)])).run Try.prog W = .ok false W := fun W => by rw [E1 W, e3]; rfl
          clear E1 e3 hu
          have hR' : R = false := by
            cases R
            · rfl
            · have := hR.out.1 rfl (a + k) (by rw [hat.out]; omega) (by rw [hat.out]; omega)
              rw [HV.out, HZ.out] at this
              omega
          clear hR
          subst hR'
          go_wp2_with fail
          go_big_region_o
          go_wp2_with fail
          go_ret
          exact ⟨rfl, gb_drew (gb_alloc hG2.out _), fun e => by cases e⟩
    · obtain rfl : k = s.size := by omega
      have hR' : R = true := hR.out.2 hst.out
      clear hR
      subst hR'
      have hp2 : putTo h ⟨(a : Int), mo, s⟩ s.size = put h ⟨(a : Int), mo, s⟩ := putTo_all h ⟨(a : Int), mo, s⟩
      rw [hp2] at hH
      go_wp2_with fail
      go_ret
      exact ⟨rfl, hG, hH⟩
end Go.Proofs.Ytcleanjacijfoaa.Part
