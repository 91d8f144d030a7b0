/- Fragments in order are the same fragments, as many of each, none ahead of one that stands ahead of it, and the same text: the law returns true for every input. No condition. -/
import Derived.Test.YtaflpdagehocfaaFragLaw
import Derived.Test.YtaflpdagehocfaaFOrder
import Derived.Test.YtaflpdagehocfaaOrderWant
namespace Go.Proofs.Ytaflpdagehocfaa.fragOrderP
open Go.ChangeShapes Go.WideShapes Go.ChangeAt Go.RowKit
open Go.Proofs.Ytaflpdagehocfaa.Kit Go.Proofs.Ytaflpdagehocfaa.App Go.Proofs.Ytaflpdagehocfaa.Cells Go.Proofs.Ytaflpdagehocfaa.Part
set_option linter.unusedVariables false
set_option maxRecDepth 20000

instance (a b : Prt) : Decidable (a = b) := by
  obtain ⟨a1, a2, a3⟩ := a
  obtain ⟨b1, b2, b3⟩ := b
  rw [Prt.mk.injEq]
  infer_instance
/-- How many are as x. -/
def cnt (x : Prt) (l : List Prt) : Nat := l.countP fun y => decide (y = x)
theorem cnt_snoc (x : Prt) (l : List Prt) (k : Nat) (y : Prt) (h : l[k]? = some y) : cnt x (l.take (k + 1)) = cnt x (l.take k) + (if y = x then 1 else 0) := by
  unfold cnt
  rw [List.take_add_one, h, List.countP_append]
  congr 1
  by_cases e : y = x
  · rw [if_pos e, e]; simp
  · rw [if_neg e]; simp [e]
theorem cnt_le (x : Prt) (l : List Prt) : cnt x l ≤ l.length := List.countP_le_length
theorem cnt_perm (x : Prt) {l m : List Prt} (h : m.Perm l) : cnt x m = cnt x l := h.countP_eq _
/-- Two fragments compared. -/
theorem eqP (a1 b1 : Int) (a2 b2 : Bool) (a3 b3 : ByteArray) (W : World) (R : Bool) (hR : R = true ↔ (⟨a1, a2, a3⟩ : Prt) = ⟨b1, b2, b3⟩) :
    (Op.equalIn 10000 31 (.agg #[.int .i64 a1, .bool a2, .string a3]) (.agg #[.int .i64 b1, .bool b2, .string b3])).run Try.prog W = .ok R W := by
  have hS : Try.prog.underlying 31 = some (.struct (Try.prog.fieldsOf 31)) := by kernel_rfl
  have hp : Try.prog.stoodInHeld 31 = false := by kernel_rfl
  have hRR : R = (a1 == b1 && (a2 == b2 && a3.toList == b3.toList)) := by
    cases R with
    | true =>
      have e := hR.1 rfl
      rw [Prt.mk.injEq] at e
      obtain ⟨rfl, rfl, rfl⟩ := e
      simp
    | false =>
      symm
      by_cases h1 : a1 = b1
      · by_cases h2 : a2 = b2
        · have h3 : ¬ a3.toList = b3.toList := fun h3 => by
            have := hR.2 (by rw [h1, h2, toList_inj h3])
            cases this
          simp [h1, h2, h3]
        · simp [h2]
      · simp [h1]
  rw [hRR, show (10000 : Nat) = 9999 + 1 from rfl, run_equalIn_agg W 9999 31 _ _ hS hp]
  simp only [Program.fieldsOf, Try.underlying31]
  go_simp
  cases h1 : (a1 == b1) <;> cases h2 : (a2 == b2) <;> cases h3 : (a3.toList == b3.toList) <;> simp_all

abbrev Law (p : Option Addr) (cap : Nat) (l : List Prt) (w : World) : Prop := Calls Try.prog 5 #[.slice p l.length cap] w fun e w' => e = .returned (.bool true) ∧ Below w.heap.size w w'
set_option maxHeartbeats 1000000 in
theorem law_big (p : Option Addr) (cap : Nat) (l : List Prt) (w : World) (hc : CI lay w p cap l) (h : 40 < l.length) : Law p cap l w := by
  have FA := Lib.hid (fact_any w)
  have FO := Lib.hid (fun W (hW : Below w.heap.size w W) => Srt.forder_big p cap l.length l W rfl (hc.below hW) h)
  have hlen := hc.len_le
  have t0 : decide ((l.length : Int) > 40) = true := decide_eq_true (by omega)
  unfold Law
  go_enter Try.func5, Try.ntmps5
  go_wp2_with fail
  refine FA.out.mono ?_; rintro e w1 ⟨rfl, hb1⟩
  go_wp2_with fail
  refine (FO.out _ hb1).mono ?_; rintro e w2 ⟨rfl, rfl⟩
  clear FA FO
  go_wp2_with fail
  go_ret
  exact ⟨rfl, hb1⟩
set_option maxHeartbeats 4000000 in
theorem law_good (p : Option Addr) (cap : Nat) (l : List Prt) (w : World) (hc : CI lay w p cap l) (hF : ∀ x ∈ l, Fits x) (h40 : l.length ≤ 40) : Law p cap l w := by
  have FA := Lib.hid (fact_any w)
  have FO := Lib.hid (fun W (hW : Below w.heap.size w W) => Srt.forder_any p cap l.length l W rfl (hc.below hW) h40)
  have HC := Lib.hid hc
  have HF := Lib.hid hF
  have hmix := mixedP
  obtain ⟨n, hn⟩ : ∃ n, l.length = n := ⟨_, rfl⟩
  have HN := Lib.hid hn
  rw [hn] at FO h40
  unfold Law
  rw [hn]
  clear hc hF hn
  go_enter Try.func5, Try.ntmps5
  go_wp2_with fail
  refine FA.out.mono ?_; rintro e w1 ⟨rfl, hb1⟩
  go_wp2_with fail
  refine (FO.out _ hb1).mono ?_; rintro e w2 ⟨q, c, m, rfl, hO, hCm, hb2⟩
  have hB2 := bcall hb1 hb2
  have hml : m.length = n := (ordered_perm hO).length_eq.trans HN.out
  have HML := Lib.hid hml
  have HCM := Lib.hid hCm
  have HO := Lib.hid hO
  have HCL := Lib.hid (HC.out.below hB2)
  have t1 : ((n : Int) != (n : Int)) = false := by simp
  clear FA FO hCm hO hb1 hb2 hml
  go_wp2_with fail
  go_loopw [6] (fun iv wr => ∃ i r : Nat, i ≤ n ∧ iv = .int .i64 i ∧ wr = w2.drewN r) (fun i _ => n - (intOf i).toNat)
  case atStart => exact ⟨0, 0, Nat.zero_le _, rfl, rfl⟩
  case round =>
    obtain ⟨i, r, hi, rfl, rfl⟩ := hrel
    by_cases hlt : i < n
    · have u1 : decide ((i : Int) < (n : Int)) = true := decide_eq_true (by omega)
      obtain ⟨qm, om, rfl, hqm, hcm⟩ := HCM.out.2.2 (by rw [HML.out]; omega)
      obtain ⟨ql, ol, rfl, hql, hcl⟩ := HCL.out.2.2 (by rw [HN.out]; omega)
      obtain ⟨⟨a, b, s⟩, hx⟩ : ∃ x, m[i]? = some x := ⟨_, List.getElem?_eq_getElem (by rw [HML.out]; omega)⟩
      have hx0 : w2.cell? ⟨qm, om + i * 3, none⟩ = some (.int .i64 a) := hcm i _ hx 0 _ rfl
      have hx1 : w2.cell? ⟨qm, om + i * 3 + 1, none⟩ = some (.bool b) := hcm i _ hx 1 _ rfl
      have hx2 : w2.cell? ⟨qm, om + i * 3 + 2, none⟩ = some (.string s) := hcm i _ hx 2 _ rfl
      have HX := Lib.hid hx
      have HCMC := Lib.hid hcm
      have HCLC := Lib.hid hcl
      have hgd : Try.prog.eqGuardType Try.prog.depth 31 = false := by kernel_rfl
      clear hcm hcl hx
      go_wp2_with fail
      go_loopw [7, 8, 9] (fun av bv kv wi => ∃ k u : Nat, k ≤ n ∧ kv = .int .i64 k ∧ av = .int .i64 (cnt ⟨a, b, s⟩ (l.take k) : Nat) ∧ bv = .int .i64 (cnt ⟨a, b, s⟩ (m.take k) : Nat) ∧ wi = w2.drewN u) (fun _ _ i _ => n - (intOf i).toNat)
      case atStart => exact ⟨0, r, Nat.zero_le _, rfl, rfl, rfl, rfl⟩
      case round =>
        obtain ⟨k, u, hk, rfl, rfl, rfl, rfl⟩ := hrel
        have hca := cnt_le ⟨a, b, s⟩ (l.take k)
        have hcb := cnt_le ⟨a, b, s⟩ (m.take k)
        rw [List.length_take] at hca hcb
        obtain ⟨ca, hca1⟩ : ∃ ca, cnt ⟨a, b, s⟩ (l.take k) = ca := ⟨_, rfl⟩
        obtain ⟨cb, hcb1⟩ : ∃ cb, cnt ⟨a, b, s⟩ (m.take k) = cb := ⟨_, rfl⟩
        rw [hca1] at hca
        rw [hcb1] at hcb
        have hcan : ca ≤ 40 := by omega
        have hcbn : cb ≤ 40 := by omega
        have HCA := Lib.hid hca1
        have HCB := Lib.hid hcb1
        rw [hca1, hcb1]
        clear hca hcb hca1 hcb1
        by_cases hlt2 : k < n
        · have u2 : decide ((k : Int) < (n : Int)) = true := decide_eq_true (by omega)
          obtain ⟨⟨a1, b1, s1⟩, hy⟩ : ∃ x, l[k]? = some x := ⟨_, List.getElem?_eq_getElem (by rw [HN.out]; omega)⟩
          obtain ⟨⟨a2, b2, s2⟩, hz⟩ : ∃ x, m[k]? = some x := ⟨_, List.getElem?_eq_getElem (by rw [HML.out]; omega)⟩
          have hy0 : w2.cell? ⟨ql, ol + k * 3, none⟩ = some (.int .i64 a1) := HCLC.out k _ hy 0 _ rfl
          have hy1 : w2.cell? ⟨ql, ol + k * 3 + 1, none⟩ = some (.bool b1) := HCLC.out k _ hy 1 _ rfl
          have hy2 : w2.cell? ⟨ql, ol + k * 3 + 2, none⟩ = some (.string s1) := HCLC.out k _ hy 2 _ rfl
          have hz0 : w2.cell? ⟨qm, om + k * 3, none⟩ = some (.int .i64 a2) := HCMC.out k _ hz 0 _ rfl
          have hz1 : w2.cell? ⟨qm, om + k * 3 + 1, none⟩ = some (.bool b2) := HCMC.out k _ hz 1 _ rfl
          have hz2 : w2.cell? ⟨qm, om + k * 3 + 2, none⟩ = some (.string s2) := HCMC.out k _ hz 2 _ rfl
          have HSA := Lib.hid (cnt_snoc ⟨a, b, s⟩ l k _ hy)
          have HSB := Lib.hid (cnt_snoc ⟨a, b, s⟩ m k _ hz)
          rw [HCA.out] at HSA
          rw [HCB.out] at HSB
          clear hy hz
          by_cases e1 : (⟨a1, b1, s1⟩ : Prt) = ⟨a, b, s⟩
          · have E1 := fun W => eqP a1 a b1 b s1 s W true ⟨fun _ => e1, fun _ => rfl⟩
            rw [if_pos e1] at HSA
            have HE1 := Lib.hid e1
            clear e1
            by_cases e2 : (⟨a2, b2, s2⟩ : Prt) = ⟨a, b, s⟩
            · have E2 := fun W => eqP a2 a b2 b s2 s W true ⟨fun _ => e2, fun _ => rfl⟩
              rw [if_pos e2] at HSB
              clear e2
              go_wp2_with fail
              go_big_region_o
              go_wp2_with fail
              go_big_region_o
              go_wp2_with fail
              go_roundw
              case rel => exact ⟨k + 1, u + 1 + 1, by omega, by first | rfl | go_num, by rw [HSA.out]; first | rfl | go_num, by rw [HSB.out]; first | rfl | go_num, rfl⟩
              case measure => simp [intOf]; omega
            · have E2 := fun W => eqP a2 a b2 b s2 s W false ⟨fun e => (by cases e), fun e => absurd e e2⟩
              rw [if_neg e2] at HSB
              clear e2
              go_wp2_with fail
              go_big_region_o
              go_wp2_with fail
              go_big_region_o
              go_wp2_with fail
              go_roundw
              case rel => exact ⟨k + 1, u + 1 + 1, by omega, by first | rfl | go_num, by rw [HSA.out]; first | rfl | go_num, by rw [HSB.out]; first | rfl | go_num, rfl⟩
              case measure => simp [intOf]; omega
          · have E1 := fun W => eqP a1 a b1 b s1 s W false ⟨fun e => (by cases e), fun e => absurd e e1⟩
            rw [if_neg e1] at HSA
            clear e1
            by_cases e2 : (⟨a2, b2, s2⟩ : Prt) = ⟨a, b, s⟩
            · have E2 := fun W => eqP a2 a b2 b s2 s W true ⟨fun _ => e2, fun _ => rfl⟩
              rw [if_pos e2] at HSB
              clear e2
              go_wp2_with fail
              go_big_region_o
              go_wp2_with fail
              go_big_region_o
              go_wp2_with fail
              go_roundw
              case rel => exact ⟨k + 1, u + 1 + 1, by omega, by first | rfl | go_num, by rw [HSA.out]; first | rfl | go_num, by rw [HSB.out]; first | rfl | go_num, rfl⟩
              case measure => simp [intOf]; omega
            · have E2 := fun W => eqP a2 a b2 b s2 s W false ⟨fun e => (by cases e), fun e => absurd e e2⟩
              rw [if_neg e2] at HSB
              clear e2
              go_wp2_with fail
              go_big_region_o
              go_wp2_with fail
              go_big_region_o
              go_wp2_with fail
              go_roundw
              case rel => exact ⟨k + 1, u + 1 + 1, by omega, by first | rfl | go_num, by rw [HSA.out]; first | rfl | go_num, by rw [HSB.out]; first | rfl | go_num, rfl⟩
              case measure => simp [intOf]; omega
        · have u2 : decide ((k : Int) < (n : Int)) = false := decide_eq_false (by omega)
          obtain rfl : k = n := by omega
          have hcc : ca = cb := by
            rw [← HCA.out, ← HCB.out, List.take_of_length_le (by rw [HN.out]; omega), List.take_of_length_le (by rw [HML.out]; omega)]
            exact (cnt_perm _ (ordered_perm HO.out)).symm
          subst hcc
          have u3 : ((ca : Int) != (ca : Int)) = false := by simp
          by_cases hi0 : 0 < i
          · obtain ⟨j, rfl⟩ : ∃ j, i = j + 1 := ⟨i - 1, by omega⟩
            have u4 : decide ((j : Int) + 1 > 0) = true := decide_eq_true (by omega)
            obtain ⟨⟨a2, b2, s2⟩, hz⟩ : ∃ x, m[j]? = some x := ⟨_, List.getElem?_eq_getElem (by rw [HML.out]; omega)⟩
            have hz0 : w2.cell? ⟨qm, om + j * 3, none⟩ = some (.int .i64 a2) := HCMC.out j _ hz 0 _ rfl
            have hjw : IntKind.i64.wrap (j : Int) = (j : Int) := by rw [IntKind.wrap_i64]; omega
            have hle : a2 ≤ a := by
              have hp := List.pairwise_iff_getElem.1 (ordered_le HO.out)
              have l1 : j < m.length := by rw [HML.out]; omega
              have l2 : j + 1 < m.length := by rw [HML.out]; omega
              have := hp j (j + 1) l1 l2 (by omega)
              have h1 := HX.out
              rw [List.getElem?_eq_getElem l1] at hz
              rw [List.getElem?_eq_getElem l2] at h1
              rw [Option.some.inj hz, Option.some.inj h1] at this
              exact this
            have u5 : decide (a2 > a) = false := decide_eq_false (by omega)
            have u6 : ¬ a < a2 := by omega
            clear hz
            go_wp2_with fail
            go_big_region_o
            go_wp2_with fail
            go_roundw
            case rel => exact ⟨j + 1 + 1, u + 1, by omega, by first | rfl | go_num, rfl⟩
            case measure => simp [intOf]; omega
          · obtain rfl : i = 0 := by omega
            have u4 : decide (((0 : Nat) : Int) > 0) = false := rfl
            go_wp2_with fail
            go_big_region_o
            go_wp2_with fail
            go_roundw
            case rel => exact ⟨1, u + 1, by omega, by first | rfl | go_num, rfl⟩
            case measure => simp [intOf]; omega
    · have u1 : decide ((i : Int) < (n : Int)) = false := decide_eq_false (by omega)
      obtain ⟨js, je, ks, ke, h1, h2, h3⟩ : ∃ (js : ByteArray) (je : Value) (ks : ByteArray) (ke : Value), (match joinM l with | .ok t => js = ⟨t.toArray⟩ ∧ je = .nilIface | .error m => js = .empty ∧ je = .iface 39 (.int .i64 m)) ∧ (match joinM m with | .ok t => ks = ⟨t.toArray⟩ ∧ ke = .nilIface | .error m => ks = .empty ∧ ke = .iface 39 (.int .i64 m)) ∧ (js = ks ∧ ((je = .nilIface ∧ ke = .nilIface) ∨ ∃ u v : Int, je = .iface 39 (.int .i64 u) ∧ ke = .iface 39 (.int .i64 v))) := by
        have hpm := fun t => join_perm (l := l) (m := m) (HN.out.trans HML.out.symm) (fun x => (ordered_perm HO.out).symm.mem_iff) t
        cases hjl : joinM l with
        | ok t =>
          have hjm := (hpm t).1 hjl
          exact ⟨⟨t.toArray⟩, .nilIface, ⟨t.toArray⟩, .nilIface, ⟨rfl, rfl⟩, by rw [hjm]; exact ⟨rfl, rfl⟩, rfl, .inl ⟨rfl, rfl⟩⟩
        | error u =>
          cases hjm : joinM m with
          | ok t => have := (hpm t).2 hjm; rw [hjl] at this; cases this
          | error v => exact ⟨.empty, .iface 39 (.int .i64 u), .empty, .iface 39 (.int .i64 v), ⟨rfl, rfl⟩, ⟨rfl, rfl⟩, rfl, .inr ⟨u, v, rfl, rfl⟩⟩
      have JL := Lib.hid (fun W (hW : CI lay W p cap l) => fjoin_any p cap n l W HN.out.symm hW HF.out js je h1)
      have JM := Lib.hid (fun W (hW : CI lay W q c m) => fjoin_any q c n m W HML.out.symm hW (fun x hx => HF.out x ((ordered_perm HO.out).subset hx)) ks ke h2)
      have hB3 : Below w.heap.size w (w2.drewN r) := below_drewN hB2 r
      have HB4 := Lib.hid (below_drewN (brefl w2) r)
      obtain ⟨rfl, h3⟩ := h3
      have u9 : (js.toList == js.toList) = true := by simp
      clear h1 h2
      rcases h3 with ⟨rfl, rfl⟩ | ⟨x, y, rfl, rfl⟩
      · go_wp2_with fail
        refine (JL.out _ (HCL.out.below HB4.out)).mono ?_; rintro e w5 ⟨rfl, hb5⟩
        have hB5 := bcall hB3 hb5
        go_wp2_with fail
        refine (JM.out _ (HCM.out.below (HB4.out.trans (hb5.mono HB4.out.size)))).mono ?_; rintro e w6 ⟨rfl, hb6⟩
        have hB6 := bcall hB5 hb6
        clear JL JM hb5 hb6
        go_wp2_with fail
        go_big_region_o
        go_wp2_with fail
        go_ret
        exact ⟨rfl, hB6.drew⟩
      · go_wp2_with fail
        refine (JL.out _ (HCL.out.below HB4.out)).mono ?_; rintro e w5 ⟨rfl, hb5⟩
        have hB5 := bcall hB3 hb5
        go_wp2_with fail
        refine (JM.out _ (HCM.out.below (HB4.out.trans (hb5.mono HB4.out.size)))).mono ?_; rintro e w6 ⟨rfl, hb6⟩
        have hB6 := bcall hB5 hb6
        clear JL JM hb5 hb6
        go_wp2_with fail
        go_big_region_o
        go_wp2_with fail
        go_ret
        exact ⟨rfl, hB6.drew⟩
theorem law_any (p : Option Addr) (cap : Nat) (l : List Prt) (w : World) (hc : CI lay w p cap l) (hF : ∀ x ∈ l, Fits x) : Law p cap l w := by
  by_cases h : 40 < l.length
  · exact law_big p cap l w hc h
  · exact law_good p cap l w hc hF (by omega)

theorem reads : Try.f5.params.toList.all (fun t => Try.prog.readableRec t && decide (t < Try.prog.types.size)) = true := by kernel_rfl

theorem contract (H : Type) (enc : TypeId × Value → H) (W : World) (base : Nat) (args : Array Value) (ds gs : List (DataW H)) (before : List MemPlace)
    (hval : ∀ (j : Nat) t v, Try.f5.params[j]? = some t → args[j]? = some v → Value.okWide Try.prog W .any base t v)
    (hW : DataW.Whole enc Try.prog Try.f5.params.toList Rows.fragOrderSpec.vars false W args.toList ds gs before) :
    Calls Try.prog 5 args W fun e W' => ∃ v, e = .returned v ∧ Rows.fragOrderSpec.post enc Try.prog Try.f5 false true false false W args v W' := by
  have hW' := hW
  obtain ⟨p, q, hA0, hV, rfl, hfz, hnd⟩ := hW
  have hA : DataW.TrodAll enc Try.prog W 0 (fun _ => true) true Try.f5.params.toList args.toList ds p := hA0
  have hlt := hA.lt
  rw [Try.params5] at hA hval
  obtain ⟨v0, vs0, d0, ds0, p0, q0, hargs, rfl, rfl, h0, r0⟩ := trodAll_cons hA
  obtain ⟨hvsn, rfl, rfl⟩ := trodAll_nil r0
  simp only [hvsn] at hargs
  obtain rfl : args = #[v0] := by cases args; simp_all
  obtain ⟨rfl, rfl⟩ := trodVars_none hV
  clear hA0
  obtain ⟨p0a, cap0, l0, rfl, i0, f0, e0⟩ := Go.Proofs.Ytaflpdagehocfaa.Part.open_parts (hval 0 24 v0 rfl rfl) h0 (fun x hx => hlt x (by simp [hx]))
  exact law_post 4 laid reads rfl Try.underlying4 rfl hW' ⟨rfl, rfl, rfl⟩ (law_any p0a cap0 l0 W i0 f0)

set_option maxRecDepth 100000 in
theorem lifted (os : Os) (started : os.Started) (H : Type) (enc : TypeId × Value → H) :
    ReturnsInHanded {} Try.checked os 5 .any (Rows.fragOrderSpec.pre6 enc Try.prog Try.f5 Rows.fragOrderRow.domain false) (Rows.fragOrderSpec.post enc Try.prog Try.f5 false true false false) := by
  refine returnsInHanded_of_change (C := Try.checked) own started (by kernel_rfl) Try.func5
    (ChangeSpec.witness6 (enc := enc) (C := Try.checked) false ⟨#[], #[.slice none 0 0], []⟩ 8 (by kernel_rfl) (by kernel_rfl) (by kernel_rfl) (by kernel_rfl)) ?_
  intro W base args ds gs before hval hW _ _
  exact contract H enc W base args ds gs before hval hW

theorem proved : Rows.FragOrderSaid :=
  OpenClaim.holds_of_wide 5 Try.f5 rfl rfl rfl rfl rfl rfl rfl ⟨rfl, rfl, rfl, rfl, rfl⟩ rfl rfl rfl rfl rfl (by kernel_rfl) Try.func5 (by kernel_rfl)
    (of_decide_eq_true (by kernel_rfl)) (by unfold Func.isWrapper; first | (rw [if_pos (by decide +kernel)]; kernel_rfl) | (rw [if_neg (by decide +kernel)]; exact ⟨rfl, rfl⟩))
    (fun os started H enc _ => lifted os started H enc)

end Go.Proofs.Ytaflpdagehocfaa.fragOrderP
