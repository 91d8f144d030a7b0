/- The contracts of what frag.gather returns second, and of frag.Join. No statement is proved here. -/
import Derived.Test.YtcleanjacijfoaaFJoin4
namespace Go.Proofs.Ytcleanjacijfoaa.Part
open Go.ChangeShapes Go.WideShapes Go.ChangeAt Go.RowKit Go.Proofs.Ytcleanjacijfoaa.Kit Go.Proofs.Ytcleanjacijfoaa.App Go.Proofs.Ytcleanjacijfoaa.Cells
set_option linter.unusedVariables false
set_option maxRecDepth 20000

theorem still_of {h : Nat → Nat} {x : Prt} (hr : right x = true) (hc : ¬ clash h x) : Still h x x.bs.length := fun i h1 h2 => by
  have he := right_ends hr
  by_cases h0 : h i = 0
  · exact .inl h0
  · by_cases h3 : h i = x.cell i
    · exact .inr h3
    · exact absurd ⟨i, by omega, ⟨h1, h2⟩, h0, h3⟩ hc
theorem add_any (x : Prt) (w : World) (base eb db g : Nat) (fin : Int) (h : Nat → Nat) (S : St w base eb db g fin h) (hF : Fits x) (hr : right x = true) (hB : ¬ (x.more = false ∧ 0 ≤ fin ∧ fin ≠ ends x)) (R : Bool) (hR : R = true ↔ ¬ clash h x) :
    Calls Try.prog 28 #[val x, .pointer (some ⟨eb, 0, none⟩), .pointer (some ⟨db, 0, none⟩), .pointer (some ⟨g, 0, none⟩)] w fun e w' => e = .returned (if R = true then .nilIface else .iface 63 (.int .i64 6)) ∧ Below base w w' ∧ (R = true → St w' base eb db g (if x.more = true then fin else ends x) (put h x)) := by
  have hR2 : R = true ↔ Still h x x.bs.length := hR.trans ⟨fun hc => still_of hr hc, fun hs => still_all hs⟩
  obtain ⟨a, mo, s⟩ := x
  have hr1 := (right_iff _).1 hr
  have hr2 : 0 ≤ a ∧ a ≤ 200 ∧ (s.size : Int) ≤ 200 - a := hr1
  obtain ⟨r1, r2, r3⟩ := hr2
  obtain ⟨an, rfl⟩ := Int.eq_ofNat_of_zero_le r1
  have he : ends ⟨(an : Int), mo, s⟩ = (an : Int) + (s.size : Int) := rfl
  have hR3 : R = true ↔ Still h ⟨(an : Int), mo, s⟩ s.size := hR2
  rw [he] at hB ⊢
  cases mo with
  | true =>
    rw [if_pos rfl]
    exact add_more s an w base eb db g fin h S hF (by omega) R hR3
  | false =>
    have hm : (if (⟨(an : Int), false, s⟩ : Prt).more = true then fin else (an : Int) + (s.size : Int)) = (an : Int) + (s.size : Int) := if_neg (by simp)
    rw [hm]
    by_cases h0 : 0 ≤ fin
    · have h1 : fin = (an : Int) + (s.size : Int) := by
        by_cases h2 : fin = (an : Int) + (s.size : Int)
        · exact h2
        · exact absurd ⟨rfl, h0, h2⟩ hB
      exact add_same s an w base eb db g fin h S hF (by omega) h0 h1 R hR3
    · exact add_first s an w base eb db g fin h S hF (by omega) h0 R hR3
theorem add_clash (x : Prt) (w : World) (base eb db g : Nat) (fin : Int) (h : Nat → Nat) (S : St w base eb db g fin h) (hF : Fits x) (hr : right x = true) (hB : x.more = false ∧ 0 ≤ fin ∧ fin ≠ ends x) :
    Calls Try.prog 28 #[val x, .pointer (some ⟨eb, 0, none⟩), .pointer (some ⟨db, 0, none⟩), .pointer (some ⟨g, 0, none⟩)] w fun e w' => e = .returned (.iface 63 (.int .i64 6)) ∧ Below w.heap.size w w' := by
  obtain ⟨a, mo, s⟩ := x
  have hr1 := (right_iff _).1 hr
  have hr2 : 0 ≤ a ∧ a ≤ 200 ∧ (s.size : Int) ≤ 200 - a := hr1
  obtain ⟨r1, r2, r3⟩ := hr2
  obtain ⟨an, rfl⟩ := Int.eq_ofNat_of_zero_le r1
  obtain ⟨h1, h2, h3⟩ := hB
  have h1' : mo = false := h1
  subst h1'
  exact add_other s an w base eb db g fin h S hF (by omega) h2 h3

abbrev TXT (eb g db : Nat) : Array Value := #[.pointer (some ⟨eb, 0, none⟩), .pointer (some ⟨g, 0, none⟩), .pointer (some ⟨db, 0, none⟩)]
theorem text_none (w : World) (base eb db g : Nat) (fin : Int) (h : Nat → Nat) (S : St w base eb db g fin h) (h0 : fin < 0) :
    Calls Try.prog 31 #[.pointer (some ⟨eb, 0, none⟩), .pointer (some ⟨g, 0, none⟩), .pointer (some ⟨db, 0, none⟩)] w fun e w' => e = .returned (.tuple #[.string .empty, .iface 63 (.int .i64 5)]) ∧ Below w.heap.size w w' := by
  have e0 := S.e
  rw [decide_eq_false (by omega)] at e0
  clear S
  go_enter Try.func31, Try.ntmps31
  go_wp2_with fail
  go_ret2
  exact ⟨rfl, brefl w⟩
set_option maxHeartbeats 1000000 in
theorem text_hole (w : World) (base eb db g n : Nat) (h : Nat → Nat) (S : St w base eb db g (n : Int) h) (hn : n ≤ 200) (hh : ∃ i, i < n ∧ h i = 0) :
    Calls Try.prog 31 #[.pointer (some ⟨eb, 0, none⟩), .pointer (some ⟨g, 0, none⟩), .pointer (some ⟨db, 0, none⟩)] w fun e w' => e = .returned (.tuple #[.string .empty, .iface 63 (.int .i64 5)]) ∧ Below w.heap.size w w' := by
  have e0 := S.e
  rw [decide_eq_true (by omega)] at e0
  obtain ⟨z, d0, hz⟩ := S.d
  have hz' := hz (by omega)
  subst hz'
  obtain ⟨p, c, hsl, hp⟩ := slice_h g n hn
  have V := Lib.hid (values_none g n c base p w h S.H hn hp hh)
  clear S hz hp hh
  go_enter Try.func31, Try.ntmps31
  go_wp2_with fail
  refine V.out.mono ?_; rintro e w1 ⟨rfl, hb1⟩
  clear V
  go_wp2_with fail
  go_ret2
  exact ⟨rfl, hb1⟩
set_option maxHeartbeats 1000000 in
theorem text_rest (w : World) (base eb db g n : Nat) (h : Nat → Nat) (S : St w base eb db g (n : Int) h) (hn : n ≤ 200) (hk : ∀ i, i < n → h i ≠ 0) (R : Bool) (hR : R = true ↔ ∃ i, i < 200 - n ∧ h (n + i) ≠ 0) (rs : ByteArray) (re : Value) (hv : if R = true then rs = .empty ∧ re = .iface 63 (.int .i64 6) else rs = ⟨(bytesOf h n).toArray⟩ ∧ re = .nilIface) :
    Calls Try.prog 31 #[.pointer (some ⟨eb, 0, none⟩), .pointer (some ⟨g, 0, none⟩), .pointer (some ⟨db, 0, none⟩)] w fun e w' => e = .returned (.tuple #[.string rs, re]) ∧ Below w.heap.size w w' := by
  have e0 := S.e
  rw [decide_eq_true (by omega)] at e0
  obtain ⟨z, d0, hz⟩ := S.d
  have hz' := hz (by omega)
  subst hz'
  obtain ⟨p, c, hsl, hp⟩ := slice_h g n hn
  obtain ⟨p2, c2, hsl2, hp2⟩ := slice_l g n hn
  have V := Lib.hid (values_some g n c base p w h S.H hn hp hk)
  have K := Lib.hid (fun W (hb : Below w.heap.size w W) => contains_any g n (200 - n) c2 base p2 W h (S.H.below hb) (by omega) hp2 R hR)
  have b1 := S.b1
  have b2 := S.b2
  have hlen : (bytesOf h n).length = n := by unfold bytesOf; simp
  have HL := Lib.hid hlen
  obtain ⟨T, hT⟩ : ∃ T : ByteArray, (⟨(bytesOf h n).toArray⟩ : ByteArray) = T := ⟨_, rfl⟩
  rw [hT] at hv
  have HT := Lib.hid hT
  have HV := Lib.hid hv
  clear hT
  clear S hz hp hp2 hR hk hlen hv
  go_enter Try.func31, Try.ntmps31
  go_wp2_with fail
  refine V.out.mono ?_; rintro e w1 ⟨q, cp, rfl, hCI, hb1⟩
  have d1 := (hb1.cell (p := ⟨db, 0, none⟩) b2.2).trans d0
  clear V d0 e0
  go_wp2_with fail
  refine (K.out _ hb1).mono ?_; rintro e w2 ⟨rfl, hb2⟩
  have hB := bcall hb1 hb2
  have hC2 := hCI.below hb2
  have hct : (convert 67 9 (.slice q n cp)).run Try.prog w2 = .ok (.string T) w2 := by
    have := to_text hC2
    rw [HL.out, HT.out] at this; exact this
  have hv := HV.out
  clear K hCI hb1 hb2 hC2 d1
  cases R with
  | true =>
    rw [if_pos rfl] at hv
    obtain ⟨rfl, rfl⟩ := hv
    go_wp2_with fail
    go_ret2
    exact ⟨rfl, hB⟩
  | false =>
    rw [if_neg (by simp)] at hv
    obtain ⟨rfl, rfl⟩ := hv
    go_wp2_with fail
    go_ret2
    exact ⟨rfl, hB⟩

set_option maxHeartbeats 2000000 in
theorem fjoin_any (p : Option Addr) (cap n : Nat) (l : List Prt) (w : World) (hn : n = l.length) (hc : CI lay w p cap l) (hF : ∀ x ∈ l, Fits x) (rs : ByteArray) (re : Value) (hR : match joinM l with | .ok t => rs = ⟨t.toArray⟩ ∧ re = .nilIface | .error m => rs = .empty ∧ re = .iface 63 (.int .i64 m)) :
    Calls Try.prog 19 #[.slice p n cap] w fun e w' => e = .returned (.tuple #[.string rs, re]) ∧ Below w.heap.size w w' := by
  subst hn
  have hlen := hc.len_le
  by_cases h4 : 40 < l.length
  · have t0 : decide ((l.length : Int) > 40) = true := decide_eq_true (by omega)
    have e4 : joinM l = .error 4 := by unfold joinM; rw [if_pos h4]
    rw [e4] at hR
    obtain ⟨rfl, rfl⟩ := hR
    go_enter Try.func19, Try.ntmps19
    go_wp2_with fail
    go_ret2
    exact ⟨rfl, brefl w⟩
  · have t0 : decide ((l.length : Int) > 40) = false := decide_eq_false (by omega)
    have HR := Lib.hid hR
    have GA := Lib.hid gather_any
    clear hR
    go_enter Try.func19, Try.ntmps19
    go_wp2_with fail
    refine (GA.out _).mono ?_; rintro e w1 ⟨g, eb, db, rfl, hS, hB1⟩
    clear GA
    go_wp2_with fail
    go_loopw [19] (fun iv wr => ∃ (k : Nat) (fin : Int) (h : Nat → Nat), k ≤ l.length ∧ iv = .int .i64 k ∧ -1 ≤ fin ∧ fin ≤ 200 ∧ St wr w.heap.size eb db g fin h ∧ Below w.heap.size w wr ∧ Hid (foldJ fin h (l.drop k) = foldJ (-1) (fun _ => 0) l)) (fun i _ => l.length - (intOf i).toNat)
    case atStart => exact ⟨0, -1, fun _ => 0, Nat.zero_le _, rfl, by omega, by omega, hS, hB1, rfl⟩
    case round =>
      clear hS hB1
      obtain ⟨k, fin, h, hk, rfl, hf1, hf2, hS, hB, HE⟩ := hrel
      by_cases hlt : k < l.length
      · obtain ⟨q1, off1, rfl, hq1, hc1⟩ := hc.2.2 (by omega)
        obtain ⟨⟨a, b, s⟩, hx⟩ : ∃ x, l[k]? = some x := ⟨_, List.getElem?_eq_getElem hlt⟩
        have hFx := hF _ (List.mem_of_getElem? hx)
        have hx0 : wr.cell? ⟨q1, off1 + k * 3, none⟩ = some (.int .i64 a) := (hB.cell (p := ⟨q1, off1 + k * 3, none⟩) hq1).trans (hc1 k _ hx 0 _ rfl)
        have hx1 : wr.cell? ⟨q1, off1 + k * 3 + 1, none⟩ = some (.bool b) := (hB.cell (p := ⟨q1, off1 + k * 3 + 1, none⟩) hq1).trans (hc1 k _ hx 1 _ rfl)
        have hx2 : wr.cell? ⟨q1, off1 + k * 3 + 2, none⟩ = some (.string s) := (hB.cell (p := ⟨q1, off1 + k * 3 + 2, none⟩) hq1).trans (hc1 k _ hx 2 _ rfl)
        have hd : l.drop k = ⟨a, b, s⟩ :: l.drop (k + 1) := by rw [List.drop_eq_getElem_cons hlt]; rw [List.getElem?_eq_getElem hlt] at hx; rw [Option.some.inj hx]
        have HE2 := Lib.hid (HE.out.symm.trans (by rw [hd]))
        have hSa := Lib.hid (hS.alloc (.cells #[.int .i64 a, .bool b, .string s] 51))
        have hBa : Below w.heap.size w (wr.alloc (.cells #[.int .i64 a, .bool b, .string s] 51)) := balloc hB _
        have hBs := hBa.size
        clear hc1 hx hd HE
        by_cases hr : right ⟨a, b, s⟩ = true
        · have he := right_ends hr
          by_cases hBc : b = false ∧ 0 ≤ fin ∧ fin ≠ ends ⟨a, b, s⟩
          · have AD := Lib.hid (add_clash ⟨a, b, s⟩ _ w.heap.size eb db g fin h hSa.out hFx hr hBc)
            unfold val at AD
            simp only at AD
            have hr6 : foldJ (-1) (fun _ => 0) l = .error 6 := HE2.out.trans (foldJ_end hr hBc.1 hBc.2.1 hBc.2.2)
            have hj6 := HR.out
            rw [join_err h4 hr6] at hj6
            obtain ⟨rfl, rfl⟩ := hj6
            clear hBc hr6
            go_wp2_with fail
            refine AD.out.mono ?_; rintro e w2 ⟨rfl, hb2⟩
            have hB2 : Below w.heap.size w w2 := hBa.trans (hb2.mono hBs)
            clear AD hb2
            go_wp2_with fail
            go_ret2
            exact ⟨rfl, hB2⟩
          · by_cases hcl : clash h ⟨a, b, s⟩
            · have AD := Lib.hid (add_any ⟨a, b, s⟩ _ w.heap.size eb db g fin h hSa.out hFx hr hBc false ⟨fun e => (by cases e), fun e => absurd hcl e⟩)
              unfold val at AD
              simp only at AD
              have hr6 : foldJ (-1) (fun _ => 0) l = .error 6 := HE2.out.trans (foldJ_clash hr hBc hcl)
              have hj6 := HR.out
              rw [join_err h4 hr6] at hj6
              obtain ⟨rfl, rfl⟩ := hj6
              clear hBc hr6 hcl
              go_wp2_with fail
              refine AD.out.mono ?_; rintro e w2 ⟨rfl, hb2, _⟩
              have hB2 : Below w.heap.size w w2 := hBa.trans hb2
              clear AD hb2
              go_wp2_with fail
              go_ret2
              exact ⟨rfl, hB2⟩
            · have AD := Lib.hid (add_any ⟨a, b, s⟩ _ w.heap.size eb db g fin h hSa.out hFx hr hBc true ⟨fun _ => hcl, fun _ => rfl⟩)
              unfold val at AD
              simp only at AD
              have HON := Lib.hid (HE2.out.trans (foldJ_on hr hBc hcl))
              clear hBc hcl
              go_wp2_with fail
              refine AD.out.mono ?_; rintro e w2 ⟨rfl, hb2, hS2⟩
              have hB2 : Below w.heap.size w w2 := hBa.trans hb2
              have HS2 := Lib.hid (hS2 trivial)
              clear AD hb2 hS2
              go_wp2_with fail
              go_roundw
              case rel =>
                refine ⟨k + 1, if b = true then fin else ends ⟨a, b, s⟩, put h ⟨a, b, s⟩, by omega, by first | rfl | go_num, ?_, ?_, HS2.out, hB2, HON.out.symm⟩
                · split <;> omega
                · split <;> omega
              case measure => simp [intOf]; omega
        · have hrf : right ⟨a, b, s⟩ = false := by simpa using hr
          have AD := Lib.hid (fun W a1 a2 a3 => add_bad ⟨a, b, s⟩ W hFx hrf a1 a2 a3)
          unfold val at AD
          simp only at AD
          have hr1 : foldJ (-1) (fun _ => 0) l = .error 1 := HE2.out.trans (foldJ_lo hrf)
          have hj1 := HR.out
          rw [join_err h4 hr1] at hj1
          obtain ⟨rfl, rfl⟩ := hj1
          clear hr1
          go_wp2_with fail
          refine (AD.out _ _ _ _).mono ?_; rintro e w2 ⟨rfl, hb2⟩
          have hB2 : Below w.heap.size w w2 := hBa.trans (hb2.mono hBs)
          clear AD hb2
          go_wp2_with fail
          go_ret2
          exact ⟨rfl, hB2⟩
      · obtain rfl : k = l.length := by omega
        have HE3 : Hid (foldJ (-1) (fun _ => 0) l = .ok (fin, h)) := HE.out.symm.trans (by rw [List.drop_length]; rfl)
        have hj := HR.out
        by_cases hf0 : fin < 0
        · rw [join_none h4 HE3.out hf0] at hj
          obtain ⟨rfl, rfl⟩ := hj
          have TX := Lib.hid (text_none wr _ eb db g fin h hS hf0)
          clear hS hf0 hf1
          go_wp2_with fail
          refine TX.out.mono ?_; rintro e w2 ⟨rfl, hb2⟩
          have hB2 := bcall hB hb2
          go_wp2_with fail
          go_ret2
          exact ⟨rfl, hB2⟩
        · obtain ⟨fn, rfl⟩ : ∃ fn : Nat, fin = (fn : Int) := ⟨fin.toNat, by omega⟩
          by_cases hh : ∃ i, i < fn ∧ h i = 0
          · have hj2 := hj
            obtain ⟨i, hi, h0⟩ := hh
            rw [join_hole h4 HE3.out i hi (by omega) h0] at hj2
            obtain ⟨rfl, rfl⟩ := hj2
            have TX := Lib.hid (text_hole wr _ eb db g fn h hS (by omega) ⟨i, hi, h0⟩)
            clear hS hf0 hf1 hj h0
            go_wp2_with fail
            refine TX.out.mono ?_; rintro e w2 ⟨rfl, hb2⟩
            have hB2 := bcall hB hb2
            go_wp2_with fail
            go_ret2
            exact ⟨rfl, hB2⟩
          · have hk : ∀ i, i < fn → h i ≠ 0 := fun i hi h0 => hh ⟨i, hi, h0⟩
            obtain ⟨Q, hQ⟩ : ∃ Q : Bool, (Q = true ↔ ∃ i, i < 200 - fn ∧ h (fn + i) ≠ 0) := by
              by_cases hq : ∃ i, i < 200 - fn ∧ h (fn + i) ≠ 0
              · exact ⟨true, fun _ => hq, fun _ => rfl⟩
              · exact ⟨false, fun e => (by cases e), fun e => absurd e hq⟩
            have hv : if Q = true then rs = .empty ∧ re = .iface 63 (.int .i64 6) else rs = ⟨(bytesOf h fn).toArray⟩ ∧ re = .nilIface := by
              by_cases hq : Q = true
              · rw [if_pos hq]
                obtain ⟨i, hi, h0⟩ := hQ.1 hq
                rw [join_over h4 HE3.out hk (fn + i) (by omega) (by omega) h0] at hj
                exact hj
              · rw [if_neg hq]
                rw [join_yes h4 HE3.out hk (fun i h1 h2 => by
                  by_cases h0 : h i = 0
                  · exact h0
                  · exact absurd (hQ.2 ⟨i - fn, by omega, by rw [show fn + (i - fn) = i by omega]; exact h0⟩) hq)] at hj
                exact hj
            have TX := Lib.hid (text_rest wr _ eb db g fn h hS (by omega) hk Q hQ rs re hv)
            clear hS hf0 hf1 hj hh hk hQ hv
            go_wp2_with fail
            refine TX.out.mono ?_; rintro e w2 ⟨rfl, hb2⟩
            have hB2 := bcall hB hb2
            go_wp2_with fail
            go_ret2
            exact ⟨rfl, hB2⟩
end Go.Proofs.Ytcleanjacijfoaa.Part
