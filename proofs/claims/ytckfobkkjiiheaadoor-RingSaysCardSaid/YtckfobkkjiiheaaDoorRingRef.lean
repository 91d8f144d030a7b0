/- A token ring, the document's answers: Waits, Ring, Gap. No statement is proved here. -/
import Derived.Test.YtckfobkkjiiheaaDoorRingCode
import Derived.Test.YtckfobkkjiiheaaDoorAll
import Derived.Test.YtckfobkkjiiheaaDoorErr
import Derived.Test.YtckfobkkjiiheaaDoorOwnI
import Derived.BigQuiet
import Derived.OwnWalk
namespace Go.Proofs.YtckfobkkjiiheaaDoor.Ring
open Go.ChangeShapes Go.WideShapes Go.ChangeAt Go.RowKit Go.Proofs.YtckfobkkjiiheaaDoor.Kit Go.Proofs.YtckfobkkjiiheaaDoor.App Go.Proofs.YtckfobkkjiiheaaDoor.Err Go.Proofs.YtckfobkkjiiheaaDoor.RingMath
set_option linter.unusedVariables false
set_option maxRecDepth 20000
set_option maxHeartbeats 4000000

theorem rwaits_any (p : Option Addr) (cap n : Nat) (l : List Int) (w : World) (hn : n = l.length) (hi : Ints w p cap l) (c : Int) (hc : code l = c) :
    Calls Tryd.prog 4 #[.slice p n cap] w fun e w' => e = .returned (.int .i64 c) ∧ Below w.heap.size w w' := by
  have hlen := hi.len_le
  rw [← hn] at hlen
  have AL := Lib.hid (all_any 0 20 p cap n l w hn hi (App.within 0 20 l) rfl)
  have hfit : App.within 0 20 l = l.all fit := by
    rw [Bool.eq_iff_iff, App.within_iff, List.all_eq_true]
    exact ⟨fun h x hx => fit_iff.2 (h x hx), fun h x hx => fit_iff.1 (h x hx)⟩
  rw [hfit] at AL
  unfold code at hc
  rw [← hn] at hc
  clear hn hi hfit
  by_cases h0 : n = 0
  · rw [if_pos h0] at hc
    subst h0; subst hc
    clear AL
    go_enter Tryd.func4, Tryd.ntmps4
    go_wp2_with fail
    go_ret
    exact ⟨rfl, brefl _⟩
  · rw [if_neg h0] at hc
    have t0 : ((n : Int) == 0) = false := beq_eq_false_iff_ne.2 (by omega)
    have t0n : (n == 0) = false := beq_eq_false_iff_ne.2 h0
    by_cases h8 : 8 < n
    · rw [if_pos h8] at hc
      subst hc
      have t1 : decide ((n : Int) > 8) = true := decide_eq_true (by omega)
      have t1n : decide (8 < n) = true := decide_eq_true h8
      clear AL
      go_enter Tryd.func4, Tryd.ntmps4
      go_wp2_with fail
      go_ret
      exact ⟨rfl, brefl _⟩
    · rw [if_neg h8] at hc
      have t1 : decide ((n : Int) > 8) = false := decide_eq_false (by omega)
      have t1n : decide (8 < n) = false := decide_eq_false h8
      cases hR : l.all fit with
      | true =>
        rw [hR] at AL hc
        rw [if_pos rfl] at hc
        subst hc
        clear hR
        go_enter Tryd.func4, Tryd.ntmps4
        go_wp2_with fail
        refine AL.out.mono ?_; rintro e w1 ⟨rfl, hw1⟩
        go_wp2_with fail
        go_ret
        exact ⟨rfl, by rw [← hw1]; exact brefl _⟩
      | false =>
        rw [hR] at AL hc
        rw [if_neg (by decide)] at hc
        subst hc
        clear hR
        go_enter Tryd.func4, Tryd.ntmps4
        go_wp2_with fail
        refine AL.out.mono ?_; rintro e w1 ⟨rfl, hw1⟩
        go_wp2_with fail
        go_ret
        exact ⟨rfl, by rw [← hw1]; exact brefl _⟩
/-- What is sent in turn t up to the frame x of station i. -/
def upto (f : Nat → Nat) (h t i x : Nat) : List Nat := RingMath.ahead f h t i ++ List.replicate (x - t * h) i
theorem upto_more (f : Nat → Nat) (h t i x : Nat) (hx : t * h ≤ x) : upto f h t i (x + 1) = upto f h t i x ++ [i] := by
  unfold upto
  rw [show x + 1 - t * h = (x - t * h) + 1 by omega, List.replicate_succ', List.append_assoc]
theorem upto_end (f : Nat → Nat) (h t i x : Nat) (hx : x = max (t * h) (min (f i) (t * h + h))) : upto f h t i x = RingMath.ahead f h t (i + 1) := by
  unfold upto
  rw [RingMath.ahead]
  unfold RingMath.part
  congr 2
  omega
theorem order_few {f : Nat → Nat} {h m : Nat} (hh : 1 ≤ h) (h20 : ∀ k, k < m → f k ≤ 20) (hm : m ≤ 8) (t : Nat) : (order f h m t).length ≤ 160 := by
  rw [len_order]
  have := sm_le (fun j => min (f j) (t * h)) 20 m fun k hk => by have := h20 k hk; show min _ _ ≤ 20; omega
  omega
theorem ahead_few {f : Nat → Nat} {h m : Nat} (h20 : ∀ k, k < m → f k ≤ 20) (hm : m ≤ 8) (t i : Nat) (hi : i ≤ m) : (RingMath.ahead f h t i).length ≤ 160 := by
  rw [len_ahead]
  have := sm_le (fun j => min (f j) (t * h + h) - min (f j) (t * h)) 20 i fun k hk => by have := h20 k (by omega); show min _ _ - min _ _ ≤ 20; omega
  omega
theorem rring_any (p : Option Addr) (cap n : Nat) (l : List Int) (h : Nat) (w : World) (hn : n = l.length) (hi : Ints w p cap l) (g : Ring.Good l h) :
    Calls Tryd.prog 8 #[.slice p n cap, .int .i64 (h : Int)] w fun e w' => ∃ v, e = .returned v ∧ OwnI w' w.heap.size v (nat (ord l h)) ∧ Below w.heap.size w w' := by
  have hn8 : n ≤ 8 := by rw [hn]; exact g.up
  have hn1 : 1 ≤ n := by rw [hn]; exact g.lo
  have hh1 := g.h1
  have hh20 := g.h20
  have hlen := hi.len_le
  rw [← hn] at hlen
  obtain ⟨bw, ow, hpw, hbw, hcw⟩ := hi.2.2.2 (by omega)
  subst hpw
  have CW := Lib.hid (fun W (hW : Below w.heap.size w W) j (hj : j < n) => (show W.cell? ⟨bw, ow + j, none⟩ = some (.int .i64 ((fn l j : Nat) : Int)) ∧ fn l j ≤ 20 from by
    have h1 := g.fn (k := j) (by omega)
    refine ⟨?_, h1.2⟩
    rw [hW.cell (p := ⟨bw, ow + j, none⟩) hbw, hcw j (by omega), h1.1]))
  have OF := Lib.hid (fun t => order_few (f := fn l) (m := n) hh1 (fun k hk => (g.fn (by omega)).2) hn8 t)
  have AF := Lib.hid (fun t i (hi : i ≤ n) => ahead_few (f := fn l) (h := h) (m := n) (fun k hk => (g.fn (by omega)).2) hn8 t i hi)
  have HE := Lib.hid (show ord l h = order (fn l) h n 20 from by rw [hn]; rfl)
  clear hn hi g hbw hcw
  go_enter Tryd.func8, Tryd.ntmps8
  go_wp2_with fail
  go_loopw [5, 6] (fun ov tv wr => ∃ t : Nat, t ≤ 20 ∧ tv = .int .i64 t ∧ Hid (OwnI wr w.heap.size ov (nat (order (fn l) h n t))) ∧ Hid (Below w.heap.size w wr)) (fun _ t _ => 20 - (intOf t).toNat)
  case atStart => exact ⟨0, Nat.zero_le _, rfl, Lib.hid (OwnI.nil _ _), Lib.hid (brefl _)⟩
  case round =>
    obtain ⟨t, ht, rfl, HO, HR⟩ := hrel
    by_cases hlt : t < 20
    · have v0 : decide ((t : Int) < 20) = true := decide_eq_true (by omega)
      have v0n : decide (t < 20) = true := decide_eq_true hlt
      have hth : t * h ≤ 20 * 20 := Nat.mul_le_mul ht hh20
      obtain ⟨q, hq⟩ : ∃ q, t * h = q := ⟨_, rfl⟩
      have HQ := Lib.hid hq
      rw [hq] at hth
      have hmul : (t : Int) * (h : Int) = (q : Int) := by rw [← hq]; exact (Int.natCast_mul t h).symm
      have hw1 : IntKind.i64.wrap ((t : Int) * (h : Int)) = (q : Int) := by rw [hmul]; exact wrap_in (by omega)
      have hw2 : IntKind.i64.wrap ((q : Int) + (h : Int)) = (q : Int) + (h : Int) := wrap_in (by omega)
      clear hq hmul
      go_wp2_with fail
      go_loopw [5, 7] (fun ov iv wr => ∃ i : Nat, i ≤ n ∧ iv = .int .i64 i ∧ Hid (OwnI wr w.heap.size ov (nat (order (fn l) h n t ++ RingMath.ahead (fn l) h t i))) ∧ Hid (Below w.heap.size w wr)) (fun _ i _ => n - (intOf i).toNat)
      case atStart => exact ⟨0, Nat.zero_le _, rfl, Lib.hid (by rw [show RingMath.ahead (fn l) h t 0 = [] from rfl, List.append_nil]; exact HO.out), HR⟩
      case round =>
        obtain ⟨i, hin, rfl, HOI, HRI⟩ := hrel
        clear HO HR
        by_cases hlti : i < n
        · have v1 : decide ((i : Int) < (n : Int)) = true := decide_eq_true (by omega)
          have v1' : (i : Int) < (n : Int) := by omega
          have CI := Lib.hid (fun W hW => (CW.out W hW i hlti).1)
          have h20 := (CW.out wr HRI.out i hlti).2
          have HUE := Lib.hid (fun x hx => upto_end (fn l) h t i x hx)
          obtain ⟨y, hy⟩ : ∃ y, fn l i = y := ⟨_, rfl⟩
          rw [hy] at CI h20 HUE
          have HLE := Lib.hid (show (order (fn l) h n t ++ RingMath.ahead (fn l) h t i).length ≤ 320 from by
            rw [List.length_append]; have h1 := OF.out t; have h2 := AF.out t i hin; omega)
          clear hy
          go_wp2_with fail
          go_loopw [5, 8] (fun ov kv wr => ∃ x : Nat, q ≤ x ∧ (x ≤ q ∨ x ≤ min y (q + h)) ∧ kv = .int .i64 x ∧ Hid (OwnI wr w.heap.size ov (nat (order (fn l) h n t ++ upto (fn l) h t i x))) ∧ Hid (Below w.heap.size w wr)) (fun _ k _ => q + h - (intOf k).toNat)
          case atStart => exact ⟨q, Nat.le_refl _, .inl (Nat.le_refl _), rfl, Lib.hid (by
            have e : upto (fn l) h t i q = RingMath.ahead (fn l) h t i := by unfold upto; rw [HQ.out, Nat.sub_self, List.replicate_zero, List.append_nil]
            rw [e]; exact HOI.out), HRI⟩
          case round =>
            obtain ⟨x, hqx, hxy, rfl, HOX, HRX⟩ := hrel
            clear HOI HRI
            have cx := CI.out wr HRX.out
            by_cases hx1 : x < q + h
            · have v2 : decide ((x : Int) < (q : Int) + (h : Int)) = true := decide_eq_true (by omega)
              have v2n : decide (x < q + h) = true := decide_eq_true hx1
              by_cases hx2 : x < y
              · have v3 : decide ((x : Int) < (y : Int)) = true := decide_eq_true (by omega)
                have v3n : decide (x < y) = true := decide_eq_true hx2
                have HM := Lib.hid (show nat (order (fn l) h n t ++ upto (fn l) h t i (x + 1)) = nat (order (fn l) h n t ++ upto (fn l) h t i x) ++ [(i : Int)] from by
                  rw [upto_more _ _ _ _ _ (by rw [HQ.out]; exact hqx), ← List.append_assoc, nat_app]; rfl)
                have HLX := Lib.hid (show (nat (order (fn l) h n t ++ upto (fn l) h t i x)).length ≤ 400 from by
                  rw [nat_len]
                  unfold upto
                  rw [← List.append_assoc, List.length_append, List.length_replicate]
                  have := HLE.out
                  omega)
                obtain ⟨pk, qk, rfl, _⟩ := HOX.out.form
                obtain ⟨L0, hL0⟩ : ∃ L0, nat (order (fn l) h n t ++ upto (fn l) h t i x) = L0 := ⟨_, rfl⟩
                rw [hL0] at HM HLX HOX
                rw [hL0]
                obtain ⟨mk, hmk⟩ : ∃ mk, L0.length = mk := ⟨_, rfl⟩
                rw [hmk] at HOX HLX ⊢
                have HMK := Lib.hid hmk
                have hm400 := HLX.out
                have HW1 := Lib.hid (show (Lit.int .i64 (i : Int)).wf = true by simp [Lit.wf, IntKind.min, IntKind.max, IntKind.signed, IntKind.bits]; omega)
                clear hmk hL0
                go_wp2_with (at_builtin
                             refine wp_app rfl (.tmp 39) (.tmp 41) rfl w.heap.size (.slice pk mk qk) L0 (some ⟨wr.heap.size, 0, none⟩) 1 1 [(i : Int)] rfl (HOX.out.alloc _) rfl rfl (Ints.one wr _ HW1.out) (by rw [HMK.out]; simp; omega) (by have := HRX.out.size; simp; omega) ?_
                             intro v9 w9 ho9 hg9 hat9
                             have HO9 := Lib.hid ho9
                             have HB9 := Lib.hid (show Below w.heap.size w w9 from (HRX.out.trans ((balloc (brefl wr) (.cells #[.int .i64 (i : Int)] 3)).mono HRX.out.size)).grown hg9 (by have := HRX.out.size; simp; omega) (fun r e => (HOX.out.lt r e).1))
                             clear ho9 hg9 hat9)
                go_roundw
                case rel => exact ⟨x + 1, by omega, .inr (by omega), by first | rfl | go_num, Lib.hid (by rw [HM.out]; exact HO9.out), HB9⟩
                case measure => simp [intOf]; omega
              · have v3 : decide ((x : Int) < (y : Int)) = false := decide_eq_false (by omega)
                have v3n : decide (x < y) = false := decide_eq_false hx2
                have HO9 := Lib.hid (show OwnI wr w.heap.size _ (nat (order (fn l) h n t ++ RingMath.ahead (fn l) h t (i + 1))) from by
                  rw [← HUE.out x (by rw [HQ.out]; omega)]; exact HOX.out)
                go_wp2_with fail
                go_roundw
                case rel => exact ⟨i + 1, by omega, by first | rfl | go_num, HO9, HRX⟩
                case measure => simp [intOf]; omega
            · have v2 : decide ((x : Int) < (q : Int) + (h : Int)) = false := decide_eq_false (by omega)
              have v2n : decide (x < q + h) = false := decide_eq_false hx1
              have HO9 := Lib.hid (show OwnI wr w.heap.size _ (nat (order (fn l) h n t ++ RingMath.ahead (fn l) h t (i + 1))) from by
                rw [← HUE.out x (by rw [HQ.out]; omega)]; exact HOX.out)
              go_wp2_with fail
              go_roundw
              case rel => exact ⟨i + 1, by omega, by first | rfl | go_num, HO9, HRX⟩
              case measure => simp [intOf]; omega
        · obtain rfl : i = n := by omega
          have v1 : decide ((i : Int) < (i : Int)) = false := decide_eq_false (by omega)
          go_wp2_with fail
          go_roundw
          case rel => exact ⟨t + 1, by omega, by first | rfl | go_num, HOI, HRI⟩
          case measure => simp [intOf]; omega
    · obtain rfl : t = 20 := by omega
      have v0 : decide (((20 : Nat) : Int) < 20) = false := by decide
      go_wp2_with fail
      go_ret
      exact ⟨_, rfl, by rw [HE.out]; exact HO.out, HR.out⟩
theorem rgap_any (p : Option Addr) (cap n : Nat) (L : List Nat) (w : World) (hn : n = L.length) (hi : Ints w p cap (nat L)) (h160 : L.length ≤ 1000) :
    Calls Tryd.prog 9 #[.slice p n cap] w fun e w' => e = .returned (.int .i64 ((gap L : Nat) : Int)) ∧ Below w.heap.size w w' := by
  have hlen := hi.len_le
  rw [nat_len, ← hn] at hlen
  have HI := Lib.hid hi
  have HN := Lib.hid hn
  have hn1000 : n ≤ 1000 := by omega
  have hcap : n ≤ cap := by have := hi.1; rwa [nat_len, ← hn] at this
  have CE := Lib.hid (fun (h0 : 0 < n) => (show ∃ b o, p = some ⟨b, o, none⟩ ∧ ∀ W, Below w.heap.size w W → ∀ j, j < n → ∃ v : Nat, L[j]? = some v ∧ W.cell? ⟨b, o + j, none⟩ = some (.int .i64 (v : Int)) from by
    obtain ⟨b, o, e, hb, hc⟩ := hi.2.2.2 (by rw [nat_len]; omega)
    refine ⟨b, o, e, fun W hW j hj => ?_⟩
    have hv : L[j]? = some (L[j]'(by omega)) := List.getElem?_eq_getElem (by omega)
    refine ⟨_, hv, ?_⟩
    rw [hW.cell (p := ⟨b, o + j, none⟩) hb, hc j (by rw [nat_len]; omega), nat_get hv]))
  obtain ⟨gl, hgl⟩ : ∃ gl, gap L = gl := ⟨_, rfl⟩
  rw [hgl]
  have HGL := Lib.hid hgl
  clear hn hi h160 hgl
  go_enter Tryd.func9, Tryd.ntmps9
  go_wp2_with fail
  go_loopw [3, 4] (fun gv iv wr => ∃ (i g : Nat), i ≤ n ∧ iv = .int .i64 i ∧ gv = .int .i64 (g : Int) ∧ g ≤ 1000 ∧ Hid (GapTo L i g) ∧ Hid (Below w.heap.size w wr)) (fun _ i _ => n - (intOf i).toNat)
  case atStart => exact ⟨0, 0, Nat.zero_le _, rfl, rfl, by omega, Lib.hid (gapTo_zero L), Lib.hid (brefl _)⟩
  case round =>
    obtain ⟨i, g, hin, rfl, rfl, hg, HGT, HR⟩ := hrel
    by_cases hlt : i < n
    · have v0 : decide ((i : Int) < (n : Int)) = true := decide_eq_true (by omega)
      have v0' : (i : Int) < (n : Int) := by omega
      obtain ⟨b, o, rfl, hat⟩ := CE.out (by omega)
      have HAT := Lib.hid hat
      obtain ⟨x, hx, _⟩ := hat wr HR.out i hlt
      have HX := Lib.hid hx
      have HCX := Lib.hid (fun (W : World) (hW : Below w.heap.size w W) => (show W.cell? ⟨b, o + i, none⟩ = some (.int .i64 (x : Int)) from by
        obtain ⟨v, h1, h2⟩ := HAT.out W hW i hlt
        rw [hx] at h1
        injection h1 with h1
        rw [h1]; exact h2))
      clear hat hx
      go_wp2_with fail
      go_loopw [5] (fun kv wr => ∃ k : Nat, i < k ∧ k ≤ n ∧ kv = .int .i64 (k : Int) ∧ Hid (∀ j, i < j → j < k → L[j]? ≠ L[i]?) ∧ Hid (Below w.heap.size w wr)) (fun k _ => n - (intOf k).toNat)
      case atStart => exact ⟨i + 1, by omega, by omega, by first | rfl | go_num, Lib.hid (fun j h1 h2 => absurd h2 (by omega)), HR⟩
      case round =>
        obtain ⟨k, hik, hkn, rfl, HNO, HRK⟩ := hrel
        clear HR
        have HRD := Lib.hid (fun q => bdrewN HRK.out q)
        by_cases hlk : k < n
        · have v1 : decide ((k : Int) < (n : Int)) = true := decide_eq_true (by omega)
          have v1' : (k : Int) < (n : Int) := by omega
          have cx := HCX.out wr HRK.out
          obtain ⟨y, hy, cy⟩ := HAT.out wr HRK.out k hlk
          by_cases hxy : y = x
          · have t1 : ((y : Int) != (x : Int)) = false := by rw [hxy]; simp
            have t1n : (y != x) = false := by rw [hxy]; simp
            have HNX := Lib.hid (show Nx L i k from ⟨hik, ⟨x, HX.out, by rw [hy, hxy]⟩, fun j h1 h2 => HNO.out j h1 h2⟩)
            have HG2 := Lib.hid (gapTo_some HGT.out HNX.out)
            obtain ⟨d, hd⟩ : ∃ d, k - i - 1 = d := ⟨_, rfl⟩
            rw [hd] at HG2
            have hd1 : (k : Int) - (i : Int) - 1 = (d : Int) := by omega
            have hw1 : IntKind.i64.wrap ((k : Int) - (i : Int)) = (k : Int) - (i : Int) := wrap_in (by omega)
            have hw2 : IntKind.i64.wrap ((k : Int) - (i : Int) - 1) = (d : Int) := by rw [hd1]; exact wrap_in (by omega)
            have hdk : d ≤ 1000 := by omega
            by_cases hgd : g < d
            · rw [if_pos hgd] at HG2
              have t2 : decide ((d : Int) > (g : Int)) = true := decide_eq_true (by omega)
              have t2n : decide (g < d) = true := decide_eq_true hgd
              clear hd hd1 hxy hy hgd
              go_wp2_with fail
              go_quiet (fail)
              go_wp2_with fail
              go_roundw
              case rel => exact ⟨i + 1, d, by omega, by first | rfl | go_num, rfl, hdk, HG2, Lib.hid (HRD.out _)⟩
              case measure => simp [intOf]; omega
            · rw [if_neg hgd] at HG2
              have t2 : decide ((d : Int) > (g : Int)) = false := decide_eq_false (by omega)
              have t2n : decide (g < d) = false := decide_eq_false hgd
              clear hd hd1 hxy hy hgd
              go_wp2_with fail
              go_quiet (fail)
              go_wp2_with fail
              go_roundw
              case rel => exact ⟨i + 1, g, by omega, by first | rfl | go_num, rfl, hg, HG2, Lib.hid (HRD.out _)⟩
              case measure => simp [intOf]; omega
          · have t1 : ((y : Int) != (x : Int)) = true := by rw [bne_iff_ne]; omega
            have t1n : (y != x) = true := by rw [bne_iff_ne]; exact hxy
            have HNO2 := Lib.hid (show ∀ j, i < j → j < k + 1 → L[j]? ≠ L[i]? from fun j h1 h2 => by
              by_cases e : j = k
              · subst e
                rw [hy, HX.out]
                exact fun e2 => hxy (by injection e2)
              · exact HNO.out j h1 (by omega))
            clear hxy hy
            go_wp2_with fail
            go_quiet (fail)
            go_wp2_with fail
            go_roundw
            case rel => exact ⟨k + 1, by omega, by omega, by first | rfl | go_num, HNO2, Lib.hid (HRD.out _)⟩
            case measure => simp [intOf]; omega
        · obtain rfl : k = n := by omega
          have v1 : decide ((k : Int) < (k : Int)) = false := decide_eq_false (by omega)
          have HG2 := Lib.hid (gapTo_none HGT.out (fun j h1 h2 => HNO.out j h1 (by rw [HN.out]; exact h2)))
          go_wp2_with fail
          go_quiet (fail)
          go_wp2_with fail
          go_roundw
          case rel => exact ⟨i + 1, g, by omega, by first | rfl | go_num, rfl, hg, HG2, Lib.hid (HRD.out _)⟩
          case measure => simp [intOf]; omega
    · obtain rfl : i = n := by omega
      have v0 : decide ((i : Int) < (i : Int)) = false := decide_eq_false (by omega)
      have HE := Lib.hid (show g = gl from by rw [← HGL.out]; exact (gap_eq (gapTo_end (by have := HGT.out; rwa [HN.out] at this))).symm)
      go_wp2_with fail
      go_ret
      exact ⟨by rw [HE.out]; rfl, HR.out⟩
end Go.Proofs.YtckfobkkjiiheaaDoor.Ring
