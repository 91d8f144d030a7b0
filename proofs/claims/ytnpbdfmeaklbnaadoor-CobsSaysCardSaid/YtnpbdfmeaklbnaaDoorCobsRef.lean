/- The contract of the document's writing without noughts. No statement is proved here. -/
import Derived.Test.YtnpbdfmeaklbnaaDoorBytesRef
import Derived.Test.YtnpbdfmeaklbnaaDoorCobs3
namespace Go.Proofs.YtnpbdfmeaklbnaaDoor.Cobs
open Go.ChangeShapes Go.WideShapes Go.ChangeAt Go.RowKit
open Go.Proofs.YtnpbdfmeaklbnaaDoor.Kit Go.Proofs.YtnpbdfmeaklbnaaDoor.App Go.Proofs.YtnpbdfmeaklbnaaDoor.CobsMath
set_option linter.unusedVariables false
set_option maxRecDepth 20000

/-- What is still to be written from place g on. -/
def rem (l : List Int) (fl : Bool) (g : Nat) : List Int := if fl = true ∧ l.length ≤ g then [] else enc (l.drop g)
theorem run_span {l : List Int} {g k : Nat} (hgk : g ≤ k) (hk : k ≤ l.length) (hz : ∀ j : Nat, g ≤ j → j < k → l[j]?.getD 0 ≠ 0) (h0 : k < l.length → l[k]?.getD 0 = 0) : run (l.drop g) = k - g := by
  refine run_of (by rw [List.length_drop]; omega) (fun j hj => ?_) (fun hj => ?_)
  · rw [List.getElem?_drop]; exact hz _ (by omega) (by omega)
  · rw [List.length_drop] at hj
    rw [List.getElem?_drop, show g + (k - g) = k by omega]
    exact h0 (by omega)
theorem rem_full {l : List Int} {fl : Bool} {g k : Nat} (hgk : g + 254 ≤ k) (hk : k ≤ l.length) (hz : ∀ j : Nat, g ≤ j → j < k → l[j]?.getD 0 ≠ 0) (h0 : k < l.length → l[k]?.getD 0 = 0) :
    rem l fl g = [255] ++ (l.drop g).take 254 ++ rem l true (g + 254) := by
  have hr := run_span (by omega) hk hz h0
  have hc : cut (l.drop g) = 254 := by unfold cut; omega
  have hld : (l.drop g).length = l.length - g := List.length_drop
  unfold rem
  rw [if_neg (by omega)]
  by_cases h : l.length ≤ g + 254
  · rw [if_pos ⟨rfl, h⟩, enc_end (by omega), hc]; simp
  · have hn : nxt (l.drop g) = l.drop (g + 254) := by unfold nxt; rw [hc, if_neg (by omega), List.drop_drop]
    rw [if_neg (fun hh => h hh.2), enc_more (by omega), hc, hn]; simp
theorem rem_nought {l : List Int} {fl : Bool} {g k : Nat} (hgk : g ≤ k) (hk : k < l.length) (hs : k < g + 254) (hz : ∀ j : Nat, g ≤ j → j < k → l[j]?.getD 0 ≠ 0) (h0 : l[k]?.getD 0 = 0) :
    rem l fl g = [((k - g : Nat) : Int) + 1] ++ (l.drop g).take (k - g) ++ rem l false (k + 1) := by
  have hr := run_span hgk (by omega) hz (fun _ => h0)
  have hc : cut (l.drop g) = k - g := by unfold cut; omega
  have hld : (l.drop g).length = l.length - g := List.length_drop
  have hn : nxt (l.drop g) = l.drop (k + 1) := by unfold nxt; rw [hc, if_pos (by omega), List.drop_drop, show g + (k - g + 1) = k + 1 by omega]
  unfold rem
  rw [if_neg (by omega), if_neg (by simp), enc_more (by omega), hc, hn]
  simp
theorem rem_end {l : List Int} {fl : Bool} {g : Nat} (hg : g ≤ l.length) (hs : l.length < g + 254) (hz : ∀ j : Nat, g ≤ j → j < l.length → l[j]?.getD 0 ≠ 0) (hf : fl = false ∨ g < l.length) :
    rem l fl g = [((l.length - g : Nat) : Int) + 1] ++ (l.drop g).take (l.length - g) := by
  have hr := run_span hg (Nat.le_refl _) hz (fun h => absurd h (by omega))
  have hc : cut (l.drop g) = l.length - g := by unfold cut; omega
  have hld : (l.drop g).length = l.length - g := List.length_drop
  unfold rem
  rw [if_neg (fun h => by rcases hf with hf | hf; · rw [hf] at h; exact absurd h.1 (by decide)
                          · omega), enc_end (by omega), hc]
  simp
theorem rem_done {l : List Int} {g : Nat} (hg : l.length ≤ g) : rem l true g = [] := by unfold rem; rw [if_pos ⟨rfl, hg⟩]
theorem rem_first (l : List Int) (g : Nat) : rem l false g = enc (l.drop g) := by unfold rem; rw [if_neg (by simp)]

set_option maxHeartbeats 4000000 in
theorem rcobs_some (p : Option Addr) (cap n : Nat) (l : List Int) (w : World) (hn : n = l.length) (h : Ints w p cap l) (hl : l.length ≤ 600) (hne : 0 < l.length) :
    Calls Tryd.prog 5 #[.slice p n cap] w fun e w' => ∃ v, e = .returned v ∧ OwnI w' w.heap.size v (enc l) ∧ Below w.heap.size w w' := by
  subst hn
  have HL := Lib.hid (enc_len l).2
  have hw255 : (Lit.int .i64 255).wf = true := by decide
  go_enter Tryd.func5, Tryd.ntmps5
  go_wp2_with fail
  go_loopw [3, 4, 5] (fun v fv iv wr => ∃ (k f : Nat) (out : List Int), iv = .int .i64 k ∧ fv = .int .i64 f ∧ OwnI wr w.heap.size v out ∧ Below w.heap.size w wr ∧
      ((k ≤ l.length ∧ f ≤ k ∧ Hid (∀ j : Nat, f ≤ j → j < k → l[j]?.getD 0 ≠ 0) ∧ Hid (out ++ rem l false f = enc l)) ∨ (k = l.length + 1 ∧ out = enc l))) (fun _ _ i _ => l.length + 1 - (intOf i).toNat)
  case atStart => exact ⟨0, 0, [], rfl, rfl, OwnI.nil _ _, brefl _, .inl ⟨Nat.zero_le _, Nat.le_refl _, fun j hj hj2 => absurd hj2 (Nat.not_lt_zero _), (show [] ++ rem l false 0 = enc l by rw [rem_first]; simp)⟩⟩
  case round =>
    obtain ⟨k, f, out, rfl, rfl, hown, hB, ⟨hk, hf, HZ, HE⟩ | ⟨rfl, rfl⟩⟩ := hrel
    · have s1 : decide ((k : Int) ≤ (l.length : Int)) = true := decide_eq_true (by omega)
      by_cases hlt : k < l.length
      · have s2 : decide ((k : Int) < (l.length : Int)) = true := decide_eq_true (by omega)
        obtain ⟨b, off, rfl, hbw, hc⟩ := h.2.2.2 (by omega)
        have hck := (hB.cell (p := ⟨b, off + k, none⟩) hbw).trans (hc k hlt)
        clear hc
        obtain ⟨x, hx⟩ : ∃ x, l[k]?.getD 0 = x := ⟨_, rfl⟩
        rw [hx] at hck
        have Hx := Lib.hid hx
        clear hx
        by_cases hx0 : x ≠ 0
        · have s3 : (x != 0) = true := by rw [bne_iff_ne]; exact hx0
          go_wp2_with fail
          go_roundw
          case rel => exact ⟨k + 1, f, out, by go_num, rfl, hown, hB, .inl ⟨by omega, by omega, fun j hj hj2 => by
            by_cases e : j = k
            · rw [e, Hx.out]; exact hx0
            · exact HZ.out j hj (by omega), HE.out⟩⟩
          case measure => simp [intOf]; omega
        · obtain rfl : x = 0 := Decidable.not_not.1 hx0
          have h00 := Lib.hid (show k < l.length → l[k]?.getD 0 = 0 from fun _ => Hx.out)
          have hcapl := h.1
          have hcapm := h.2.1
          have hcapm' : cap ≤ 9223372036854775807 := by unfold maxLen at hcapm; omega
          have f3 : f < cap := by omega
          have f4 : k ≤ cap := by omega
          go_wp2_with fail
          go_loopw [3, 6, 7] (fun v r q wi => ∃ (g m c3 : Nat) (p3 : Option Addr) (out2 : List Int) (fl : Bool), r = .slice p3 m c3 ∧ q = .bool fl ∧ f ≤ g ∧ g + m = k ∧ (∀ W, Ints W (some ⟨b, off, none⟩) cap l → Ints W p3 c3 ((l.drop g).take m)) ∧ OwnI wi w.heap.size v out2 ∧ Below w.heap.size w wi ∧ Hid (out2 ++ rem l fl g = enc l)) (fun _ r _ _ => slen r)
          case atStart => exact ⟨f, k - f, cap - f, some ⟨b, off + f, none⟩, out, false, rfl, rfl, Nat.le_refl _, by omega, (fun W hh => ints_sub hh f (k - f) (cap - f) (by omega) (by omega) (by omega)), hown, hB, HE.out⟩
          case round =>
            obtain ⟨g, m, c3, p3, out2, fl, rfl, rfl, hfg, hgm, hpc, hown2, hBi, HE2⟩ := hrel
            have hBsi := hBi.size
            have hol : out2.length ≤ 603 := by
              have h1 := congrArg List.length HE2.out
              rw [List.length_append] at h1
              have := HL.out
              omega
            have hZg : ∀ j : Nat, g ≤ j → j < k → l[j]?.getD 0 ≠ 0 := fun j h1 h2 => HZ.out j (by omega) h2
            have hcap3 := (hpc w h).1
            have hcap4 := (hpc w h).2.1
            have hm1 : ((l.drop g).take m).length = m := by rw [List.length_take, List.length_drop]; omega
            rw [hm1] at hcap3
            have hcap5 : c3 ≤ 9223372036854775807 := by unfold maxLen at hcap4; omega
            by_cases hbig : 254 ≤ m
            · have u1 : decide ((m : Int) ≥ 254) = true := decide_eq_true (by omega)
              have HF := Lib.hid (rem_full (fl := fl) (g := g) (k := k) (by omega) (by omega) hZg h00.out)
              have hpos : 0 < ((l.drop g).take m).length := by omega
              obtain ⟨b3, o3, rfl, _, _⟩ := (hpc w h).2.2.2 hpos
              have f1 : 254 ≤ c3 := by omega
              have hbk := fun W (hh : Ints W (some ⟨b, off, none⟩) cap l) => ints_cut (hpc W hh) 254 (by omega) c3 (by omega) hcap4
              have htt : ((l.drop g).take m).take 254 = (l.drop g).take 254 := by rw [List.take_take, Nat.min_eq_left hbig]
              rw [htt] at hbk
              obtain ⟨blk, hbe⟩ : ∃ blk, (l.drop g).take 254 = blk := ⟨_, rfl⟩
              have hbl : blk.length = 254 := by rw [← hbe, List.length_take, List.length_drop]; omega
              rw [hbe] at hbk HF
              clear hbe htt hpos hZg
              have hrest : ∀ (P : Option Addr) (C : Nat), (P = some ⟨b3, o3 + 254, none⟩ ∨ m = 254) → m - 254 ≤ C → C ≤ c3 → ∀ W, Ints W (some ⟨b, off, none⟩) cap l → Ints W P C ((l.drop (g + 254)).take (m - 254)) := by
                intro P C hP h1 h2 W hh
                rcases hP with rfl | hP
                · have hs := ints_tail (hpc W hh) 254 C (by omega) (by omega) (by omega)
                  have e : ((l.drop g).take m).drop 254 = (l.drop (g + 254)).take (m - 254) := by rw [List.drop_take, List.drop_drop]
                  rwa [e] at hs
                · exact ints_none W P C _ (by omega) (by rw [hP]; rfl)
              have HR := Lib.hid hrest
              clear hrest
              by_cases hc : c3 = 254
              · obtain rfl : c3 = 254 := hc
                obtain rfl : m = 254 := by omega
                go_wp2_with (first
                  | (at_builtin
                     refine wp_app rfl (.tmp 34) (.tmp 35) rfl w.heap.size _ out2 (some ⟨wr.heap.size, 0, none⟩) 1 1 [255] rfl (hown2.alloc _) rfl rfl (Ints.one wr 255 hw255) (by simp; omega) (Nat.le_trans hBi.size (by simp)) ?_
                     intro va wa howna hga hata
                     have hBa : Below w.heap.size w wa := below_one hBi hBi.size _ hown2 hga
                     clear hata hga)
                  | (at_builtin
                     refine wp_app rfl (.tmp 37) (.tmp 39) rfl w.heap.size va (out2 ++ [255]) (some ⟨b3, o3, none⟩) 254 254 blk rfl howna rfl hbl.symm (hbk _ (h.below hBa)) (by simp; omega) hBa.size ?_
                     intro vb wb hownb hgb hatb
                     have hBb : Below w.heap.size w wb := below_app hBa howna hgb hBa.size
                     clear hatb hgb))
                go_roundw
                case rel => exact ⟨g + 254, 0, 0, some ⟨b3, o3, none⟩, (out2 ++ [255]) ++ blk, true, rfl, rfl, by omega, by omega, HR.out _ _ (.inr rfl) (by omega) (by omega), hownb, hBb, by show (out2 ++ [255]) ++ blk ++ rem l true (g + 254) = enc l; rw [← HE2.out, HF.out]; simp⟩
                case measure => first | (simp [slen]; done) | (simp [slen]; omega)
              · have f2 : 254 < c3 := by omega
                go_wp2_with (first
                  | (at_builtin
                     refine wp_app rfl (.tmp 34) (.tmp 35) rfl w.heap.size _ out2 (some ⟨wr.heap.size, 0, none⟩) 1 1 [255] rfl (hown2.alloc _) rfl rfl (Ints.one wr 255 hw255) (by simp; omega) (Nat.le_trans hBi.size (by simp)) ?_
                     intro va wa howna hga hata
                     have hBa : Below w.heap.size w wa := below_one hBi hBi.size _ hown2 hga
                     clear hata hga)
                  | (at_builtin
                     refine wp_app rfl (.tmp 37) (.tmp 39) rfl w.heap.size va (out2 ++ [255]) (some ⟨b3, o3, none⟩) c3 254 blk rfl howna rfl hbl.symm (hbk _ (h.below hBa)) (by simp; omega) hBa.size ?_
                     intro vb wb hownb hgb hatb
                     have hBb : Below w.heap.size w wb := below_app hBa howna hgb hBa.size
                     clear hatb hgb))
                go_roundw
                case rel => exact ⟨g + 254, m - 254, c3 - 254, some ⟨b3, o3 + 254, none⟩, (out2 ++ [255]) ++ blk, true, rfl, rfl, by omega, by omega, HR.out _ _ (.inl rfl) (by omega) (by omega), hownb, hBb, by show (out2 ++ [255]) ++ blk ++ rem l true (g + 254) = enc l; rw [← HE2.out, HF.out]; simp⟩
                case measure => first | (simp [slen]; done) | (simp [slen]; omega)
            · have u1 : decide ((m : Int) ≥ 254) = false := decide_eq_false (by omega)
              have HN := rem_nought (l := l) (fl := fl) (g := g) (k := k) (by omega) hlt (by omega) hZg (h00.out hlt)
              rw [show k - g = m by omega] at HN
              have hxw : (Lit.int .i64 ((m : Int) + 1)).wf = true := wf_small (by omega) (by omega)
              obtain ⟨blk, hbe⟩ : ∃ blk, (l.drop g).take m = blk := ⟨_, rfl⟩
              rw [hbe] at hpc hm1
              rw [hbe] at HN
              have HN2 := Lib.hid HN
              clear hbe HN hZg
              go_wp2_with (first
                | (at_builtin
                   refine wp_app rfl (.tmp 56) (.tmp 60) rfl w.heap.size _ out2 (some ⟨wr.heap.size, 0, none⟩) 1 1 [(m : Int) + 1] rfl (hown2.alloc _) rfl rfl (Ints.one wr _ hxw) (by simp; omega) (Nat.le_trans hBi.size (by simp)) ?_
                   intro va wa howna hga hata
                   have hBa : Below w.heap.size w wa := below_one hBi hBi.size _ hown2 hga
                   clear hata hga)
                | (at_builtin
                   refine wp_app rfl (.tmp 62) (.tmp 63) rfl w.heap.size va (out2 ++ [(m : Int) + 1]) p3 c3 m blk rfl howna rfl hm1.symm (hpc _ (h.below hBa)) (by simp; omega) hBa.size ?_
                   intro vb wb hownb hgb hatb
                   have hBb : Below w.heap.size w wb := below_app hBa howna hgb hBa.size
                   clear hatb hgb))
              go_roundw
              case rel => exact ⟨k + 1, k + 1, (out2 ++ [(m : Int) + 1]) ++ blk, by go_num, by go_num, hownb, hBb, .inl ⟨by omega, Nat.le_refl _, fun j hj hj2 => absurd hj2 (by omega), by show (out2 ++ [(m : Int) + 1]) ++ blk ++ rem l false (k + 1) = enc l; rw [← HE2.out, HN2.out]; simp⟩⟩
              case measure => simp [intOf]; omega
      · have s2 : decide ((k : Int) < (l.length : Int)) = false := decide_eq_false (by omega)
        have hk0 : l.length ≤ k := by omega
        have h00 := Lib.hid (show k < l.length → l[k]?.getD 0 = 0 from fun hh => absurd hh (by omega))
        have hcapl := h.1
        have hcapm := h.2.1
        have hcapm' : cap ≤ 9223372036854775807 := by unfold maxLen at hcapm; omega
        obtain ⟨b, off, rfl, hbw, hcell⟩ := h.2.2.2 (by omega)
        clear hcell
        by_cases hfc : f = cap
        · obtain rfl : f = k := by omega
          obtain rfl : f = cap := hfc
          have HN := rem_end (l := l) (fl := false) (g := f) (by omega) (by omega) (fun j h1 h2 => absurd h2 (by omega)) (.inl rfl)
          rw [show l.length - f = 0 by omega] at HN
          have HN2 := Lib.hid HN
          have hw1 : (Lit.int .i64 1).wf = true := by decide
          have hol : out.length ≤ 603 := by
            have h1 := congrArg List.length HE.out
            rw [List.length_append] at h1
            have := HL.out
            omega
          clear HN
          go_wp2_with fail
          go_loopw [3, 6, 7] (fun v r q wi => ∃ p3 c3, r = .slice p3 0 c3 ∧ c3 ≤ maxLen ∧ q = .bool false ∧ OwnI wi w.heap.size v out ∧ Below w.heap.size w wi) (fun _ _ _ _ => 0)
          case atStart => exact ⟨_, _, rfl, by simp [maxLen], rfl, hown, hB⟩
          case round =>
            obtain ⟨p3, c3, rfl, hc3, rfl, hown2, hBi⟩ := hrel
            go_wp2_with (first
              | (at_builtin
                 refine wp_app rfl (.tmp 56) (.tmp 60) rfl w.heap.size _ out (some ⟨wr.heap.size, 0, none⟩) 1 1 [1] rfl (hown2.alloc _) rfl rfl (Ints.one wr _ hw1) (by simp; omega) (Nat.le_trans hBi.size (by simp)) ?_
                 intro va wa howna hga hata
                 have hBa : Below w.heap.size w wa := below_one hBi hBi.size _ hown2 hga
                 clear hata hga)
              | (at_builtin
                 refine wp_app rfl (.tmp 62) (.tmp 63) rfl w.heap.size va (out ++ [1]) p3 c3 0 [] rfl howna rfl rfl (ints_none wa p3 c3 [] hc3 rfl) (by simp; omega) hBa.size ?_
                 intro vb wb hownb hgb hatb
                 have hBb : Below w.heap.size w wb := below_app hBa howna hgb hBa.size
                 clear hatb hgb))
            go_roundw
            case rel => exact ⟨f + 1, f + 1, (out ++ [1]) ++ [], by go_num, by go_num, hownb, hBb, .inr ⟨by omega, by rw [← HE.out, HN2.out]; simp⟩⟩
            case measure => simp [intOf]; omega
        · have f3 : f < cap := by omega
          have f4 : k ≤ cap := by omega
          go_wp2_with fail
          go_loopw [3, 6, 7] (fun v r q wi => ∃ (g m c3 : Nat) (p3 : Option Addr) (out2 : List Int) (fl : Bool), r = .slice p3 m c3 ∧ q = .bool fl ∧ f ≤ g ∧ g + m = k ∧ (∀ W, Ints W (some ⟨b, off, none⟩) cap l → Ints W p3 c3 ((l.drop g).take m)) ∧ OwnI wi w.heap.size v out2 ∧ Below w.heap.size w wi ∧ Hid (out2 ++ rem l fl g = enc l)) (fun _ r _ _ => slen r)
          case atStart => exact ⟨f, k - f, cap - f, some ⟨b, off + f, none⟩, out, false, rfl, rfl, Nat.le_refl _, by omega, (fun W hh => ints_sub hh f (k - f) (cap - f) (by omega) (by omega) (by omega)), hown, hB, HE.out⟩
          case round =>
            obtain ⟨g, m, c3, p3, out2, fl, rfl, rfl, hfg, hgm, hpc, hown2, hBi, HE2⟩ := hrel
            have hBsi := hBi.size
            have hol : out2.length ≤ 603 := by
              have h1 := congrArg List.length HE2.out
              rw [List.length_append] at h1
              have := HL.out
              omega
            have hZg : ∀ j : Nat, g ≤ j → j < k → l[j]?.getD 0 ≠ 0 := fun j h1 h2 => HZ.out j (by omega) h2
            have hcap3 := (hpc w h).1
            have hcap4 := (hpc w h).2.1
            have hm1 : ((l.drop g).take m).length = m := by rw [List.length_take, List.length_drop]; omega
            rw [hm1] at hcap3
            have hcap5 : c3 ≤ 9223372036854775807 := by unfold maxLen at hcap4; omega
            by_cases hbig : 254 ≤ m
            · have u1 : decide ((m : Int) ≥ 254) = true := decide_eq_true (by omega)
              have HF := Lib.hid (rem_full (fl := fl) (g := g) (k := k) (by omega) (by omega) hZg h00.out)
              have hpos : 0 < ((l.drop g).take m).length := by omega
              obtain ⟨b3, o3, rfl, _, _⟩ := (hpc w h).2.2.2 hpos
              have f1 : 254 ≤ c3 := by omega
              have hbk := fun W (hh : Ints W (some ⟨b, off, none⟩) cap l) => ints_cut (hpc W hh) 254 (by omega) c3 (by omega) hcap4
              have htt : ((l.drop g).take m).take 254 = (l.drop g).take 254 := by rw [List.take_take, Nat.min_eq_left hbig]
              rw [htt] at hbk
              obtain ⟨blk, hbe⟩ : ∃ blk, (l.drop g).take 254 = blk := ⟨_, rfl⟩
              have hbl : blk.length = 254 := by rw [← hbe, List.length_take, List.length_drop]; omega
              rw [hbe] at hbk HF
              clear hbe htt hpos hZg
              have hrest : ∀ (P : Option Addr) (C : Nat), (P = some ⟨b3, o3 + 254, none⟩ ∨ m = 254) → m - 254 ≤ C → C ≤ c3 → ∀ W, Ints W (some ⟨b, off, none⟩) cap l → Ints W P C ((l.drop (g + 254)).take (m - 254)) := by
                intro P C hP h1 h2 W hh
                rcases hP with rfl | hP
                · have hs := ints_tail (hpc W hh) 254 C (by omega) (by omega) (by omega)
                  have e : ((l.drop g).take m).drop 254 = (l.drop (g + 254)).take (m - 254) := by rw [List.drop_take, List.drop_drop]
                  rwa [e] at hs
                · exact ints_none W P C _ (by omega) (by rw [hP]; rfl)
              have HR := Lib.hid hrest
              clear hrest
              by_cases hc : c3 = 254
              · obtain rfl : c3 = 254 := hc
                obtain rfl : m = 254 := by omega
                go_wp2_with (first
                  | (at_builtin
                     refine wp_app rfl (.tmp 34) (.tmp 35) rfl w.heap.size _ out2 (some ⟨wr.heap.size, 0, none⟩) 1 1 [255] rfl (hown2.alloc _) rfl rfl (Ints.one wr 255 hw255) (by simp; omega) (Nat.le_trans hBi.size (by simp)) ?_
                     intro va wa howna hga hata
                     have hBa : Below w.heap.size w wa := below_one hBi hBi.size _ hown2 hga
                     clear hata hga)
                  | (at_builtin
                     refine wp_app rfl (.tmp 37) (.tmp 39) rfl w.heap.size va (out2 ++ [255]) (some ⟨b3, o3, none⟩) 254 254 blk rfl howna rfl hbl.symm (hbk _ (h.below hBa)) (by simp; omega) hBa.size ?_
                     intro vb wb hownb hgb hatb
                     have hBb : Below w.heap.size w wb := below_app hBa howna hgb hBa.size
                     clear hatb hgb))
                go_roundw
                case rel => exact ⟨g + 254, 0, 0, some ⟨b3, o3, none⟩, (out2 ++ [255]) ++ blk, true, rfl, rfl, by omega, by omega, HR.out _ _ (.inr rfl) (by omega) (by omega), hownb, hBb, by show (out2 ++ [255]) ++ blk ++ rem l true (g + 254) = enc l; rw [← HE2.out, HF.out]; simp⟩
                case measure => first | (simp [slen]; done) | (simp [slen]; omega)
              · have f2 : 254 < c3 := by omega
                go_wp2_with (first
                  | (at_builtin
                     refine wp_app rfl (.tmp 34) (.tmp 35) rfl w.heap.size _ out2 (some ⟨wr.heap.size, 0, none⟩) 1 1 [255] rfl (hown2.alloc _) rfl rfl (Ints.one wr 255 hw255) (by simp; omega) (Nat.le_trans hBi.size (by simp)) ?_
                     intro va wa howna hga hata
                     have hBa : Below w.heap.size w wa := below_one hBi hBi.size _ hown2 hga
                     clear hata hga)
                  | (at_builtin
                     refine wp_app rfl (.tmp 37) (.tmp 39) rfl w.heap.size va (out2 ++ [255]) (some ⟨b3, o3, none⟩) c3 254 blk rfl howna rfl hbl.symm (hbk _ (h.below hBa)) (by simp; omega) hBa.size ?_
                     intro vb wb hownb hgb hatb
                     have hBb : Below w.heap.size w wb := below_app hBa howna hgb hBa.size
                     clear hatb hgb))
                go_roundw
                case rel => exact ⟨g + 254, m - 254, c3 - 254, some ⟨b3, o3 + 254, none⟩, (out2 ++ [255]) ++ blk, true, rfl, rfl, by omega, by omega, HR.out _ _ (.inl rfl) (by omega) (by omega), hownb, hBb, by show (out2 ++ [255]) ++ blk ++ rem l true (g + 254) = enc l; rw [← HE2.out, HF.out]; simp⟩
                case measure => first | (simp [slen]; done) | (simp [slen]; omega)
            · have u1 : decide ((m : Int) ≥ 254) = false := decide_eq_false (by omega)
              cases fl with
              | false =>
                have HN := rem_end (l := l) (fl := false) (g := g) (by omega) (by omega) (fun j h1 h2 => hZg j h1 (by omega)) (.inl rfl)
                rw [show l.length - g = m by omega] at HN
                have hxw : (Lit.int .i64 ((m : Int) + 1)).wf = true := wf_small (by omega) (by omega)
                obtain ⟨blk, hbe⟩ : ∃ blk, (l.drop g).take m = blk := ⟨_, rfl⟩
                rw [hbe] at hpc hm1
                rw [hbe] at HN
                have HN2 := Lib.hid HN
                clear hbe HN hZg
                go_wp2_with (first
                  | (at_builtin
                     refine wp_app rfl (.tmp 56) (.tmp 60) rfl w.heap.size _ out2 (some ⟨wr.heap.size, 0, none⟩) 1 1 [(m : Int) + 1] rfl (hown2.alloc _) rfl rfl (Ints.one wr _ hxw) (by simp; omega) (Nat.le_trans hBi.size (by simp)) ?_
                     intro va wa howna hga hata
                     have hBa : Below w.heap.size w wa := below_one hBi hBi.size _ hown2 hga
                     clear hata hga)
                  | (at_builtin
                     refine wp_app rfl (.tmp 62) (.tmp 63) rfl w.heap.size va (out2 ++ [(m : Int) + 1]) p3 c3 m blk rfl howna rfl hm1.symm (hpc _ (h.below hBa)) (by simp; omega) hBa.size ?_
                     intro vb wb hownb hgb hatb
                     have hBb : Below w.heap.size w wb := below_app hBa howna hgb hBa.size
                     clear hatb hgb))
                go_roundw
                case rel => exact ⟨k + 1, k + 1, (out2 ++ [(m : Int) + 1]) ++ blk, by go_num, by go_num, hownb, hBb, .inr ⟨by omega, by rw [← HE2.out, HN2.out]; simp⟩⟩
                case measure => simp [intOf]; omega
              | true =>
                by_cases hm0 : 0 < m
                · have u2 : decide ((m : Int) > 0) = true := decide_eq_true (by omega)
                  have HN := rem_end (l := l) (fl := true) (g := g) (by omega) (by omega) (fun j h1 h2 => hZg j h1 (by omega)) (.inr (by omega))
                  rw [show l.length - g = m by omega] at HN
                  have hxw : (Lit.int .i64 ((m : Int) + 1)).wf = true := wf_small (by omega) (by omega)
                  obtain ⟨blk, hbe⟩ : ∃ blk, (l.drop g).take m = blk := ⟨_, rfl⟩
                  rw [hbe] at hpc hm1
                  rw [hbe] at HN
                  have HN2 := Lib.hid HN
                  clear hbe HN hZg
                  go_wp2_with (first
                    | (at_builtin
                       refine wp_app rfl (.tmp 56) (.tmp 60) rfl w.heap.size _ out2 (some ⟨wr.heap.size, 0, none⟩) 1 1 [(m : Int) + 1] rfl (hown2.alloc _) rfl rfl (Ints.one wr _ hxw) (by simp; omega) (Nat.le_trans hBi.size (by simp)) ?_
                       intro va wa howna hga hata
                       have hBa : Below w.heap.size w wa := below_one hBi hBi.size _ hown2 hga
                       clear hata hga)
                    | (at_builtin
                       refine wp_app rfl (.tmp 62) (.tmp 63) rfl w.heap.size va (out2 ++ [(m : Int) + 1]) p3 c3 m blk rfl howna rfl hm1.symm (hpc _ (h.below hBa)) (by simp; omega) hBa.size ?_
                       intro vb wb hownb hgb hatb
                       have hBb : Below w.heap.size w wb := below_app hBa howna hgb hBa.size
                       clear hatb hgb))
                  go_roundw
                  case rel => exact ⟨k + 1, k + 1, (out2 ++ [(m : Int) + 1]) ++ blk, by go_num, by go_num, hownb, hBb, .inr ⟨by omega, by rw [← HE2.out, HN2.out]; simp⟩⟩
                  case measure => simp [intOf]; omega
                · have u2 : decide ((m : Int) > 0) = false := decide_eq_false (by omega)
                  have HN := rem_done (l := l) (g := g) (by omega)
                  have HN2 := Lib.hid HN
                  clear HN hZg
                  go_wp2_with fail
                  go_roundw
                  case rel => exact ⟨k + 1, k + 1, out2, by go_num, by go_num, hown2, hBi, .inr ⟨by omega, by rw [← HE2.out, HN2.out]; simp⟩⟩
                  case measure => simp [intOf]; omega
    · have s1 : decide (((l.length + 1 : Nat) : Int) ≤ (l.length : Int)) = false := decide_eq_false (by omega)
      go_wp2_with fail
      go_ret
      exact ⟨_, rfl, hown, hB⟩

set_option maxHeartbeats 1000000 in
theorem rcobs_nil (p : Option Addr) (cap : Nat) (w : World) (hcap : cap ≤ maxLen) :
    Calls Tryd.prog 5 #[.slice p 0 cap] w fun e w' => ∃ v, e = .returned v ∧ OwnI w' w.heap.size v [1] ∧ Below w.heap.size w w' := by
  have hw1 : (Lit.int .i64 1).wf = true := by decide
  cases p with
  | none =>
    go_enter Tryd.func5, Tryd.ntmps5
    go_wp2_with fail
    go_loopw [3, 4, 5] (fun v fv iv wr => ∃ out : List Int, OwnI wr w.heap.size v out ∧ Below w.heap.size w wr ∧ ((iv = .int .i64 0 ∧ fv = .int .i64 0 ∧ out = []) ∨ (iv = .int .i64 1 ∧ fv = .int .i64 1 ∧ out = [1]))) (fun _ _ i _ => 1 - (intOf i).toNat)
    case atStart => exact ⟨[], OwnI.nil _ _, brefl _, .inl ⟨rfl, rfl, rfl⟩⟩
    case round =>
      obtain ⟨out, hown, hB, ⟨rfl, rfl, rfl⟩ | ⟨rfl, rfl, rfl⟩⟩ := hrel
      · go_wp2_with fail
        all_goals (
          go_loopw [3, 6, 7] (fun v r q wi => ∃ p3 c3, r = .slice p3 0 c3 ∧ c3 ≤ maxLen ∧ q = .bool false ∧ OwnI wi w.heap.size v [] ∧ Below w.heap.size w wi) (fun _ _ _ _ => 0)
          case atStart => exact ⟨_, _, rfl, by first | exact hcap | simp [maxLen], rfl, hown, hB⟩
          case round =>
            obtain ⟨p3, c3, rfl, hc3, rfl, hown2, hBi⟩ := hrel
            go_wp2_with (first
              | (at_builtin
                 refine wp_app rfl (.tmp 56) (.tmp 60) rfl w.heap.size _ [] (some ⟨wr.heap.size, 0, none⟩) 1 1 [1] rfl (hown2.alloc _) rfl rfl (Ints.one wr _ hw1) (by simp) (Nat.le_trans hBi.size (by simp)) ?_
                 intro va wa howna hga hata
                 have hBa : Below w.heap.size w wa := below_one hBi hBi.size _ hown2 hga
                 clear hata hga)
              | (at_builtin
                 refine wp_app rfl (.tmp 62) (.tmp 63) rfl w.heap.size va ([] ++ [1]) p3 c3 0 [] rfl howna rfl rfl (ints_none wa p3 c3 [] hc3 rfl) (by simp) hBa.size ?_
                 intro vb wb hownb hgb hatb
                 have hBb : Below w.heap.size w wb := below_app hBa howna hgb hBa.size
                 clear hatb hgb))
            go_roundw
            case rel => exact ⟨[1], hownb, hBb, .inr ⟨rfl, rfl, rfl⟩⟩
            case measure => simp [intOf])
      · go_wp2_with fail
        go_ret
        exact ⟨_, rfl, hown, hB⟩
  | some a =>
    go_enter Tryd.func5, Tryd.ntmps5
    go_wp2_with fail
    go_loopw [3, 4, 5] (fun v fv iv wr => ∃ out : List Int, OwnI wr w.heap.size v out ∧ Below w.heap.size w wr ∧ ((iv = .int .i64 0 ∧ fv = .int .i64 0 ∧ out = []) ∨ (iv = .int .i64 1 ∧ fv = .int .i64 1 ∧ out = [1]))) (fun _ _ i _ => 1 - (intOf i).toNat)
    case atStart => exact ⟨[], OwnI.nil _ _, brefl _, .inl ⟨rfl, rfl, rfl⟩⟩
    case round =>
      obtain ⟨out, hown, hB, ⟨rfl, rfl, rfl⟩ | ⟨rfl, rfl, rfl⟩⟩ := hrel
      · go_wp2_with fail
        all_goals (
          go_loopw [3, 6, 7] (fun v r q wi => ∃ p3 c3, r = .slice p3 0 c3 ∧ c3 ≤ maxLen ∧ q = .bool false ∧ OwnI wi w.heap.size v [] ∧ Below w.heap.size w wi) (fun _ _ _ _ => 0)
          case atStart => exact ⟨_, _, rfl, by first | exact hcap | simp [maxLen], rfl, hown, hB⟩
          case round =>
            obtain ⟨p3, c3, rfl, hc3, rfl, hown2, hBi⟩ := hrel
            go_wp2_with (first
              | (at_builtin
                 refine wp_app rfl (.tmp 56) (.tmp 60) rfl w.heap.size _ [] (some ⟨wr.heap.size, 0, none⟩) 1 1 [1] rfl (hown2.alloc _) rfl rfl (Ints.one wr _ hw1) (by simp) (Nat.le_trans hBi.size (by simp)) ?_
                 intro va wa howna hga hata
                 have hBa : Below w.heap.size w wa := below_one hBi hBi.size _ hown2 hga
                 clear hata hga)
              | (at_builtin
                 refine wp_app rfl (.tmp 62) (.tmp 63) rfl w.heap.size va ([] ++ [1]) p3 c3 0 [] rfl howna rfl rfl (ints_none wa p3 c3 [] hc3 rfl) (by simp) hBa.size ?_
                 intro vb wb hownb hgb hatb
                 have hBb : Below w.heap.size w wb := below_app hBa howna hgb hBa.size
                 clear hatb hgb))
            go_roundw
            case rel => exact ⟨[1], hownb, hBb, .inr ⟨rfl, rfl, rfl⟩⟩
            case measure => simp [intOf])
      · go_wp2_with fail
        go_ret
        exact ⟨_, rfl, hown, hB⟩

theorem rcobs_any (p : Option Addr) (cap n : Nat) (l : List Int) (w : World) (hn : n = l.length) (h : Ints w p cap l) (hl : l.length ≤ 600) :
    Calls Tryd.prog 5 #[.slice p n cap] w fun e w' => ∃ v, e = .returned v ∧ OwnI w' w.heap.size v (enc l) ∧ Below w.heap.size w w' := by
  by_cases hne : 0 < l.length
  · exact rcobs_some p cap n l w hn h hl hne
  · obtain rfl : l = [] := List.eq_nil_of_length_eq_zero (by omega)
    subst hn
    have e : enc [] = [1] := by rw [enc_end (by decide)]; rfl
    rw [e]
    exact rcobs_nil p cap w h.2.1
end Go.Proofs.YtnpbdfmeaklbnaaDoor.Cobs
