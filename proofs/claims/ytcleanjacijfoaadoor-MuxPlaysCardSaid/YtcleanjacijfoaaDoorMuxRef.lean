/- Package mux, the document's answer: NewMux, Waits, Next, Put. No statement is proved here. -/
import Derived.Test.YtcleanjacijfoaaDoorMuxCode
import Derived.Test.YtcleanjacijfoaaDoorOwnI
import Derived.Test.YtcleanjacijfoaaDoorBytes
import Derived.Test.YtcleanjacijfoaaDoorBehind
import Derived.Test.YtcleanjacijfoaaDoorSetList
import Derived.Test.YtcleanjacijfoaaDoorCell4T
import Derived.Test.YtcleanjacijfoaaDoorCell2T
import Derived.Test.YtcleanjacijfoaaDoorStepApp
import Derived.Test.YtcleanjacijfoaaDoorBlk
import Derived.Test.YtcleanjacijfoaaDoorKeep
import Derived.BigQuiet
import Derived.Deep.RegionLaw
import Derived.Deep.RegionHeld3
import Derived.OrdersHeld
namespace Go.Proofs.YtcleanjacijfoaaDoor.Mux
open Go.ChangeShapes Go.WideShapes Go.ChangeAt Go.RowKit Go.Proofs.YtcleanjacijfoaaDoor.Kit Go.Proofs.YtcleanjacijfoaaDoor.App Go.Proofs.YtcleanjacijfoaaDoor.Cells Go.Proofs.YtcleanjacijfoaaDoor.Err
set_option linter.unusedVariables false
set_option maxRecDepth 20000
set_option maxHeartbeats 2000000

/-- The document's lists. -/
def dl (d : Nat → Nat) : List Int := (List.range 800).map fun k => (d k : Int)
def rl (r : Nat → Nat) : List Int := (List.range 4).map fun k => (r k : Int)
theorem dl_len (d : Nat → Nat) : (dl d).length = 800 := by simp [dl]
theorem rl_len (r : Nat → Nat) : (rl r).length = 4 := by simp [rl]
theorem dl_at (d : Nat → Nat) {k : Nat} (hk : k < 800) : (dl d)[k]?.getD 0 = (d k : Int) := by simp [dl, hk]
theorem rl_at (r : Nat → Nat) {k : Nat} (hk : k < 4) : (rl r)[k]?.getD 0 = (r k : Int) := by simp [rl, hk]
/-- The document's streams in memory. -/
structure Dm (w : World) (pd : Option Addr) (cd : Nat) (pr : Option Addr) (cr : Nat) (d r : Nat → Nat) : Prop where
  d : Ints w pd cd (dl d)
  r : Ints w pr cr (rl r)
variable {w w' : World} {pd pr : Option Addr} {cd cr : Nat} {d r : Nat → Nat}
theorem Dm.below (H : Dm w pd cd pr cr d r) (hb : Below w.heap.size w w') : Dm w' pd cd pr cr d r := ⟨H.d.below hb, H.r.below hb⟩
/-- The cells, whatever came since. -/
theorem Dm.cells (H : Dm w pd cd pr cr d r) : ∃ b off b2 off2, pd = some ⟨b, off, none⟩ ∧ pr = some ⟨b2, off2, none⟩ ∧ (∀ W : World, Below w.heap.size w W → ∀ k, k < 800 → W.cell? ⟨b, off + k, none⟩ = some (.int .i64 (d k : Int))) ∧ (∀ W : World, Below w.heap.size w W → ∀ k, k < 4 → W.cell? ⟨b2, off2 + k, none⟩ = some (.int .i64 (r k : Int))) := by
  obtain ⟨b, off, e, hb, hc⟩ := H.d.2.2.2 (by rw [dl_len]; omega)
  obtain ⟨b2, off2, e2, hb2, hc2⟩ := H.r.2.2.2 (by rw [rl_len]; omega)
  refine ⟨b, off, b2, off2, e, e2, fun W hW k hk => ?_, fun W hW k hk => ?_⟩
  · have := hc k (by rw [dl_len]; exact hk)
    rw [dl_at d hk] at this
    exact (hW.cell (p := ⟨b, off + k, none⟩) hb).trans this
  · have := hc2 k (by rw [rl_len]; exact hk)
    rw [rl_at r hk] at this
    exact (hW.cell (p := ⟨b2, off2 + k, none⟩) hb2).trans this
theorem w64 {n : Int} (h : -9223372036854775808 ≤ n ∧ n ≤ 9223372036854775807) : wrap64 n = n := by unfold wrap64; omega
theorem w1b {z : Nat} (h : z < 256) : wrap64 (wrap64 (z : Int) + 1) = ((z + 1 : Nat) : Int) := by rw [w64 (n := (z : Int)) (by omega), w64 (by omega)]; omega
theorem w64b {y : Nat} (h : y < 256) : wrap64 (y : Int) % 256 = (y : Int) := by rw [w64 (by omega)]; omega
def vN : Value → Nat
  | .int _ z => z.toNat
  | _ => 0
theorem wf_in {n : Int} (h : -9223372036854775808 ≤ n ∧ n ≤ 9223372036854775807) : (Lit.int .i64 n).wf = true := by simp [Lit.wf, IntKind.min, IntKind.max, IntKind.signed, IntKind.bits]; omega
theorem rwaits_any (n : Nat) (w : World) (hn : n < 4) (H : Dm w pd cd pr cr d r) (hr : r n ≤ 200) :
    Calls Tryd.prog 16 #[.agg #[.slice pd 800 cd, .slice pr 4 cr], .int .i64 (n : Int)] w fun e w' => e = .returned (.int .i64 (wait d (200 * n) (r n) : Int)) ∧ Below w.heap.size w w' := by
  obtain ⟨b, off, b2, off2, rfl, rfl, hc, hc2⟩ := H.cells
  have HA := Lib.hid (balloc (brefl w) (.cells #[.slice (some ⟨b, off, none⟩) 800 cd, .slice (some ⟨b2, off2, none⟩) 4 cr] 39))
  have HB := Lib.hid (Blk.new w 39 [.slice (some ⟨b, off, none⟩) 800 cd, .slice (some ⟨b2, off2, none⟩) 4 cr])
  have c0 := HB.out.cell 0 _ rfl
  have c1 := HB.out.cell 1 _ rfl
  obtain ⟨B, hB⟩ : ∃ B, B = 200 * n := ⟨_, rfl⟩
  have u0 : IntKind.i64.wrap (200 * (n : Int)) = (B : Int) := by rw [wrap_in (by omega)]; omega
  have hnz : (n : Int) < 4 := by omega
  have HC := Lib.hid (fun k hk => hc _ HA.out k hk)
  have e1 : (w.alloc (.cells #[.slice (some ⟨b, off, none⟩) 800 cd, .slice (some ⟨b2, off2, none⟩) 4 cr] 39)).cell? ⟨b2, off2 + n, none⟩ = some (.int .i64 (r n : Int)) := hc2 _ HA.out n hn
  rw [← hB]
  have HBB := Lib.hid hB
  obtain ⟨R, hR⟩ : ∃ R, r n = R := ⟨_, rfl⟩
  rw [hR] at e1 hr ⊢
  clear hc hc2 H hB HB hR
  go_enter Tryd.func16, Tryd.ntmps16
  go_wp2_with fail
  generalize w.alloc (.cells #[.slice (some ⟨b, off, none⟩) 800 cd, .slice (some ⟨b2, off2, none⟩) 4 cr] 39) = w1 at HA HC c0 c1 e1 ⊢
  generalize w.heap.size = g at c0 c1 ⊢
  go_loopw [5, 6] (fun mv iv wr => ∃ i : Nat, R ≤ i ∧ i ≤ 200 ∧ mv = .int .i64 (waitTo d B R i : Int) ∧ iv = .int .i64 (i : Int) ∧ wr = w1) (fun _ i _ => 200 - vN i)
  case atStart => exact ⟨R, Nat.le_refl _, hr, by rw [waitTo_none]; rfl, rfl, rfl⟩
  case round =>
    obtain ⟨i, hi, hi2, rfl, rfl, rfl⟩ := hrel
    have hwt : waitTo d B R i ≤ 200 := by
      unfold waitTo
      refine Nat.le_trans (List.length_filter_le _ _) ?_
      simp; omega
    by_cases hlt : i < 200
    · have u1 : decide ((i : Int) < 200) = true := decide_eq_true (by omega)
      obtain ⟨m, hm⟩ : ∃ m, m = B + i := ⟨_, rfl⟩
      have u2 : IntKind.i64.wrap ((B : Int) + (i : Int)) = (m : Int) := by rw [wrap_in (by have := HBB.out; omega)]; omega
      have hm8 : m < 800 := by have := HBB.out; omega
      have hmz : (m : Int) < 800 := by omega
      have d0 : wr.cell? ⟨b, off + m, none⟩ = some (.int .i64 (d m : Int)) := HC.out m hm8
      have HNX := Lib.hid (waitTo_next d B hi)
      rw [← hm] at HNX
      clear hm hm8
      by_cases h0 : d m ≠ 0
      · have u3 : ((d m : Int) != 0) = true := by rw [bne_iff_ne]; omega
        rw [if_pos h0] at HNX
        generalize d m = x at d0 u3
        clear h0
        go_wp2_with fail
        go_roundw
        case rel => exact ⟨i + 1, by omega, by omega, by rw [HNX.out]; first | rfl | go_num, by first | rfl | go_num, by first | trivial | rfl⟩
        case measure => simp [vN]; omega
      · have u3 : ((d m : Int) != 0) = false := by rw [bne_eq_false_iff_eq]; omega
        rw [if_neg h0] at HNX
        generalize d m = x at d0 u3
        clear h0
        go_wp2_with fail
        go_roundw
        case rel => exact ⟨i + 1, by omega, by omega, by rw [HNX.out]; first | rfl | go_num, by first | rfl | go_num, by first | trivial | rfl⟩
        case measure => simp [vN]; omega
    · obtain rfl : i = 200 := by omega
      rw [waitTo_all]
      go_wp2_with fail
      go_ret
      exact ⟨rfl, HA.out⟩
theorem rl_set (r r2 : Nat → Nat) {n : Nat} (hn : n < 4) (i : Nat) (h1 : r2 n = i) (h2 : ∀ k, k ≠ n → r2 k = r k) : (rl r).set n (i : Int) = rl r2 := by
  refine List.ext_getElem (by simp [rl]) fun k h3 h4 => ?_
  rw [List.getElem_set]
  have hk : k < 4 := by rw [rl_len] at h4; exact h4
  by_cases e : n = k
  · subst e; rw [if_pos rfl]; simp [rl, h1]
  · rw [if_neg e]; simp [rl, h2 k (fun h => e h.symm)]
/-- The bytes of what is read. -/
def sbr (l : List Nat) : List UInt8 := l.map UInt8.ofNat
theorem txt_sb (l : List Nat) : txt l = ⟨(sbr l).toArray⟩ := rfl
theorem ofNat_small {x : Nat} (h : x < 256) : (UInt8.ofNat x).toNat = x := by simp; omega
theorem rnext_any (n : Nat) (w : World) (hn : n < 4) (H : Dm w pd cd pr cr d r) (hok : Okm d r) :
    Calls Tryd.prog 14 #[.agg #[.slice pd 800 cd, .slice pr 4 cr], .int .i64 (n : Int)] w fun e w' => ∃ g c, e = .returned (.tuple #[.agg #[.slice pd 800 cd, .slice (some ⟨g, 0, none⟩) 4 c], .string (textM d r (n : Int))]) ∧ Dm w' pd cd (some ⟨g, 0, none⟩) c d (readR d r (n : Int)) ∧ w.heap.size ≤ g ∧ g < w'.heap.size ∧ Below w.heap.size w w' := by
  have hS : isS (n : Int) := ⟨by omega, by omega⟩
  have HD := Lib.hid (fun W (hW : Below w.heap.size w W) => H.below hW)
  have HOK := Lib.hid hok
  obtain ⟨b, off, b2, off2, rfl, rfl, hc, hc2⟩ := H.cells
  obtain ⟨G, hG⟩ : ∃ G, w.heap.size = G := ⟨_, rfl⟩
  obtain ⟨w1, hw1⟩ : ∃ w1, (w.alloc (.cells #[.slice (some ⟨b, off, none⟩) 800 cd, .slice (some ⟨b2, off2, none⟩) 4 cr] 39)).alloc (.cells #[.slice none 0 0, .slice none 0 0] 39) = w1 := ⟨_, rfl⟩
  have hx1 : Blk 39 w1 G [.slice (some ⟨b, off, none⟩) 800 cd, .slice (some ⟨b2, off2, none⟩) 4 cr] := by
    rw [← hw1, ← hG]; exact (Blk.new w _ _).alloc _
  have hx2 : Blk 39 w1 (G + 1) [.slice none 0 0, .slice none 0 0] := by
    rw [← hw1, ← hG]
    have := Blk.new (w.alloc (.cells #[.slice (some ⟨b, off, none⟩) 800 cd, .slice (some ⟨b2, off2, none⟩) 4 cr] 39)) 39 [.slice none 0 0, .slice none 0 0]
    rw [show (w.alloc (.cells #[.slice (some ⟨b, off, none⟩) 800 cd, .slice (some ⟨b2, off2, none⟩) 4 cr] 39)).heap.size = w.heap.size + 1 by simp] at this
    exact this
  have hb1 : Below w.heap.size w w1 := by rw [← hw1]; exact balloc (balloc (brefl w) _) _
  have HA := Lib.hid hb1
  have HX1 := Lib.hid hx1
  have HX2 := Lib.hid hx2
  have HW1 := Lib.hid hw1
  have HG := Lib.hid hG
  obtain ⟨B, hB⟩ : ∃ B, B = 200 * n := ⟨_, rfl⟩
  have u0 : IntKind.i64.wrap (200 * (n : Int)) = (B : Int) := by rw [wrap_in (by omega)]; omega
  have hnz : (n : Int) < 4 := by omega
  have HC := Lib.hid hc
  have HC2 := Lib.hid hc2
  have HBB := Lib.hid hB
  obtain ⟨R, hR⟩ : ∃ R, r n = R := ⟨_, rfl⟩
  have HRR := Lib.hid hR
  have hr : R ≤ 200 := by rw [← hR]; exact hok.rd n
  have e1 : ((w.alloc (.cells #[.slice (some ⟨b, off, none⟩) 800 cd, .slice (some ⟨b2, off2, none⟩) 4 cr] 39)).alloc (.cells #[.slice none 0 0, .slice none 0 0] 39)).cell? ⟨b2, off2 + n, none⟩ = some (.int .i64 (R : Int)) := by rw [hw1, ← hR]; exact hc2 _ hb1 n hn
  have c0 := hx1.cell 0 _ rfl
  have c1 := hx1.cell 1 _ rfl
  have hs1 : w1.heap.size = G + 2 := by rw [← hw1, ← hG]; simp
  have HS1 := Lib.hid hs1
  clear hc hc2 H hB hR hok hx1 hx2 hb1 hw1 hG hs1
  go_enter Tryd.func14, Tryd.ntmps14
  go_wp2_with fail
  rw [HW1.out, HG.out]
  clear c0 c1 e1
  go_loopw [6, 7] (fun bv iv wr => ∃ i : Nat, R ≤ i ∧ i ≤ 200 ∧ iv = .int .i64 (i : Int) ∧ Hid (OC Part.layB 5 wr w1.heap.size bv (sbr (said d B R i))) ∧ Hid (∀ j, R ≤ j → j < i → d (B + j) ≠ 0) ∧ Hid (Below w1.heap.size w1 wr)) (fun _ i _ => 200 - vN i)
  case atStart => exact ⟨R, Nat.le_refl _, hr, rfl, Lib.hid (by rw [said_none]; exact OC.nil _ _ _ _), Lib.hid (fun j h1 h2 => by omega), Lib.hid (brefl w1)⟩
  case round =>
    obtain ⟨i, hi, hi2, rfl, HO, HF, HB⟩ := hrel
    have HBW := Lib.hid (bcall HA.out HB.out)
    have hx1 := HX1.out.below HB.out
    have c0 := hx1.cell 0 _ rfl
    have c1 := hx1.cell 1 _ rfl
    have STOP : True := trivial
    by_cases hlt : i < 200
    · have u1 : decide ((i : Int) < 200) = true := decide_eq_true (by omega)
      obtain ⟨m, hm⟩ : ∃ m, m = B + i := ⟨_, rfl⟩
      have u2 : IntKind.i64.wrap ((B : Int) + (i : Int)) = (m : Int) := by rw [wrap_in (by have := HBB.out; omega)]; omega
      have hm8 : m < 800 := by have := HBB.out; omega
      have hmz : (m : Int) < 800 := by omega
      have d0 : wr.cell? ⟨b, off + m, none⟩ = some (.int .i64 (d m : Int)) := HC.out wr HBW.out m hm8
      by_cases h0 : d m ≠ 0
      · have u3 : ((d m : Int) != 0) = true := by rw [bne_iff_ne]; omega
        have HNX := Lib.hid (said_next d B hi)
        have HF2 := Lib.hid (show ∀ j, R ≤ j → j < i + 1 → d (B + j) ≠ 0 from fun j h1 h2 => by
          by_cases e : j = i
          · rw [e, ← hm]; exact h0
          · exact HF.out j h1 (by omega))
        have h256 := HOK.out.byte m
        rw [← hm] at HNX
        obtain ⟨y, hy⟩ : ∃ y, d m = y + 1 := ⟨d m - 1, by omega⟩
        rw [hy] at d0 u3 h256
        have hyb : (UInt8.ofNat y).toNat = y := ofNat_small (by omega)
        have u4 : IntKind.i64.wrap (((y + 1 : Nat) : Int) - 1) = (y : Int) := by rw [wrap_in (by omega)]; omega
        have HU5 := Lib.hid (w64b (show y < 256 by omega))
        have HNX2 : Hid (sbr (said d B R (i + 1)) = sbr (said d B R i) ++ [UInt8.ofNat y]) := Lib.hid (by rw [HNX.out, hy]; simp [sbr])
        have HLN : Hid ((sbr (said d B R i)).length ≤ 200) := Lib.hid (by unfold sbr; rw [List.length_map, said_len]; omega)
        have henc : (Part.layB.enc (UInt8.ofNat y)).toArray = #[.int .u8 (y : Int)] := by
          show #[Value.int .u8 ((UInt8.ofNat y).toNat : Int)] = _
          rw [hyb]
        have HEN := Lib.hid henc
        generalize sbr (said d B R i) = lb at HO HNX2 HLN
        have hcast : ((y + 1 : Nat) : Int) = (y : Int) + 1 := by omega
        clear hm hm8 hy h0 HNX h256 henc hyb
        go_wp2_with (at_builtin
                     rw [HU5.out]
                     refine wp_appC Part.tyB rfl (.tmp 26) (.tmp 37) rfl w1.heap.size _ lb (some ⟨wr.heap.size, 0, none⟩) 1 1 [UInt8.ofNat y] rfl (HO.out.alloc _) rfl rfl (by have := CI.one Part.layB wr (UInt8.ofNat y) 5; rw [HEN.out] at this; exact this) (by have := HLN.out; simp; omega) (Nat.le_trans HB.out.size (by simp)) ?_
                     intro v5 w5 hown5 hg5 hat5
                     have HO5 := Lib.hid hown5
                     have HB5 := Lib.hid (below_oneC HB.out HB.out.size _ HO.out hg5)
                     clear hown5 hg5 hat5)
        go_roundw
        case rel => exact ⟨i + 1, by omega, by omega, by first | rfl | go_num, by rw [HNX2.out]; exact HO5, HF2, HB5⟩
        case measure => simp [vN]; omega
      · have u3 : ((d m : Int) != 0) = false := by rw [bne_eq_false_iff_eq]; omega
        have HFIN := Lib.hid (fin_uniq (d := d) (b := B) hr hi hi2 HF.out (.inr (by rw [← hm]; omega)))
        generalize d m = x at d0 u3
        clear hm hm8 h0
        have HOLT := Lib.hid HO.out.lt
        obtain ⟨pb, cb, rfl, hIb⟩ := HO.out.form
        have HLO : Hid (∀ a, pb = some a → G + 2 ≤ a.block) := Lib.hid (fun a ea => by
          have h1 := (HOLT.out a.block (by rw [ea]; rfl)).1
          have h2 := HS1.out
          omega)
        clear HOLT
        have HT := Lib.hid (show textM d r (n : Int) = ⟨(sbr (said d B R i)).toArray⟩ from by
          unfold textM endM
          rw [if_pos hS, Int.toNat_natCast, HRR.out, ← HBB.out, HFIN.out]
          rfl)
        have HRD := Lib.hid (show (rl r).set n (i : Int) = rl (readR d r (n : Int)) from by
          refine rl_set r _ hn _ ?_ ?_
          · unfold readR endM
            rw [if_pos hS]
            simp only [Int.toNat_natCast, if_true]
            rw [HRR.out, ← HBB.out, HFIN.out]
          · intro k hk
            unfold readR
            rw [if_pos hS]
            show (if k = (n : Int).toNat then _ else r k) = r k
            rw [if_neg (by rw [Int.toNat_natCast]; exact hk)])
        have hlb : (sbr (said d B R i)).length ≤ 200 := by unfold sbr; rw [List.length_map, said_len]; omega
        have CSET := Lib.hid (set_list (some ⟨b2, off2, none⟩) cr 4 (rl r) n (i : Int) wr (rl_len r).symm (HD.out wr HBW.out).r (by rw [rl_len]; omega) hn (wf_in (by omega)))
        rw [HRD.out] at CSET
        have hlen9 : (sbr (said d B R i)).length ≤ 9223372036854775807 := by omega
        generalize sbr (said d B R i) = lb at HO hIb HT hlb hlen9
        clear HF HFIN HRD
        go_wp2_with fail
        refine CSET.out.mono ?_; rintro e w5 ⟨g5, c5, rfl, ho5, hg5, hb5⟩
        have hx15 := HX1.out.below (bcall HB.out hb5)
        have hx25 := HX2.out.below (bcall HB.out hb5)
        have c50 := hx15.cell 0 _ rfl
        have c51 := hx15.cell 1 _ rfl
        have f51 := hx15.fz 1
        clear CSET c0 c1
        go_wp2_with fail
        have HX16 := Lib.hid (hx15.set 1 (.slice (some ⟨g5, 0, none⟩) 4 c5))
        have HX26 := Lib.hid (hx25.other G 1 (.slice (some ⟨g5, 0, none⟩) 4 c5) (by omega))
        have HGW : Hid (w.heap.size ≤ G) := Lib.hid (Nat.le_of_eq HG.out)
        have HB6 := Lib.hid (below_set (bcall HBW.out hb5) G 1 (.slice (some ⟨g5, 0, none⟩) 4 c5) HGW.out)
        have hg5G : G + 2 ≤ g5 := by have h1 := HB.out.size; have h2 := HS1.out; omega
        have ho6 := ho5.more (set_grown w5 G 1 (.slice (some ⟨g5, 0, none⟩) 4 c5)) (.inr (fun e => by
          have e2 : some g5 = some G := e
          injection e2 with e2
          omega))
        have HO6 := Lib.hid ho6
        clear ho6
        have HI6 := Lib.hid (show CI Part.layB (w5.setCell ⟨G, 1, none⟩ (.slice (some ⟨g5, 0, none⟩) 4 c5)) pb cb lb from ((hIb.below hb5).keep (by simp [World.setCell]) (fun a ea hl => (set_grown w5 G 1 (.slice (some ⟨g5, 0, none⟩) 4 c5)).block _ hl (fun e2 => by
          have := HLO.out a ea
          injection e2 with e2
          omega))))
        clear ho5 hb5 hx15 hx25 hIb c50 c51 f51 HO HB HBW
        generalize w5.setCell ⟨G, 1, none⟩ (.slice (some ⟨g5, 0, none⟩) 4 c5) = w6 at HX16 HX26 HB6 HO6 HI6 ⊢
        have a0 := HX16.out.cell 0 _ rfl
        have a1 := HX16.out.cell 1 _ rfl
        have z0 := HX26.out.cell 0 _ rfl
        have z1 := HX26.out.cell 1 _ rfl
        have f0 := HX26.out.fz 0
        have f1 := HX26.out.fz 1
        refine wp_region_held_drew (S := (fun W' => W'.cell? ⟨G, 0, none⟩ = some (.slice (some ⟨b, off, none⟩) 800 cd) ∧ W'.cell? ⟨G, 1, none⟩ = some (.slice (some ⟨g5, 0, none⟩) 4 c5) ∧ CI Part.layB W' pb cb lb)) (by kernel_rfl) ⟨a0, a1, HI6.out⟩ (fun hHeld => ?_)
        refine wpAnyH_take (i := 0) (oi := ⟨some 47, _, _, _, _, _⟩) (v := ?vm10) rfl (by kernel_rfl) (by kernel_rfl) (by kernel_rfl) (fun _ _ _ h => h) (Or.inl ⟨by rfl, ?hym10⟩) hHeld ?restm10
        case hym10 => (intro W hSw; (try dsimp only at hSw); (try obtain ⟨hSw1, hSw2⟩ := hSw); (try obtain ⟨hSw2, hSw3⟩ := hSw2); go_simp; first | done | with_reducible rfl)
        simp only [Act.put, List.setIfInBounds_toArray, List.set_cons_zero, List.set_cons_succ]
        refine wpAnyH_take (i := 1) (oi := ⟨some 48, _, _, _, _, _⟩) (v := ?vm11) rfl (by kernel_rfl) (by kernel_rfl) (by kernel_rfl) (fun _ _ _ h => h) (Or.inl ⟨by rfl, ?hym11⟩) hHeld ?restm11
        case hym11 => (intro W hSw; (try dsimp only at hSw); (try obtain ⟨hSw1, hSw2⟩ := hSw); (try obtain ⟨hSw2, hSw3⟩ := hSw2); go_simp; first | done | with_reducible rfl)
        simp only [Act.put, List.setIfInBounds_toArray, List.set_cons_zero, List.set_cons_succ]
        refine wpAnyH_take (i := 2) (oi := ⟨some 49, _, _, _, _, _⟩) (v := ?vm12) rfl (by kernel_rfl) (by kernel_rfl) (by kernel_rfl) (fun _ _ _ h => h) (Or.inl ⟨by rfl, ?hym12⟩) hHeld ?restm12
        case hym12 => (intro W hSw; (try dsimp only at hSw); (try obtain ⟨hSw1, hSw2⟩ := hSw); (try obtain ⟨hSw2, hSw3⟩ := hSw2); have hSw4 := Part.to_text hSw3; go_simp; first | done | with_reducible rfl)
        simp only [Act.put, List.setIfInBounds_toArray, List.set_cons_zero, List.set_cons_succ]
        refine wpAnyH_ready (rs := [3]) (by kernel_rfl) (by simp) ?_
        refine AllReadyH.cons (o := ⟨none, _, _, _, _, _⟩) rfl (fun KK hK => ?_) AllReadyH.nil
        have zz0 : w6.drew.cell? ⟨G + 1, 0, none⟩ = some (.slice none 0 0) := z0
        have zz1 : w6.drew.cell? ⟨G + 1, 1, none⟩ = some (.slice none 0 0) := z1
        have ff0 : w6.drew.frozen? ⟨G + 1, 0, none⟩ = false := f0
        have ff1 : w6.drew.frozen? ⟨G + 1, 1, none⟩ = false := f1
        go_simp
        have hne : ∀ a, pb = some a → a.block ≠ G + 1 := fun a ea => by have := HLO.out a ea; omega
        have hg5n : ∀ e : (Value.slice (some ⟨g5, 0, none⟩) 4 c5).ownBlock = some (G + 1), False := fun e => by
          have e2 : some g5 = some (G + 1) := e
          injection e2 with e2
          omega
        have hx16 := (HX16.out.other (G + 1) 0 (.slice (some ⟨b, off, none⟩) 800 cd) (by omega)).other (G + 1) 1 (.slice (some ⟨g5, 0, none⟩) 4 c5) (by omega)
        have hx27 := (HX26.out.set 0 (.slice (some ⟨b, off, none⟩) 800 cd)).set 1 (.slice (some ⟨g5, 0, none⟩) 4 c5)
        have hci := (HI6.out.keep (w' := w6.setCell ⟨G + 1, 0, none⟩ (.slice (some ⟨b, off, none⟩) 800 cd)) (by simp [World.setCell]) (fun a ea hl => (set_grown w6 (G + 1) 0 _).block _ hl (fun e2 => hne a ea (Option.some.inj e2)))).keep (w' := (w6.setCell ⟨G + 1, 0, none⟩ (.slice (some ⟨b, off, none⟩) 800 cd)).setCell ⟨G + 1, 1, none⟩ (.slice (some ⟨g5, 0, none⟩) 4 c5)) (by simp [World.setCell]) (fun a ea hl => (set_grown _ (G + 1) 1 _).block _ hl (fun e2 => hne a ea (Option.some.inj e2)))
        have ho7 := (HO6.out.more (set_grown w6 (G + 1) 0 (.slice (some ⟨b, off, none⟩) 800 cd)) (.inr hg5n)).more (set_grown _ (G + 1) 1 (.slice (some ⟨g5, 0, none⟩) 4 c5)) (.inr hg5n)
        have hb7 := bdrewN (below_set (below_set HB6.out (G + 1) 0 (.slice (some ⟨b, off, none⟩) 800 cd) (Nat.le_succ_of_le HGW.out)) (G + 1) 1 (.slice (some ⟨g5, 0, none⟩) 4 c5) (Nat.le_succ_of_le HGW.out)) 1
        refine hK.out _ _ (⟨hx16.cell 0 _ rfl, hx16.cell 1 _ rfl, hci⟩) (fun hHeld2 => ?_)
        clear hK KK
        try simp only [Act.put, List.setIfInBounds_toArray, List.set_cons_zero, List.set_cons_succ]
        refine wpAnyH_take (i := 4) (oi := ⟨some 5, _, _, _, _, _⟩) (v := ?vn14) rfl (by kernel_rfl) (by kernel_rfl) (by kernel_rfl) (fun _ _ _ h => h) (Or.inl ⟨by rfl, ?hyn14⟩) hHeld2 ?restn14
        case hyn14 => (intro W hSw; (try dsimp only at hSw); (try obtain ⟨hSw1, hSw2⟩ := hSw); (try obtain ⟨hSw2, hSw3⟩ := hSw2); go_simp; first | done | with_reducible rfl)
        simp only [Act.put, List.setIfInBounds_toArray, List.set_cons_zero, List.set_cons_succ]
        refine wpAnyH_done (by kernel_rfl) ?_ _
        have hdm := HD.out _ hb7
        obtain ⟨q7, c7, j7, hI7, hA7⟩ := own_read ho7
        injection j7 with j7 j8 j9
        clear j8
        subst j7; subst j9
        clear z0 z1 f0 f1 zz0 zz1 ff0 ff1 a0 a1 hHeld hHeld2
        go_wp2_with fail
        exact bodyPost_ret (results_twot rfl Tryd.isAgg39 Tryd.sizeOf39 _ _ (G + 1) rfl _ _ (hx27.cell 0 _ rfl) (hx27.cell 1 _ rfl)) rfl ⟨g5, c5, by rw [HT.out]; rfl, ⟨hdm.d, hI7⟩, by have := HGW.out; omega, (hA7 _ rfl).2.1, hb7⟩
    · have h200 : i = 200 := by omega
      have HFIN := Lib.hid (fin_uniq (d := d) (b := B) hr hi hi2 HF.out (.inl h200))
      have u1 : decide ((i : Int) < 200) = false := decide_eq_false (by omega)
      clear h200
      have HOLT := Lib.hid HO.out.lt
      obtain ⟨pb, cb, rfl, hIb⟩ := HO.out.form
      have HLO : Hid (∀ a, pb = some a → G + 2 ≤ a.block) := Lib.hid (fun a ea => by
        have h1 := (HOLT.out a.block (by rw [ea]; rfl)).1
        have h2 := HS1.out
        omega)
      clear HOLT
      have HT := Lib.hid (show textM d r (n : Int) = ⟨(sbr (said d B R i)).toArray⟩ from by
        unfold textM endM
        rw [if_pos hS, Int.toNat_natCast, HRR.out, ← HBB.out, HFIN.out]
        rfl)
      have HRD := Lib.hid (show (rl r).set n (i : Int) = rl (readR d r (n : Int)) from by
        refine rl_set r _ hn _ ?_ ?_
        · unfold readR endM
          rw [if_pos hS]
          simp only [Int.toNat_natCast, if_true]
          rw [HRR.out, ← HBB.out, HFIN.out]
        · intro k hk
          unfold readR
          rw [if_pos hS]
          show (if k = (n : Int).toNat then _ else r k) = r k
          rw [if_neg (by rw [Int.toNat_natCast]; exact hk)])
      have hlb : (sbr (said d B R i)).length ≤ 200 := by unfold sbr; rw [List.length_map, said_len]; omega
      have CSET := Lib.hid (set_list (some ⟨b2, off2, none⟩) cr 4 (rl r) n (i : Int) wr (rl_len r).symm (HD.out wr HBW.out).r (by rw [rl_len]; omega) hn (wf_in (by omega)))
      rw [HRD.out] at CSET
      have hlen9 : (sbr (said d B R i)).length ≤ 9223372036854775807 := by omega
      generalize sbr (said d B R i) = lb at HO hIb HT hlb hlen9
      clear HF HFIN HRD
      go_wp2_with fail
      refine CSET.out.mono ?_; rintro e w5 ⟨g5, c5, rfl, ho5, hg5, hb5⟩
      have hx15 := HX1.out.below (bcall HB.out hb5)
      have hx25 := HX2.out.below (bcall HB.out hb5)
      have c50 := hx15.cell 0 _ rfl
      have c51 := hx15.cell 1 _ rfl
      have f51 := hx15.fz 1
      clear CSET c0 c1
      go_wp2_with fail
      have HX16 := Lib.hid (hx15.set 1 (.slice (some ⟨g5, 0, none⟩) 4 c5))
      have HX26 := Lib.hid (hx25.other G 1 (.slice (some ⟨g5, 0, none⟩) 4 c5) (by omega))
      have HGW : Hid (w.heap.size ≤ G) := Lib.hid (Nat.le_of_eq HG.out)
      have HB6 := Lib.hid (below_set (bcall HBW.out hb5) G 1 (.slice (some ⟨g5, 0, none⟩) 4 c5) HGW.out)
      have hg5G : G + 2 ≤ g5 := by have h1 := HB.out.size; have h2 := HS1.out; omega
      have ho6 := ho5.more (set_grown w5 G 1 (.slice (some ⟨g5, 0, none⟩) 4 c5)) (.inr (fun e => by
        have e2 : some g5 = some G := e
        injection e2 with e2
        omega))
      have HO6 := Lib.hid ho6
      clear ho6
      have HI6 := Lib.hid (show CI Part.layB (w5.setCell ⟨G, 1, none⟩ (.slice (some ⟨g5, 0, none⟩) 4 c5)) pb cb lb from ((hIb.below hb5).keep (by simp [World.setCell]) (fun a ea hl => (set_grown w5 G 1 (.slice (some ⟨g5, 0, none⟩) 4 c5)).block _ hl (fun e2 => by
        have := HLO.out a ea
        injection e2 with e2
        omega))))
      clear ho5 hb5 hx15 hx25 hIb c50 c51 f51 HO HB HBW
      generalize w5.setCell ⟨G, 1, none⟩ (.slice (some ⟨g5, 0, none⟩) 4 c5) = w6 at HX16 HX26 HB6 HO6 HI6 ⊢
      have a0 := HX16.out.cell 0 _ rfl
      have a1 := HX16.out.cell 1 _ rfl
      have z0 := HX26.out.cell 0 _ rfl
      have z1 := HX26.out.cell 1 _ rfl
      have f0 := HX26.out.fz 0
      have f1 := HX26.out.fz 1
      refine wp_region_held_drew (S := (fun W' => W'.cell? ⟨G, 0, none⟩ = some (.slice (some ⟨b, off, none⟩) 800 cd) ∧ W'.cell? ⟨G, 1, none⟩ = some (.slice (some ⟨g5, 0, none⟩) 4 c5) ∧ CI Part.layB W' pb cb lb)) (by kernel_rfl) ⟨a0, a1, HI6.out⟩ (fun hHeld => ?_)
      refine wpAnyH_take (i := 0) (oi := ⟨some 47, _, _, _, _, _⟩) (v := ?vm20) rfl (by kernel_rfl) (by kernel_rfl) (by kernel_rfl) (fun _ _ _ h => h) (Or.inl ⟨by rfl, ?hym20⟩) hHeld ?restm20
      case hym20 => (intro W hSw; (try dsimp only at hSw); (try obtain ⟨hSw1, hSw2⟩ := hSw); (try obtain ⟨hSw2, hSw3⟩ := hSw2); go_simp; first | done | with_reducible rfl)
      simp only [Act.put, List.setIfInBounds_toArray, List.set_cons_zero, List.set_cons_succ]
      refine wpAnyH_take (i := 1) (oi := ⟨some 48, _, _, _, _, _⟩) (v := ?vm21) rfl (by kernel_rfl) (by kernel_rfl) (by kernel_rfl) (fun _ _ _ h => h) (Or.inl ⟨by rfl, ?hym21⟩) hHeld ?restm21
      case hym21 => (intro W hSw; (try dsimp only at hSw); (try obtain ⟨hSw1, hSw2⟩ := hSw); (try obtain ⟨hSw2, hSw3⟩ := hSw2); go_simp; first | done | with_reducible rfl)
      simp only [Act.put, List.setIfInBounds_toArray, List.set_cons_zero, List.set_cons_succ]
      refine wpAnyH_take (i := 2) (oi := ⟨some 49, _, _, _, _, _⟩) (v := ?vm22) rfl (by kernel_rfl) (by kernel_rfl) (by kernel_rfl) (fun _ _ _ h => h) (Or.inl ⟨by rfl, ?hym22⟩) hHeld ?restm22
      case hym22 => (intro W hSw; (try dsimp only at hSw); (try obtain ⟨hSw1, hSw2⟩ := hSw); (try obtain ⟨hSw2, hSw3⟩ := hSw2); have hSw4 := Part.to_text hSw3; go_simp; first | done | with_reducible rfl)
      simp only [Act.put, List.setIfInBounds_toArray, List.set_cons_zero, List.set_cons_succ]
      refine wpAnyH_ready (rs := [3]) (by kernel_rfl) (by simp) ?_
      refine AllReadyH.cons (o := ⟨none, _, _, _, _, _⟩) rfl (fun KK hK => ?_) AllReadyH.nil
      have zz0 : w6.drew.cell? ⟨G + 1, 0, none⟩ = some (.slice none 0 0) := z0
      have zz1 : w6.drew.cell? ⟨G + 1, 1, none⟩ = some (.slice none 0 0) := z1
      have ff0 : w6.drew.frozen? ⟨G + 1, 0, none⟩ = false := f0
      have ff1 : w6.drew.frozen? ⟨G + 1, 1, none⟩ = false := f1
      go_simp
      have hne : ∀ a, pb = some a → a.block ≠ G + 1 := fun a ea => by have := HLO.out a ea; omega
      have hg5n : ∀ e : (Value.slice (some ⟨g5, 0, none⟩) 4 c5).ownBlock = some (G + 1), False := fun e => by
        have e2 : some g5 = some (G + 1) := e
        injection e2 with e2
        omega
      have hx16 := (HX16.out.other (G + 1) 0 (.slice (some ⟨b, off, none⟩) 800 cd) (by omega)).other (G + 1) 1 (.slice (some ⟨g5, 0, none⟩) 4 c5) (by omega)
      have hx27 := (HX26.out.set 0 (.slice (some ⟨b, off, none⟩) 800 cd)).set 1 (.slice (some ⟨g5, 0, none⟩) 4 c5)
      have hci := (HI6.out.keep (w' := w6.setCell ⟨G + 1, 0, none⟩ (.slice (some ⟨b, off, none⟩) 800 cd)) (by simp [World.setCell]) (fun a ea hl => (set_grown w6 (G + 1) 0 _).block _ hl (fun e2 => hne a ea (Option.some.inj e2)))).keep (w' := (w6.setCell ⟨G + 1, 0, none⟩ (.slice (some ⟨b, off, none⟩) 800 cd)).setCell ⟨G + 1, 1, none⟩ (.slice (some ⟨g5, 0, none⟩) 4 c5)) (by simp [World.setCell]) (fun a ea hl => (set_grown _ (G + 1) 1 _).block _ hl (fun e2 => hne a ea (Option.some.inj e2)))
      have ho7 := (HO6.out.more (set_grown w6 (G + 1) 0 (.slice (some ⟨b, off, none⟩) 800 cd)) (.inr hg5n)).more (set_grown _ (G + 1) 1 (.slice (some ⟨g5, 0, none⟩) 4 c5)) (.inr hg5n)
      have hb7 := bdrewN (below_set (below_set HB6.out (G + 1) 0 (.slice (some ⟨b, off, none⟩) 800 cd) (Nat.le_succ_of_le HGW.out)) (G + 1) 1 (.slice (some ⟨g5, 0, none⟩) 4 c5) (Nat.le_succ_of_le HGW.out)) 1
      refine hK.out _ _ (⟨hx16.cell 0 _ rfl, hx16.cell 1 _ rfl, hci⟩) (fun hHeld2 => ?_)
      clear hK KK
      try simp only [Act.put, List.setIfInBounds_toArray, List.set_cons_zero, List.set_cons_succ]
      refine wpAnyH_take (i := 4) (oi := ⟨some 5, _, _, _, _, _⟩) (v := ?vn24) rfl (by kernel_rfl) (by kernel_rfl) (by kernel_rfl) (fun _ _ _ h => h) (Or.inl ⟨by rfl, ?hyn24⟩) hHeld2 ?restn24
      case hyn24 => (intro W hSw; (try dsimp only at hSw); (try obtain ⟨hSw1, hSw2⟩ := hSw); (try obtain ⟨hSw2, hSw3⟩ := hSw2); go_simp; first | done | with_reducible rfl)
      simp only [Act.put, List.setIfInBounds_toArray, List.set_cons_zero, List.set_cons_succ]
      refine wpAnyH_done (by kernel_rfl) ?_ _
      have hdm := HD.out _ hb7
      obtain ⟨q7, c7, j7, hI7, hA7⟩ := own_read ho7
      injection j7 with j7 j8 j9
      clear j8
      subst j7; subst j9
      clear z0 z1 f0 f1 zz0 zz1 ff0 ff1 a0 a1 hHeld hHeld2
      go_wp2_with fail
      exact bodyPost_ret (results_twot rfl Tryd.isAgg39 Tryd.sizeOf39 _ _ (G + 1) rfl _ _ (hx27.cell 0 _ rfl) (hx27.cell 1 _ rfl)) rfl ⟨g5, c5, by rw [HT.out]; rfl, ⟨hdm.d, hI7⟩, by have := HGW.out; omega, (hA7 _ rfl).2.1, hb7⟩
theorem dl_set (d d2 : Nat → Nat) {m : Nat} (hm : m < 800) (x : Nat) (h1 : d2 m = x) (h2 : ∀ j, j ≠ m → d2 j = d j) : (dl d ++ [0]).set m (x : Int) = dl d2 ++ [0] := by
  rw [List.set_append_left _ _ (by rw [dl_len]; exact hm)]
  congr 1
  refine List.ext_getElem (by simp [dl]) fun k h3 h4 => ?_
  rw [List.getElem_set]
  by_cases e : m = k
  · subst e; rw [if_pos rfl]; simp [dl, h1]
  · rw [if_neg e]; simp [dl, h2 k (fun h => e h.symm)]
theorem rin_any (n a b : Int) (w : World) (R : Bool) (hR : R = (decide (a ≤ n) && decide (n ≤ b))) : Calls Tryd.prog 20 #[.int .i64 n, .int .i64 a, .int .i64 b] w fun e w' => e = .returned (.bool R) ∧ w' = w := by
  subst hR
  by_cases h1 : a ≤ n
  · have t1 : decide (a ≤ n) = true := decide_eq_true h1
    go_enter Tryd.func20, Tryd.ntmps20
    go_wp2_with fail
    go_ret
    exact ⟨by rw [t1]; simp, rfl⟩
  · have t1 : decide (a ≤ n) = false := decide_eq_false h1
    go_enter Tryd.func20, Tryd.ntmps20
    go_wp2_with fail
    go_ret
    exact ⟨rfl, rfl⟩
/-- What the document's Put answers. -/
def MputP (pd pr : Option Addr) (cr : Nat) (d r : Nat → Nat) (f : Frm) (w : World) (e : Ending) (w' : World) : Prop :=
  ∃ pd' cd', e = .returned (.tuple #[.agg #[.slice pd' 800 cd', .slice pr 4 cr], .int .i64 (codeM d f)]) ∧ Dm w' pd' cd' pr cr (putM d f) r ∧ (∀ a, pd' = some a → pd = some a ∨ (w.heap.size ≤ a.block ∧ a.block < w'.heap.size)) ∧ Below w.heap.size w w'
theorem rput_range (f : Frm) (w : World) (H : Dm w pd cd pr cr d r) (hok : Okm d r) (hsz : f.dat.size ≤ maxLen) (hx : ¬ (isS f.st ∧ isAt f.pos)) :
    Calls Tryd.prog 13 #[.agg #[.slice pd 800 cd, .slice pr 4 cr], .agg #[.int .i64 f.st, .int .i64 f.pos, .string f.dat]] w fun e w' => MputP pd pr cr d r f w e w' := by
  obtain ⟨st, pos, s⟩ := f
  have HD := Lib.hid (fun W (hW : Below w.heap.size w W) => H.below hW)
  obtain ⟨G, hG⟩ : ∃ G, w.heap.size = G := ⟨_, rfl⟩
  obtain ⟨w3, h3⟩ : ∃ w3, ((w.alloc (.cells #[.slice pd 800 cd, .slice pr 4 cr] 39)).alloc (.cells #[.int .i64 st, .int .i64 pos, .string s] 24)).alloc (.cells #[.slice none 0 0, .slice none 0 0] 39) = w3 := ⟨_, rfl⟩
  have hx1 : Blk 39 w3 G [.slice pd 800 cd, .slice pr 4 cr] := by
    rw [← h3, ← hG]; exact ((Blk.new w _ _).alloc _).alloc _
  have hx2 : Blk 24 w3 (G + 1) [.int .i64 st, .int .i64 pos, .string s] := by
    rw [← h3, ← hG]
    have := (Blk.new (w.alloc (.cells #[.slice pd 800 cd, .slice pr 4 cr] 39)) 24 [.int .i64 st, .int .i64 pos, .string s]).alloc (.cells #[.slice none 0 0, .slice none 0 0] 39)
    rw [show (w.alloc (.cells #[.slice pd 800 cd, .slice pr 4 cr] 39)).heap.size = w.heap.size + 1 by simp] at this
    exact this
  have hx3 : Blk 39 w3 (G + 1 + 1) [.slice none 0 0, .slice none 0 0] := by
    rw [← h3, ← hG]
    have := Blk.new ((w.alloc (.cells #[.slice pd 800 cd, .slice pr 4 cr] 39)).alloc (.cells #[.int .i64 st, .int .i64 pos, .string s] 24)) 39 [.slice none 0 0, .slice none 0 0]
    rw [show ((w.alloc (.cells #[.slice pd 800 cd, .slice pr 4 cr] 39)).alloc (.cells #[.int .i64 st, .int .i64 pos, .string s] 24)).heap.size = w.heap.size + 2 by simp] at this
    exact this
  have hb3 : Below w.heap.size w w3 := by rw [← h3]; exact balloc (balloc (balloc (brefl w) _) _) _
  have HS3 := Lib.hid (show w3.heap.size = G + 3 by rw [← h3, ← hG]; simp)
  have HX1 := Lib.hid hx1
  have HX2 := Lib.hid hx2
  have HX3 := Lib.hid hx3
  have HB3 := Lib.hid hb3
  have HG := Lib.hid hG
  have HGW : Hid (w.heap.size ≤ G) := Lib.hid (Nat.le_of_eq hG)
  have H3 := Lib.hid h3
  have HOK := Lib.hid hok
  clear H hok hG h3 hx1 hx2 hx3 hb3
  have HBE := HB3
  have HCO := Lib.hid (show codeM d ⟨st, pos, s⟩ = 1 by unfold codeM; rw [if_neg hx])
  by_cases hs : isS st
  · have I1 := Lib.hid (fun W => rin_any st 0 3 W true (in_true hs))
    have I2 := Lib.hid (fun W => rin_any pos 0 200 W false (in_false (fun hp => hx ⟨hs, hp⟩)))
    clear hx hs
    go_enter Tryd.func13, Tryd.ntmps13
    go_wp2_with fail
    rw [H3.out, HG.out]
    have c0 := HX1.out.cell 0 _ rfl
    have c1 := HX1.out.cell 1 _ rfl
    have k0 := HX1.out.fz 0
    have d0 := HX2.out.cell 0 _ rfl
    have d1 := HX2.out.cell 1 _ rfl
    have d2 := HX2.out.cell 2 _ rfl
    have e0 := HX3.out.cell 0 _ rfl
    have e1 := HX3.out.cell 1 _ rfl
    have f0 := HX3.out.fz 0
    have f1 := HX3.out.fz 1
    go_wp2_with fail
    refine (I1.out _).mono ?_; rintro e w4 ⟨rfl, hw4⟩
    rw [hw4]
    clear hw4 w4
    go_wp2_with fail
    refine (I2.out _).mono ?_; rintro e w4 ⟨rfl, hw4⟩
    rw [hw4]
    clear hw4 w4
    go_wp2_with fail
    have HE := Lib.hid ((HX3.out.set 0 (.slice pd 800 cd)).set 1 (.slice pr 4 cr))
    have hbe := below_set (below_set HBE.out (G + 1 + 1) 0 (.slice pd 800 cd) (by have := HGW.out; omega)) (G + 1 + 1) 1 (.slice pr 4 cr) (by have := HGW.out; omega)
    have hne := HCO.out
    exact bodyPost_ret (results_twot rfl Tryd.isAgg39 Tryd.sizeOf39 _ _ (G + 1 + 1) rfl _ _ (HE.out.cell 0 _ rfl) (HE.out.cell 1 _ rfl)) rfl
      ⟨pd, cd, by rw [hne]; rfl, by unfold putM; rw [hne, if_neg (by decide)]; exact HD.out _ hbe, fun a e => .inl e, hbe⟩
  · have I1 := Lib.hid (fun W => rin_any st 0 3 W false (in_false hs))
    clear hx hs
    go_enter Tryd.func13, Tryd.ntmps13
    go_wp2_with fail
    rw [H3.out, HG.out]
    have c0 := HX1.out.cell 0 _ rfl
    have c1 := HX1.out.cell 1 _ rfl
    have k0 := HX1.out.fz 0
    have d0 := HX2.out.cell 0 _ rfl
    have d1 := HX2.out.cell 1 _ rfl
    have d2 := HX2.out.cell 2 _ rfl
    have e0 := HX3.out.cell 0 _ rfl
    have e1 := HX3.out.cell 1 _ rfl
    have f0 := HX3.out.fz 0
    have f1 := HX3.out.fz 1
    go_wp2_with fail
    refine (I1.out _).mono ?_; rintro e w4 ⟨rfl, hw4⟩
    rw [hw4]
    clear hw4 w4
    go_wp2_with fail
    have HE := Lib.hid ((HX3.out.set 0 (.slice pd 800 cd)).set 1 (.slice pr 4 cr))
    have hbe := below_set (below_set HBE.out (G + 1 + 1) 0 (.slice pd 800 cd) (by have := HGW.out; omega)) (G + 1 + 1) 1 (.slice pr 4 cr) (by have := HGW.out; omega)
    have hne := HCO.out
    exact bodyPost_ret (results_twot rfl Tryd.isAgg39 Tryd.sizeOf39 _ _ (G + 1 + 1) rfl _ _ (HE.out.cell 0 _ rfl) (HE.out.cell 1 _ rfl)) rfl
      ⟨pd, cd, by rw [hne]; rfl, by unfold putM; rw [hne, if_neg (by decide)]; exact HD.out _ hbe, fun a e => .inl e, hbe⟩
theorem rput_full (f : Frm) (w : World) (H : Dm w pd cd pr cr d r) (hok : Okm d r) (hsz : f.dat.size ≤ maxLen) (hx : isS f.st ∧ isAt f.pos) (hf : 200 - f.pos < (f.dat.size : Int)) :
    Calls Tryd.prog 13 #[.agg #[.slice pd 800 cd, .slice pr 4 cr], .agg #[.int .i64 f.st, .int .i64 f.pos, .string f.dat]] w fun e w' => MputP pd pr cr d r f w e w' := by
  obtain ⟨st, pos, s⟩ := f
  have HD := Lib.hid (fun W (hW : Below w.heap.size w W) => H.below hW)
  obtain ⟨G, hG⟩ : ∃ G, w.heap.size = G := ⟨_, rfl⟩
  obtain ⟨w3, h3⟩ : ∃ w3, ((w.alloc (.cells #[.slice pd 800 cd, .slice pr 4 cr] 39)).alloc (.cells #[.int .i64 st, .int .i64 pos, .string s] 24)).alloc (.cells #[.slice none 0 0, .slice none 0 0] 39) = w3 := ⟨_, rfl⟩
  have hx1 : Blk 39 w3 G [.slice pd 800 cd, .slice pr 4 cr] := by
    rw [← h3, ← hG]; exact ((Blk.new w _ _).alloc _).alloc _
  have hx2 : Blk 24 w3 (G + 1) [.int .i64 st, .int .i64 pos, .string s] := by
    rw [← h3, ← hG]
    have := (Blk.new (w.alloc (.cells #[.slice pd 800 cd, .slice pr 4 cr] 39)) 24 [.int .i64 st, .int .i64 pos, .string s]).alloc (.cells #[.slice none 0 0, .slice none 0 0] 39)
    rw [show (w.alloc (.cells #[.slice pd 800 cd, .slice pr 4 cr] 39)).heap.size = w.heap.size + 1 by simp] at this
    exact this
  have hx3 : Blk 39 w3 (G + 1 + 1) [.slice none 0 0, .slice none 0 0] := by
    rw [← h3, ← hG]
    have := Blk.new ((w.alloc (.cells #[.slice pd 800 cd, .slice pr 4 cr] 39)).alloc (.cells #[.int .i64 st, .int .i64 pos, .string s] 24)) 39 [.slice none 0 0, .slice none 0 0]
    rw [show ((w.alloc (.cells #[.slice pd 800 cd, .slice pr 4 cr] 39)).alloc (.cells #[.int .i64 st, .int .i64 pos, .string s] 24)).heap.size = w.heap.size + 2 by simp] at this
    exact this
  have hb3 : Below w.heap.size w w3 := by rw [← h3]; exact balloc (balloc (balloc (brefl w) _) _) _
  have HS3 := Lib.hid (show w3.heap.size = G + 3 by rw [← h3, ← hG]; simp)
  have HX1 := Lib.hid hx1
  have HX2 := Lib.hid hx2
  have HX3 := Lib.hid hx3
  have HB3 := Lib.hid hb3
  have HG := Lib.hid hG
  have HGW : Hid (w.heap.size ≤ G) := Lib.hid (Nat.le_of_eq hG)
  have H3 := Lib.hid h3
  have HOK := Lib.hid hok
  clear H hok hG h3 hx1 hx2 hx3 hb3
  have HBE := HB3
  have HCO := Lib.hid (show codeM d ⟨st, pos, s⟩ = 4 by unfold codeM; rw [if_pos hx, if_pos hf])
  have hx : isS st ∧ isAt pos := hx
  have I1 := Lib.hid (fun W => rin_any st 0 3 W true (in_true hx.1))
  have I2 := Lib.hid (fun W => rin_any pos 0 200 W true (in_true hx.2))
  have u0 : IntKind.i64.wrap (200 - pos) = 200 - pos := wrap_in (by have := hx.2.1; have := hx.2.2; omega)
  simp only at hf
  have t1 : decide (200 - pos < (s.size : Int)) = true := decide_eq_true hf
  have t2 : decide ((s.size : Int) > 200 - pos) = true := t1
  clear hx hf
  go_enter Tryd.func13, Tryd.ntmps13
  go_wp2_with fail
  rw [H3.out, HG.out]
  have c0 := HX1.out.cell 0 _ rfl
  have c1 := HX1.out.cell 1 _ rfl
  have k0 := HX1.out.fz 0
  have d0 := HX2.out.cell 0 _ rfl
  have d1 := HX2.out.cell 1 _ rfl
  have d2 := HX2.out.cell 2 _ rfl
  have e0 := HX3.out.cell 0 _ rfl
  have e1 := HX3.out.cell 1 _ rfl
  have f0 := HX3.out.fz 0
  have f1 := HX3.out.fz 1
  go_wp2_with fail
  refine (I1.out _).mono ?_; rintro e w4 ⟨rfl, hw4⟩
  rw [hw4]
  clear hw4 w4
  go_wp2_with fail
  refine (I2.out _).mono ?_; rintro e w4 ⟨rfl, hw4⟩
  rw [hw4]
  clear hw4 w4
  go_wp2_with fail
  have HE := Lib.hid ((HX3.out.set 0 (.slice pd 800 cd)).set 1 (.slice pr 4 cr))
  have hbe := below_set (below_set HBE.out (G + 1 + 1) 0 (.slice pd 800 cd) (by have := HGW.out; omega)) (G + 1 + 1) 1 (.slice pr 4 cr) (by have := HGW.out; omega)
  have hne := HCO.out
  exact bodyPost_ret (results_twot rfl Tryd.isAgg39 Tryd.sizeOf39 _ _ (G + 1 + 1) rfl _ _ (HE.out.cell 0 _ rfl) (HE.out.cell 1 _ rfl)) rfl
    ⟨pd, cd, by rw [hne]; rfl, by unfold putM; rw [hne, if_neg (by decide)]; exact HD.out _ hbe, fun a e => .inl e, hbe⟩
theorem rput_in (f : Frm) (w : World) (H : Dm w pd cd pr cr d r) (hok : Okm d r) (hsz : f.dat.size ≤ maxLen) (hx : isS f.st ∧ isAt f.pos) (hf : (f.dat.size : Int) ≤ 200 - f.pos) :
    Calls Tryd.prog 13 #[.agg #[.slice pd 800 cd, .slice pr 4 cr], .agg #[.int .i64 f.st, .int .i64 f.pos, .string f.dat]] w fun e w' => MputP pd pr cr d r f w e w' := by
  obtain ⟨st, pos, s⟩ := f
  have HD := Lib.hid (fun W (hW : Below w.heap.size w W) => H.below hW)
  obtain ⟨G, hG⟩ : ∃ G, w.heap.size = G := ⟨_, rfl⟩
  obtain ⟨w3, h3⟩ : ∃ w3, ((w.alloc (.cells #[.slice pd 800 cd, .slice pr 4 cr] 39)).alloc (.cells #[.int .i64 st, .int .i64 pos, .string s] 24)).alloc (.cells #[.slice none 0 0, .slice none 0 0] 39) = w3 := ⟨_, rfl⟩
  have hx1 : Blk 39 w3 G [.slice pd 800 cd, .slice pr 4 cr] := by
    rw [← h3, ← hG]; exact ((Blk.new w _ _).alloc _).alloc _
  have hx2 : Blk 24 w3 (G + 1) [.int .i64 st, .int .i64 pos, .string s] := by
    rw [← h3, ← hG]
    have := (Blk.new (w.alloc (.cells #[.slice pd 800 cd, .slice pr 4 cr] 39)) 24 [.int .i64 st, .int .i64 pos, .string s]).alloc (.cells #[.slice none 0 0, .slice none 0 0] 39)
    rw [show (w.alloc (.cells #[.slice pd 800 cd, .slice pr 4 cr] 39)).heap.size = w.heap.size + 1 by simp] at this
    exact this
  have hx3 : Blk 39 w3 (G + 1 + 1) [.slice none 0 0, .slice none 0 0] := by
    rw [← h3, ← hG]
    have := Blk.new ((w.alloc (.cells #[.slice pd 800 cd, .slice pr 4 cr] 39)).alloc (.cells #[.int .i64 st, .int .i64 pos, .string s] 24)) 39 [.slice none 0 0, .slice none 0 0]
    rw [show ((w.alloc (.cells #[.slice pd 800 cd, .slice pr 4 cr] 39)).alloc (.cells #[.int .i64 st, .int .i64 pos, .string s] 24)).heap.size = w.heap.size + 2 by simp] at this
    exact this
  have hb3 : Below w.heap.size w w3 := by rw [← h3]; exact balloc (balloc (balloc (brefl w) _) _) _
  have HS3 := Lib.hid (show w3.heap.size = G + 3 by rw [← h3, ← hG]; simp)
  have HX1 := Lib.hid hx1
  have HX2 := Lib.hid hx2
  have HX3 := Lib.hid hx3
  have HB3 := Lib.hid hb3
  have HG := Lib.hid hG
  have HGW : Hid (w.heap.size ≤ G) := Lib.hid (Nat.le_of_eq hG)
  have H3 := Lib.hid h3
  have HOK := Lib.hid hok
  clear H hok hG h3 hx1 hx2 hx3 hb3
  have hx : isS st ∧ isAt pos := hx
  have I1 := Lib.hid (fun W => rin_any st 0 3 W true (in_true hx.1))
  have I2 := Lib.hid (fun W => rin_any pos 0 200 W true (in_true hx.2))
  have u0 : IntKind.i64.wrap (200 - pos) = 200 - pos := wrap_in (by have := hx.2.1; have := hx.2.2; omega)
  have hsz2 : (s.size : Int) ≤ 200 - pos := hf
  have t1 : decide (200 - pos < (s.size : Int)) = false := decide_eq_false (by omega)
  have t2 : decide ((s.size : Int) > 200 - pos) = false := t1
  obtain ⟨k, hk⟩ : ∃ k : Nat, k = 200 * st.toNat + pos.toNat := ⟨_, rfl⟩
  have hb : beg ⟨st, pos, s⟩ = k := hk.symm
  have hk8 : k + s.size ≤ 800 := by have h1 := hx.1.2; have h2 := hx.1.1; have h3 := hx.2.1; omega
  have HB := Lib.hid hb
  have u1 : IntKind.i64.wrap (200 * st) = 200 * st := wrap_in (by have h1 := hx.1.2; have h2 := hx.1.1; omega)
  have u2 : IntKind.i64.wrap (200 * st + pos) = (k : Int) := by
    have h1 := hx.1.2; have h2 := hx.1.1; have h3 := hx.2.1; have h4 := hx.2.2
    rw [wrap_in (by omega)]; omega
  have CB := Lib.hid (behind_own pd cd 800 (dl d) 0 w3 (dl_len d).symm (HD.out _ HB3.out).d (by rw [dl_len]; omega) (by decide))
  have HXS := Lib.hid hx
  clear hx hf hsz2 hb hk
  go_enter Tryd.func13, Tryd.ntmps13
  go_wp2_with fail
  rw [H3.out, HG.out]
  have c0 := HX1.out.cell 0 _ rfl
  have c1 := HX1.out.cell 1 _ rfl
  have k0 := HX1.out.fz 0
  have d0 := HX2.out.cell 0 _ rfl
  have d1 := HX2.out.cell 1 _ rfl
  have d2 := HX2.out.cell 2 _ rfl
  have e0 := HX3.out.cell 0 _ rfl
  have e1 := HX3.out.cell 1 _ rfl
  have f0 := HX3.out.fz 0
  have f1 := HX3.out.fz 1
  go_wp2_with fail
  refine (I1.out _).mono ?_; rintro e w4 ⟨rfl, hw4⟩
  rw [hw4]
  clear hw4 w4
  go_wp2_with fail
  refine (I2.out _).mono ?_; rintro e w4 ⟨rfl, hw4⟩
  rw [hw4]
  clear hw4 w4
  go_wp2_with fail
  refine CB.out.mono ?_; rintro e w4 ⟨g, c, rfl, ho4, hg4, hb4⟩
  have HX1 := Lib.hid (HX1.out.below hb4)
  have HX2 := Lib.hid (HX2.out.below hb4)
  have HX3 := Lib.hid (HX3.out.below hb4)
  have HBE := Lib.hid (bcall HB3.out hb4)
  have hgG : G + 3 ≤ g := by have := HS3.out; omega
  have HO4 := Lib.hid (show OwnI w4 (G + 3) (.slice (some ⟨g, 0, none⟩) (800 + 1) c) (dl d ++ [0]) from own_mono ho4 (by have := HS3.out; omega))
  obtain ⟨hcap, hcmx⟩ : 801 ≤ c ∧ c ≤ 9223372036854775807 := by
    obtain ⟨q, c2, e, hi, _⟩ := own_read ho4
    injection e with e1 e2 e3
    have h1 := hi.1
    have h2 := hi.2.1
    rw [List.length_append, dl_len] at h1
    simp at h1
    unfold maxLen at h2
    omega
  clear CB ho4 hg4 hb4 c0 c1 k0 d0 d1 d2 e0 e1 f0 f1 HB3
  go_wp2_with fail
  go_loopw [7] (fun iv wr => ∃ i : Nat, i ≤ s.size ∧ iv = .int .i64 (i : Int) ∧ Hid (OwnI wr (G + 3) (.slice (some ⟨g, 0, none⟩) (800 + 1) c) (dl (put d k ((bl s).take i)) ++ [0])) ∧ Hid (∀ j, j < i → ¬ (d (k + j) ≠ 0 ∧ d (k + j) ≠ (bl s)[j]?.getD 0 + 1)) ∧ Hid (Below w.heap.size w wr) ∧ Hid (w4.grownBy wr (some g))) (fun i _ => s.size - vN i)
  case atStart => exact ⟨0, Nat.zero_le _, rfl, Lib.hid (by rw [List.take_zero, put_nil]; exact HO4.out), Lib.hid (fun j hj => by omega), HBE, Lib.hid (grefl w4 _)⟩
  case round =>
    obtain ⟨i, hi, rfl, HO, HNC, HBR, HGR⟩ := hrel
    have HX1 := Lib.hid (HX1.out.more HGR.out (fun e => by have := Option.some.inj e; omega))
    have HX2 := Lib.hid (HX2.out.more HGR.out (fun e => by have := Option.some.inj e; omega))
    have HX3 := Lib.hid (HX3.out.more HGR.out (fun e => by have := Option.some.inj e; omega))
    have c0 := HX1.out.cell 0 _ rfl
    have c1 := HX1.out.cell 1 _ rfl
    have k0 := HX1.out.fz 0
    have d0 := HX2.out.cell 0 _ rfl
    have d1 := HX2.out.cell 1 _ rfl
    have d2 := HX2.out.cell 2 _ rfl
    have e0 := HX3.out.cell 0 _ rfl
    have e1 := HX3.out.cell 1 _ rfl
    have f0 := HX3.out.fz 0
    have f1 := HX3.out.fz 1
    by_cases hlt : i < s.size
    · have v1 : decide ((i : Int) < (s.size : Int)) = true := decide_eq_true (by omega)
      obtain ⟨m, hm⟩ : ∃ m, m = k + i := ⟨_, rfl⟩
      have v2 : IntKind.i64.wrap ((k : Int) + (i : Int)) = (m : Int) := by rw [wrap_in (by omega)]; omega
      have hm8 : m < 800 := by omega
      have hmz : (m : Int) < 801 := by omega
      obtain ⟨z, hz⟩ : ∃ z, (s[i]'hlt).toNat = z := ⟨_, rfl⟩
      have hz256 : z < 256 := by rw [← hz]; exact (s[i]'hlt).toNat_lt
      have hbz : (bl s)[i]?.getD 0 = z := by rw [bl_at s hlt, hz]
      have v3 : IntKind.i64.wrap ((z : Int) + 1) = ((z + 1 : Nat) : Int) := by rw [wrap_in (by omega)]; omega
      have hmd : put d k ((bl s).take i) m = d m := put_out _ _ _ (.inr (by rw [List.length_take, bl_len]; omega))
      have hcell := own_cell HO.out m (by rw [List.length_append, dl_len]; simp; omega)
      rw [List.getElem?_append_left (by rw [dl_len]; exact hm8), dl_at _ hm8, hmd] at hcell
      have hfz := own_fz HO.out m
      have HV := Lib.hid (w1b hz256)
      have HNX := Lib.hid (show (dl (put d k ((bl s).take i)) ++ [0]).set m ((z + 1 : Nat) : Int) = dl (put d k ((bl s).take (i + 1))) ++ [0] from by
        rw [put_next d k (bl s) (by rw [bl_len]; exact hlt)]
        exact dl_set _ _ hm8 _ (by rw [← hm, if_pos rfl, hbz]) (fun j hj => by rw [← hm, if_neg hj]))
      have HSETV := Lib.hid (show ∀ V : Int, V = ((z + 1 : Nat) : Int) → OwnI (wr.setCell ⟨g, m, none⟩ (.int .i64 V)) (G + 3) (.slice (some ⟨g, 0, none⟩) (800 + 1) c) (dl (put d k ((bl s).take (i + 1))) ++ [0]) ∧ Below w.heap.size w (wr.setCell ⟨g, m, none⟩ (.int .i64 V)) ∧ w4.grownBy (wr.setCell ⟨g, m, none⟩ (.int .i64 V)) (some g) from fun V e => by
        subst e
        have h1 := own_set HO.out m ((z + 1 : Nat) : Int) (wf_in (by omega))
        rw [HNX.out] at h1
        exact ⟨h1, below_set HBR.out g m _ (by have := HGW.out; omega), grown_set HGR.out m _⟩)
      obtain ⟨hst, hbn, hgn⟩ := HSETV.out _ HV.out
      have HSET := Lib.hid hst
      have HBN := Lib.hid hbn
      have HGN := Lib.hid hgn
      clear HSETV HNX hst hbn hgn
      have HZ := Lib.hid hbz
      have HMK := Lib.hid hm
      by_cases h0 : d m = 0
      · have w1 : ((d m : Int) != 0) = false := by rw [bne_eq_false_iff_eq]; omega
        have HN2 := Lib.hid (show ∀ j, j < i + 1 → ¬ (d (k + j) ≠ 0 ∧ d (k + j) ≠ (bl s)[j]?.getD 0 + 1) from fun j hj => by
          by_cases e : j = i
          · rw [e, ← HMK.out]; exact fun h => h.1 h0
          · exact HNC.out j (by omega))
        generalize d m = x at hcell w1
        clear h0 hm hmd hbz hz256 hm8 HO HBR HGR HNC HV
        go_wp2_with fail
        go_roundw
        case rel => exact ⟨i + 1, by omega, by first | rfl | go_num, HSET, HN2, HBN, HGN⟩
        case measure => simp [vN]; omega
      · have w1 : ((d m : Int) != 0) = true := by rw [bne_iff_ne]; omega
        by_cases h5 : d m = z + 1
        · have w2 : ((d m : Int) != (wrap64 (wrap64 (z : Int) + 1))) = false := by rw [bne_eq_false_iff_eq, HV.out]; omega
          have HN2 := Lib.hid (show ∀ j, j < i + 1 → ¬ (d (k + j) ≠ 0 ∧ d (k + j) ≠ (bl s)[j]?.getD 0 + 1) from fun j hj => by
            by_cases e : j = i
            · rw [e, ← HMK.out, HZ.out]; exact fun h => h.2 h5
            · exact HNC.out j (by omega))
          generalize d m = x at hcell w1 w2
          clear h0 h5 hm hmd hbz hz256 hm8 HO HBR HGR HNC HV
          go_wp2_with fail
          go_roundw
          case rel => exact ⟨i + 1, by omega, by first | rfl | go_num, HSET, HN2, HBN, HGN⟩
          case measure => simp [vN]; omega
        · have w2 : ((d m : Int) != (wrap64 (wrap64 (z : Int) + 1))) = true := by rw [bne_iff_ne, HV.out]; omega
          have HCO := Lib.hid (show codeM d ⟨st, pos, s⟩ = 6 by
            unfold codeM
            rw [if_pos HXS.out, if_neg (by show ¬ 200 - pos < (s.size : Int); exact of_decide_eq_false t1), if_pos (by rw [HB.out]; exact ⟨i, by show i < (bl s).length; rw [bl_len]; exact hlt, by rw [← HMK.out]; exact h0, by rw [← HMK.out]; show d m ≠ (bl s)[i]?.getD 0 + 1; rw [HZ.out]; exact h5⟩)])
          generalize d m = x at hcell w1 w2
          have HBE := HBR
          clear h0 h5 hm hmd hbz hz256 hm8 HO HBR HGR HNC HV HSET HBN HGN
          go_wp2_with fail
          have HE := Lib.hid ((HX3.out.set 0 (.slice pd 800 cd)).set 1 (.slice pr 4 cr))
          have hbe := below_set (below_set HBE.out (G + 1 + 1) 0 (.slice pd 800 cd) (by have := HGW.out; omega)) (G + 1 + 1) 1 (.slice pr 4 cr) (by have := HGW.out; omega)
          have hne := HCO.out
          exact bodyPost_ret (results_twot rfl Tryd.isAgg39 Tryd.sizeOf39 _ _ (G + 1 + 1) rfl _ _ (HE.out.cell 0 _ rfl) (HE.out.cell 1 _ rfl)) rfl
            ⟨pd, cd, by rw [hne]; rfl, by unfold putM; rw [hne, if_neg (by decide)]; exact HD.out _ hbe, fun a e => .inl e, hbe⟩
    · have hil : i = s.size := by omega
      have v1 : decide ((i : Int) < (s.size : Int)) = false := decide_eq_false (by omega)
      have hncl : ¬ clash d k (bl s) := fun ⟨j, h1, h2⟩ => HNC.out j (by rw [bl_len] at h1; omega) h2
      have HC0 := Lib.hid (show codeM d ⟨st, pos, s⟩ = 0 by
        unfold codeM
        rw [if_pos HXS.out, if_neg (by show ¬ 200 - pos < (s.size : Int); exact of_decide_eq_false t1), if_neg (by rw [HB.out]; exact hncl)])
      have HPM := Lib.hid (show putM d ⟨st, pos, s⟩ = put d k (bl s) by
        unfold putM
        rw [HC0.out, if_pos rfl, HB.out])
      have hta : (bl s).take i = bl s := List.take_of_length_le (by rw [bl_len]; omega)
      rw [hta] at HO
      clear hncl hta hil
      go_wp2_with fail
      have hw1 := HGW.out
      have hs5 : ∀ (W : World) (j kk : Nat) (v : Value), (W.setCell ⟨j, kk, none⟩ v).heap.size = W.heap.size := fun W j kk v => by simp [World.setCell]
      have HE := Lib.hid (((HX3.out.other G 0 (.slice (some ⟨g, 0, none⟩) 800 c) (by omega)).set 0 (.slice (some ⟨g, 0, none⟩) 800 c)).set 1 (.slice pr 4 cr))
      have hbe := below_set (below_set (below_set HBR.out G 0 (.slice (some ⟨g, 0, none⟩) 800 c) hw1) (G + 1 + 1) 0 (.slice (some ⟨g, 0, none⟩) 800 c) (by omega)) (G + 1 + 1) 1 (.slice pr 4 cr) (by omega)
      have hne : ∀ j, j < G + 3 → (Value.slice (some ⟨g, 0, none⟩) (800 + 1) c).ownBlock = none ∨ (Value.slice (some ⟨g, 0, none⟩) (800 + 1) c).ownBlock ≠ some j := fun j hj => .inr (fun e => by
        have e2 : some g = some j := e
        injection e2 with e2
        omega)
      have how := ((HO.out.more (set_grown wr G 0 (.slice (some ⟨g, 0, none⟩) 800 c)) (hne G (by omega))).more (set_grown _ (G + 1 + 1) 0 (.slice (some ⟨g, 0, none⟩) 800 c)) (hne _ (by omega))).more (set_grown _ (G + 1 + 1) 1 (.slice pr 4 cr)) (hne _ (by omega))
      obtain ⟨q7, c7, j7, hI7, hA7⟩ := own_read how
      injection j7 with j7 j8 j9
      clear j8
      subst j7; subst j9
      have hI8 := ints_cut hI7 800 (by rw [List.length_append, dl_len]; simp) c (by omega) (by unfold maxLen; omega)
      rw [List.take_append_of_le_length (by rw [dl_len]; exact Nat.le_refl _), List.take_of_length_le (by rw [dl_len]; exact Nat.le_refl _)] at hI8
      have hdr := (HD.out _ hbe).r
      have hc0 := HC0.out
      have hpm := HPM.out
      exact bodyPost_ret (results_twot rfl Tryd.isAgg39 Tryd.sizeOf39 _ _ (G + 1 + 1) rfl _ _ (HE.out.cell 0 _ rfl) (HE.out.cell 1 _ rfl)) rfl
        ⟨some ⟨g, 0, none⟩, c, by rw [hc0]; rfl, ⟨by rw [hpm]; exact hI8, hdr⟩, fun a e => .inr ⟨by have := hA7 a e; have h2 := this.1; omega, (hA7 a e).2.1⟩, hbe⟩
theorem dl_zero : List.replicate 800 (0 : Int) = dl (fun _ => 0) := (List.eq_replicate_iff.2 ⟨dl_len _, fun b hb => by
  obtain ⟨_, _, rfl⟩ := List.mem_map.1 hb
  rfl⟩).symm
theorem rl_zero : List.replicate 4 (0 : Int) = rl (fun _ => 0) := rfl
/-- It lies behind what was there before. -/
def At2 (w w' : World) (p : Option Addr) : Prop := ∀ x, p = some x → w.heap.size ≤ x.block ∧ x.block < w'.heap.size
theorem dm_end {W w : World} {B1 B2 a b G : Nat} (h1 : OwnI W B1 (.slice (some ⟨a, 0, none⟩) 800 800) (List.replicate 800 0)) (h2 : OwnI W B2 (.slice (some ⟨b, 0, none⟩) 4 4) (List.replicate 4 0)) (hx : Blk 39 W G [.slice none 0 0, .slice none 0 0]) (ha : a ≠ G) (hb : b ≠ G) (hbe : Below w.heap.size w W) (hG : w.heap.size ≤ G) (ha2 : w.heap.size ≤ a) (hb2 : w.heap.size ≤ b) :
    Dm ((W.setCell ⟨G, 0, none⟩ (.slice (some ⟨a, 0, none⟩) 800 800)).setCell ⟨G, 1, none⟩ (.slice (some ⟨b, 0, none⟩) 4 4)) (some ⟨a, 0, none⟩) 800 (some ⟨b, 0, none⟩) 4 (fun _ => 0) (fun _ => 0) ∧ Below w.heap.size w ((W.setCell ⟨G, 0, none⟩ (.slice (some ⟨a, 0, none⟩) 800 800)).setCell ⟨G, 1, none⟩ (.slice (some ⟨b, 0, none⟩) 4 4)) ∧ Blk 39 ((W.setCell ⟨G, 0, none⟩ (.slice (some ⟨a, 0, none⟩) 800 800)).setCell ⟨G, 1, none⟩ (.slice (some ⟨b, 0, none⟩) 4 4)) G [.slice (some ⟨a, 0, none⟩) 800 800, .slice (some ⟨b, 0, none⟩) 4 4] ∧ At2 w ((W.setCell ⟨G, 0, none⟩ (.slice (some ⟨a, 0, none⟩) 800 800)).setCell ⟨G, 1, none⟩ (.slice (some ⟨b, 0, none⟩) 4 4)) (some ⟨a, 0, none⟩) ∧ At2 w ((W.setCell ⟨G, 0, none⟩ (.slice (some ⟨a, 0, none⟩) 800 800)).setCell ⟨G, 1, none⟩ (.slice (some ⟨b, 0, none⟩) 4 4)) (some ⟨b, 0, none⟩) := by
  have l1 := h1.lt a rfl
  have l2 := h2.lt b rfl
  have n1 : ∀ n c, (Value.slice (some ⟨a, 0, none⟩) n c).ownBlock ≠ some G := fun n c e => ha (Option.some.inj e)
  have n2 : ∀ n c, (Value.slice (some ⟨b, 0, none⟩) n c).ownBlock ≠ some G := fun n c e => hb (Option.some.inj e)
  have o1 := (h1.more (set_grown W G 0 (.slice (some ⟨a, 0, none⟩) 800 800)) (.inr (n1 _ _))).more (set_grown _ G 1 (.slice (some ⟨b, 0, none⟩) 4 4)) (.inr (n1 _ _))
  have o2 := (h2.more (set_grown W G 0 (.slice (some ⟨a, 0, none⟩) 800 800)) (.inr (n2 _ _))).more (set_grown _ G 1 (.slice (some ⟨b, 0, none⟩) 4 4)) (.inr (n2 _ _))
  obtain ⟨q, c, e, i1, _⟩ := own_read o1
  obtain ⟨q2, c2, e2, i2, _⟩ := own_read o2
  injection e with e3 e4 e5
  injection e2 with e6 e7 e8
  subst e3; subst e5; subst e6; subst e8
  rw [dl_zero] at i1
  rw [rl_zero] at i2
  exact ⟨⟨i1, i2⟩, below_set (below_set hbe G 0 _ hG) G 1 _ hG, (hx.set 0 (.slice (some ⟨a, 0, none⟩) 800 800)).set 1 (.slice (some ⟨b, 0, none⟩) 4 4), fun x e => (by injection e with e; subst e; simp [World.setCell]; omega), fun x e => (by injection e with e; subst e; simp [World.setCell]; omega)⟩
theorem rnew_any (w : World) : Calls Tryd.prog 12 #[] w fun e w' => ∃ pd cd pr cr, e = .returned (.agg #[.slice pd 800 cd, .slice pr 4 cr]) ∧ Dm w' pd cd pr cr (fun _ => 0) (fun _ => 0) ∧ Below w.heap.size w w' ∧ At2 w w' pd ∧ At2 w w' pr := by
  obtain ⟨G, hG⟩ : ∃ G, w.heap.size = G := ⟨_, rfl⟩
  obtain ⟨w0, h0⟩ : ∃ w0, w.alloc (.cells #[.slice none 0 0, .slice none 0 0] 39) = w0 := ⟨_, rfl⟩
  have hx0 : Blk 39 w0 G [.slice none 0 0, .slice none 0 0] := by
    rw [← h0, ← hG]; exact Blk.new w _ _
  have hb0 : Below w.heap.size w w0 := by rw [← h0]; exact balloc (brefl w) _
  obtain ⟨w1, m1, o1, g1⟩ := made_ints w0.drew 800 (by omega)
  obtain ⟨w2, m2, o2, g2⟩ := made_ints w1 4 (by omega)
  obtain ⟨w3, m3, o3, g3⟩ := made_ints w0.drew 4 (by omega)
  obtain ⟨w4, m4, o4, g4⟩ := made_ints w3 800 (by omega)
  have hs0 : w0.drew.heap.size = G + 1 := by show w0.heap.size = G + 1; rw [← h0, ← hG]; simp
  have hb0d : Below w.heap.size w w0.drew := bdrewN hb0 1
  have hx0d : Blk 39 w0.drew G [.slice none 0 0, .slice none 0 0] := hx0
  have K2 : Hid (Blk 39 w2 G [.slice none 0 0, .slice none 0 0]) := Lib.hid ((hx0d.more g1 (fun e => by cases e)).more g2 (fun e => by cases e))
  have K4 : Hid (Blk 39 w4 G [.slice none 0 0, .slice none 0 0]) := Lib.hid ((hx0d.more g3 (fun e => by cases e)).more g4 (fun e => by cases e))
  have hGW : w.heap.size ≤ G := Nat.le_of_eq hG
  have b1 : Below w.heap.size w w2 := (hb0d.grown g1 hb0d.size (fun k hk => by cases hk)).grown g2 (Nat.le_trans hb0d.size g1.size) (fun k hk => by cases hk)
  have b3 : Below w.heap.size w w4 := (hb0d.grown g3 hb0d.size (fun k hk => by cases hk)).grown g4 (Nat.le_trans hb0d.size g3.size) (fun k hk => by cases hk)
  have z1 := g1.size
  have z3 := g3.size
  have E2 := Lib.hid (dm_end (G := G) (o1.more g2 (.inr (fun e => by cases e))) o2 K2.out (by omega) (by omega) b1 hGW (by omega) (by omega))
  have E4 := Lib.hid (dm_end (G := G) o4 (o3.more g4 (.inr (fun e => by cases e))) K4.out (by omega) (by omega) b3 hGW (by omega) (by omega))
  rw [hs0] at E2 E4
  clear b1 b3 z1 z3 o1 o2 o3 o4 g1 g2 g3 g4
  go_enter Tryd.func12, Tryd.ntmps12
  go_wp2_with fail
  (try rw [h0]); (try rw [hG])
  have c0 := K2.out.cell 0 _ rfl
  have c1 := K2.out.cell 1 _ rfl
  have f0 := K2.out.fz 0
  have f1 := K2.out.fz 1
  have d0 := K4.out.cell 0 _ rfl
  have d1 := K4.out.cell 1 _ rfl
  have e0 := K4.out.fz 0
  have e1 := K4.out.fz 1
  rw [hs0] at m1 m3
  obtain ⟨G1, hG1⟩ : ∃ G1, w1.heap.size = G1 := ⟨_, rfl⟩
  obtain ⟨G3, hG3⟩ : ∃ G3, w3.heap.size = G3 := ⟨_, rfl⟩
  rw [hG1] at m2 E2
  rw [hG3] at m4 E4
  have m1 : (Instr.makeSlice 37 (.int .i64 800) (.int .i64 800)).run Tryd.prog w0.drew = .ok (.slice (some ⟨G + 1, 0, none⟩) 800 800) w1 := m1
  have m2 : (Instr.makeSlice 37 (.int .i64 4) (.int .i64 4)).run Tryd.prog w1 = .ok (.slice (some ⟨G1, 0, none⟩) 4 4) w2 := m2
  have m3 : (Instr.makeSlice 37 (.int .i64 4) (.int .i64 4)).run Tryd.prog w0.drew = .ok (.slice (some ⟨G + 1, 0, none⟩) 4 4) w3 := m3
  have m4 : (Instr.makeSlice 37 (.int .i64 800) (.int .i64 800)).run Tryd.prog w3 = .ok (.slice (some ⟨G3, 0, none⟩) 800 800) w4 := m4
  go_region_law (fail)
  · clear m1 m2 m3 m4 c0 c1 f0 f1 d0 d1 e0 e1 E4
    go_wp2_with fail
    exact bodyPost_ret (results_two rfl Tryd.isAgg39 Tryd.sizeOf39 _ _ _ rfl rfl rfl _ _ (E2.out.2.2.1.cell 0 _ rfl) (E2.out.2.2.1.cell 1 _ rfl)) rfl ⟨_, _, _, _, rfl, E2.out.1, E2.out.2.1, E2.out.2.2.2⟩
  · clear m1 m2 m3 m4 c0 c1 f0 f1 d0 d1 e0 e1 E2
    go_wp2_with fail
    exact bodyPost_ret (results_two rfl Tryd.isAgg39 Tryd.sizeOf39 _ _ _ rfl rfl rfl _ _ (E4.out.2.2.1.cell 0 _ rfl) (E4.out.2.2.1.cell 1 _ rfl)) rfl ⟨_, _, _, _, rfl, E4.out.1, E4.out.2.1, E4.out.2.2.2⟩
end Go.Proofs.YtcleanjacijfoaaDoor.Mux
