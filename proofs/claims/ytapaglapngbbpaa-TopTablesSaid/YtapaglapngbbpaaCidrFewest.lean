/- The contract of cidr.Fewest. No statement is proved here. -/
import Derived.Test.YtapaglapngbbpaaCidrFew
namespace Go.Proofs.Ytapaglapngbbpaa.Cidr
open Go.ChangeShapes Go.WideShapes Go.ChangeAt Go.RowKit Go.Sort Go.Proofs.Ytapaglapngbbpaa.Kit Go.Proofs.Ytapaglapngbbpaa.App Go.Proofs.Ytapaglapngbbpaa.Cells Go.Proofs.Ytapaglapngbbpaa.CidrMath
set_option linter.unusedVariables false
set_option maxRecDepth 20000

theorem add_any (p : Pfx) (w : World) (base gb : Nat) (v : Value) (L P : List Pfx) (S : St w base gb v L) (I : Inv P L) (ho : ∀ q ∈ P, ¬ Before p q) (hp : CidrMath.Good p) (hlen : P.length ≤ 32) (hbase : base ≤ w.heap.size) :
    Calls Try.prog 32 #[.agg #[.int .i64 p.adr, .int .i64 p.len], .pointer (some ⟨gb, 0, none⟩)] w fun e w' => e = .returned (.tuple #[]) ∧ ∃ v' L', St w' base gb v' L' ∧ Inv (P ++ [p]) L' ∧ Kp base gb w w' := by
  rcases List.eq_nil_or_concat L with rfl | ⟨L0, y, rfl⟩
  · have hv : v = v := rfl
    exact add_first p w base gb v P S I ho hp hbase
  · rw [List.concat_eq_append] at *
    by_cases hin : y.adr ≤ p.adr ∧ p.adr < y.adr + siz y
    · refine (add_skip p y w base gb v L0 P S I hp hlen hin).mono ?_
      rintro e w' ⟨rfl, hg⟩
      exact ⟨rfl, v, _, S.below hg.below, I.skip ho hp hin, Kp.of (hg.below.mono hbase)⟩
    · exact add_more p y w base gb v L0 P S I ho hp hlen hin hbase
theorem size_good (x : Pfx) (hx : CidrMath.Good x) (w : World) : Calls Try.prog 29 #[.agg #[.int .i64 x.adr, .int .i64 x.len]] w fun e w' => e = .returned (.int .i64 (siz x : Nat)) ∧ Gr w w' := by
  obtain ⟨d, j, hj, rfl, _⟩ := good_mem hx
  exact size_any _ j hj w _ (siz_blk _ j)

set_option maxHeartbeats 1000000 in
theorem fewest_bad (p : Option Addr) (cap n : Nat) (l : List Pfx) (w : World) (hn : n = l.length) (hc : CI lay w p cap l) (c : Int) (hw : c = wrong l) (h0 : c ≠ 0) :
    Calls Try.prog 12 #[.slice p n cap] w fun e w' => e = .returned (.tuple #[.slice none 0 0, .iface 50 (.int .i64 c)]) ∧ Below w.heap.size w w' := by
  have C := Lib.hid (checkAll_any p cap n l w hn hc c hw)
  rw [er_ne h0] at C
  clear hw h0 hc hn
  go_enter Try.func12, Try.ntmps12
  go_wp2_with fail
  refine C.out.mono ?_; rintro e w1 ⟨rfl, hB⟩
  go_wp2_with fail
  go_ret2
  exact ⟨rfl, hB⟩
set_option maxHeartbeats 2000000 in
theorem fewest_good (p : Option Addr) (cap n : Nat) (l : List Pfx) (w : World) (hn : n = l.length) (hc : CI lay w p cap l) (hw : wrong l = 0) :
    Calls Try.prog 12 #[.slice p n cap] w fun e w' => ∃ v, e = .returned (.tuple #[v, .nilIface]) ∧ OC lay 24 w' w.heap.size v (few0 l) ∧ Below w.heap.size w w' := by
  have C := Lib.hid (checkAll_any p cap n l w hn hc 0 hw.symm)
  rw [er_0] at C
  obtain ⟨h32, hg⟩ := (wrong_zero l).1 hw
  have OR := Lib.hid (fun W (hb : Below w.heap.size w W) => order_any p cap n l W hn (hc.below hb) (by omega))
  have GA := Lib.hid gather_any
  have AD := Lib.hid @add_any
  have FC := Lib.hid @fewest_cell
  have Hg := Lib.hid hg
  have HL := Lib.hid hn
  obtain ⟨N, hN⟩ : ∃ N, l.length = N := ⟨_, rfl⟩
  rw [hN] at OR h32 HL
  have HN := Lib.hid hN
  clear hw hc hn hg hN
  go_enter Try.func12, Try.ntmps12
  go_wp2_with fail
  refine C.out.mono ?_; rintro e w1 ⟨rfl, hB1⟩
  go_wp2_with fail
  refine (GA.out _).mono ?_; rintro e w2 ⟨gb, rfl, ⟨hgb, S2⟩, hB2'⟩
  have hB2 := bcall hB1 hB2'
  go_wp2_with fail
  refine (OR.out _ hB2).mono ?_; rintro e w3 ⟨q, c, m, rfl, hO, hCI, hB3', hqb⟩
  have hgb3 : gb < w2.heap.size := (S2 (gb + 1) (by omega)).b.2
  have hs3 := hB3'.size
  have S3 := Lib.hid ((S2 w3.heap.size (by omega)).below hB3')
  have hB3 : Below w.heap.size w w3 := bcall hB2 hB3'
  have hbw := hB1.size
  have HO := Lib.hid hO
  have hml : m.length = N := by rw [hO.perm.length_eq]; exact HN.out
  have HM := Lib.hid hml
  have HD := Lib.hid hO.ord
  have HGm := Lib.hid (show ∀ x ∈ m, CidrMath.Good x from fun x hx => Hg.out x (hO.perm.mem_iff.1 hx))
  have HMem := Lib.hid (show ∀ x, x ∈ l ↔ x ∈ m from fun x => hO.perm.mem_iff.symm)
  clear S2 hB2' hO hml hB2 C OR GA
  go_wp2_with fail
  go_loopw [21] (fun i wr => ∃ k : Nat, i = .int .i64 k ∧ k ≤ N ∧ Hid (∃ v L, St wr w3.heap.size gb v L ∧ Inv (m.take k) L) ∧ Kp w3.heap.size gb w3 wr) (fun i _ => N - (intOf i).toNat)
  case atStart => exact ⟨0, by rfl, Nat.zero_le _, ⟨_, [], S3.out, by simpa using Inv.nil⟩, Kp.refl _ _ _⟩
  case round =>
    obtain ⟨k, rfl, hk, H, hB⟩ := hrel
    have hs1 := hB.size
    by_cases hlt : k < N
    · have hkm : k < m.length := by rw [HM.out]; exact hlt
      obtain ⟨b, off, rfl, hb, hcell⟩ := hCI.2.2 (by omega)
      have hbg := hqb _ rfl
      simp only at hbg
      have hbk := hB.block b hb (by omega)
      obtain ⟨x, hx⟩ : ∃ x, m[k]? = some x := ⟨_, List.getElem?_eq_getElem hkm⟩
      have x0 : wr.cell? ⟨b, off + k * 2, none⟩ = some (.int .i64 x.adr) := (World.cell?_of_block (w := w3) (a := ⟨b, off + k * 2, none⟩) hbk).trans (hcell k x hx 0 _ rfl)
      have x1 : wr.cell? ⟨b, off + k * 2 + 1, none⟩ = some (.int .i64 x.len) := (World.cell?_of_block (w := w3) (a := ⟨b, off + k * 2 + 1, none⟩) hbk).trans (hcell k x hx 1 _ rfl)
      obtain ⟨v, L, S, I⟩ := H.out
      have hgx := HGm.out x (List.mem_of_getElem? hx)
      have hord : ∀ y ∈ m.take k, ¬ Before x y := fun y hy => by
        obtain ⟨j, hj, rfl⟩ := List.getElem_of_mem hy
        have hj' : j < k := by rw [List.length_take] at hj; omega
        have h1 := List.pairwise_iff_getElem.1 HD.out j k (by omega) hkm hj'
        rw [List.getElem_take]
        have h2 : m[k] = x := by rw [List.getElem?_eq_getElem hkm] at hx; exact Option.some.inj hx
        rw [h2] at h1
        exact h1
      have A := Lib.hid (fun W (SW : St W w3.heap.size gb v L) hW => AD.out x W w3.heap.size gb v L (m.take k) SW I hord hgx (by rw [List.length_take]; omega) hW)
      have SS := Lib.hid S
      have HX := Lib.hid (take_one hx)
      clear hcell hx I S hord hgx hkm hbk
      go_wp2_with fail
      refine (A.out _ (SS.out.below (balloc (brefl wr) _)) (by simp; omega)).mono ?_; rintro e w4 ⟨rfl, v', L', S', I', hK⟩
      have hK4 : Kp w3.heap.size gb w3 w4 := (hB.trans (Kp.of (balloc (brefl wr) _ |>.mono hs1))).trans hK
      have HS := Lib.hid (show ∃ v L, St w4 w3.heap.size gb v L ∧ Inv (m.take (k + 1)) L from ⟨v', L', S', by rw [HX.out]; exact I'⟩)
      clear hK S' I' A SS
      go_wp2_with fail
      go_roundw
      case rel => exact ⟨k + 1, by first | rfl | go_num, by omega, HS.out, hK4⟩
      case measure => simp [intOf]; omega
    · obtain rfl : k = N := by omega
      obtain ⟨v, L, S, I⟩ := H.out
      have hI : L = few0 l := by
        rw [List.take_of_length_le (by rw [HM.out]; exact Nat.le_refl _)] at I
        exact I.fewest HGm.out l HMem.out
      subst hI
      have F := Lib.hid (FC.out wr w3.heap.size gb v _ S)
      have HO := Lib.hid (OC.mono S.own (show w.heap.size ≤ w3.heap.size by omega))
      have HBf := Lib.hid (hB3.trans (hB.down (B := w.heap.size) (by omega) (by omega)))
      clear S I
      go_wp2_with fail
      refine F.out.mono ?_; rintro e w4 ⟨rfl, rfl⟩
      go_wp2_with fail
      go_ret2
      exact ⟨v, rfl, HO.out, HBf.out⟩

end Go.Proofs.Ytapaglapngbbpaa.Cidr
