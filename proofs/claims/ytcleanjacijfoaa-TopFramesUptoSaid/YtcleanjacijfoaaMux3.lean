/- Package mux: Read. No statement is proved here. -/
import Derived.Test.YtcleanjacijfoaaMux2
import Derived.Test.YtcleanjacijfoaaBytes
import Derived.Deep.LoopGhost
import Derived.Deep.RegionHeld3
namespace Go.Proofs.Ytcleanjacijfoaa.Mux
open Go.ChangeShapes Go.WideShapes Go.ChangeAt Go.RowKit Go.Proofs.Ytcleanjacijfoaa.Kit Go.Proofs.Ytcleanjacijfoaa.App Go.Proofs.Ytcleanjacijfoaa.Cells Go.Proofs.Ytcleanjacijfoaa.Err Go.Proofs.Ytcleanjacijfoaa.Part
set_option linter.unusedVariables false
set_option maxRecDepth 20000
set_option maxHeartbeats 1000000

theorem read_bad (g : Nat) (n : Int) (w : World) (h : ¬ isS n) : Calls Try.prog 12 #[.pointer (some ⟨g, 0, none⟩), .int .i64 n] w fun e w' => e = .returned (.tuple #[.string ByteArray.empty, er 1]) ∧ w' = w := by
  have F := Lib.hid (fun W => stream_any n W false (decide_eq_false h).symm)
  clear h
  go_enter Try.func12, Try.ntmps12
  go_wp2_with fail
  refine (F.out _).mono ?_; rintro e w1 ⟨rfl, rfl⟩
  go_wp2_with fail
  go_ret2
  exact ⟨rfl, rfl⟩
/-- The bytes of a stream from a place on, up to another one. -/
def sb (d : Nat → Nat) (b a e : Nat) : List UInt8 := (said d b a e).map UInt8.ofNat
theorem sb_none (d : Nat → Nat) (b a : Nat) : sb d b a a = [] := by unfold sb; rw [said_none]; rfl
theorem sb_next (d : Nat → Nat) (b : Nat) {a e : Nat} (h : a ≤ e) : sb d b a (e + 1) = sb d b a e ++ [UInt8.ofNat (d (b + e) - 1)] := by unfold sb; rw [said_next d b h, List.map_append]; rfl
theorem sb_len (d : Nat → Nat) (b a e : Nat) : (sb d b a e).length = e - a := by unfold sb; rw [List.length_map, said_len]
theorem read_good (g : Nat) (d r : Nat → Nat) (hO : Okm d r) (n : Nat) (hn : n < 4) (w : World) (H : Ends w g d r) (t : ByteArray) (ht : txt (said d (200 * n) (r n) (fin d (200 * n) (r n))) = t) :
    Calls Try.prog 12 #[.pointer (some ⟨g, 0, none⟩), .int .i64 (n : Int)] w fun e w' => e = .returned (.tuple #[.string t, er 0]) ∧ Ends w' g d (fun k => if k = n then fin d (200 * n) (r n) else r k) ∧ w.grownBy w' (some g) := by
  have F := Lib.hid (fun W => stream_any (n : Int) W true (decide_eq_true (by unfold isS; omega)).symm)
  have hg := H.lt
  obtain ⟨b, hb⟩ : ∃ b, r n = b := ⟨_, rfl⟩
  have hb2 : b ≤ 200 := by rw [← hb]; exact hO.rd n
  have hr0 : (fun k => if k = n then b else r k) = r := by
    funext k
    by_cases e : k = n
    · rw [if_pos e, e, hb]
    · rw [if_neg e]
  have HE : Hid (Ends w g d (fun k => if k = n then b else r k)) := Lib.hid (by rw [hr0]; exact H)
  rw [hb] at ht ⊢
  have HT := Lib.hid ht
  have HO := Lib.hid hO
  have hn4 : (n : Int) < 4 := by omega
  clear H ht hb hr0 hO
  go_enter Try.func12, Try.ntmps12
  go_wp2_with fail
  refine (F.out _).mono ?_; rintro e w1 ⟨rfl, rfl⟩
  go_wp2_with fail
  have HG := Lib.hid hg
  go_loopg [7] (200 - b) (fun gk ov wr => ∃ (k : Nat) (o : Value), o = ov ∧ b ≤ k ∧ k + gk = 200 ∧ Hid (OC layB 5 wr w1.heap.size o (sb d (200 * n) b k)) ∧ Hid (Ends wr g d (fun j => if j = n then k else r j)) ∧ Hid (w1.grownBy wr (some g)) ∧ Hid (∀ j, b ≤ j → j < k → d (200 * n + j) ≠ 0))
  case atStart => exact ⟨b, _, rfl, Nat.le_refl _, by omega, by rw [sb_none]; exact Lib.hid (OC.nil layB 5 w1 _), HE, Lib.hid (grefl _ _), Lib.hid (fun j h1 h2 => absurd h2 (by omega))⟩
  case round =>
    obtain ⟨k, o, rfl, hk1, hk2, HB, HK, HW, HD⟩ := hrel
    clear HE
    have c0 : wr.cell? ⟨g, n * 401 + 400, none⟩ = some (.int .i64 (k : Int)) := by have := HK.out.rd hn; rw [if_pos rfl] at this; exact this
    have HX0 : Hid ((k = 200 ∨ d (200 * n + k) = 0) → fin d (200 * n) b = k ∧ ∃ p n1 cp, o = .slice p n1 cp ∧ ∀ j, (convert 67 9 (.slice p n1 cp)).run Try.prog (wr.drewN j) = .ok (.string t) (wr.drewN j)) := Lib.hid (fun hend => by
      obtain ⟨p, cp, e, hci⟩ := HB.out.form
      have hf : fin d (200 * n) b = k := fin_uniq hb2 hk1 (by omega) HD.out hend
      refine ⟨hf, p, _, cp, e, fun j => ?_⟩
      have hcj : CI layB (wr.drewN j) p cp (sb d (200 * n) b k) := hci
      rw [to_text hcj]
      have hT := HT.out
      rw [hf] at hT
      rw [← hT]
      rfl)
    by_cases hlt : k < 200
    · have u1 : decide ((k : Int) < 200) = true := decide_eq_true (by omega)
      have u1' : (k : Int) < 200 := by omega
      have q1 := HK.out.known (n := n) (j := k) hn hlt
      have q2 := HK.out.value (n := n) (j := k) hn hlt
      by_cases h0 : d (200 * n + k) ≠ 0
      · rw [decide_eq_true h0] at q1
        have hz : (UInt8.ofNat (d (200 * n + k) - 1)).toNat = d (200 * n + k) - 1 := by have := HO.out.byte (200 * n + k); rw [UInt8.toNat_ofNat']; omega
        have HS := Lib.hid (sb_next d (200 * n) hk1)
        rw [← hz] at q2
        generalize UInt8.ofNat (d (200 * n + k) - 1) = z at q2 HS
        have HD2 : Hid (∀ j, b ≤ j → j < k + 1 → d (200 * n + j) ≠ 0) := Lib.hid (fun j h1 h2 => if e : j = k then by rw [e]; exact h0 else HD.out j h1 (by omega))
        clear h0 hz HX0
        go_wp2_with fail
        go_quiet (fail)
        have HB5 : Hid (OC layB 5 (wr.drewN nq) w1.heap.size o (sb d (200 * n) b k)) := Lib.hid HB.out
        have HK5 : Hid (Ends (wr.drewN nq) g d (fun j => if j = n then k else r j)) := Lib.hid HK.out
        have HW5 : Hid (w1.grownBy (wr.drewN nq) (some g)) := Lib.hid (grown_drewN HW.out _)
        have c0 : (wr.drewN nq).cell? ⟨g, n * 401 + 400, none⟩ = some (.int .i64 (k : Int)) := c0
        have q2 : (wr.drewN nq).cell? ⟨g, n * 401 + k * 2 + 1, none⟩ = some (.int .u8 ((z.toNat : Nat) : Int)) := q2
        clear HB HK HW q1
        generalize wr.drewN nq = w5 at HB5 HK5 HW5 c0 q2 ⊢
        have hsz := HW5.out.size
        have hgw := HK5.out.lt
        have hlen : (sb d (200 * n) b k).length ≤ 200 := by rw [sb_len]; omega
        have HLN := Lib.hid hlen
        clear hlen
        have HTK : Hid (sb d (200 * n) b (k + 1) = sb d (200 * n) b k ++ [z]) := HS
        go_wp2_with fail
        have a0 : w5.drew.cell? ⟨g, n * 401 + 400, none⟩ = some (.int .i64 (k : Int)) := c0
        have a1 : w5.drew.cell? ⟨g, n * 401 + k * 2 + 1, none⟩ = some (.int .u8 ((z.toNat : Nat) : Int)) := q2
        have a2 : ∀ o, (w5.drew.alloc o).cell? ⟨g, n * 401 + 400, none⟩ = some (.int .i64 (k : Int)) := fun o => (World.cell?_alloc_lt w5.drew _ _ hgw).trans a0
        have a3 : ∀ o, (w5.drew.alloc o).cell? ⟨g, n * 401 + k * 2 + 1, none⟩ = some (.int .u8 ((z.toNat : Nat) : Int)) := fun o => (World.cell?_alloc_lt w5.drew _ _ hgw).trans a1
        go_region_held3 (fun W' => W'.cell? ⟨g, n * 401 + 400, none⟩ = some (.int .i64 (k : Int)) ∧ W'.cell? ⟨g, n * 401 + k * 2 + 1, none⟩ = some (.int .u8 ((z.toNat : Nat) : Int)))
          (first
            | exact ⟨a0, a1⟩
            | exact ⟨a2 _, a3 _⟩
            | exact ⟨a4, a5⟩
            | go_keep)
          (first
            | (refine step_appC tyB rfl (.tmp 34) (.tmp 45) rfl w1.heap.size _ (sb d (200 * n) b k) (some ⟨w5.heap.size, 0, none⟩) 1 1 [z] rfl (HB5.out.drew.alloc _) rfl rfl (CI.one layB w5.drew z _) (by have := HLN.out; rw [List.length_singleton]; omega) (Nat.le_trans hsz (by simp)) ?_
               intro v8 w8 hown8 hg8 hat8
               have HB8 := Lib.hid (show OC layB 5 w8 w1.heap.size v8 (sb d (200 * n) b (k + 1)) by rw [HTK.out]; exact hown8)
               have HN8 : Hid (∀ j, o.ownBlock = some j → w1.heap.size ≤ j) := Lib.hid (fun j hj => (HB5.out.lt j hj).1)
               have hng : some g ≠ o.ownBlock := fun e => by have := HN8.out g e.symm; have := HG.out; omega
               have HK8 := Lib.hid ((HK5.out.drew.alloc _).more hg8 hng)
               have HW8 : Hid (w1.grownBy w8 (some g)) := Lib.hid (by
                 have hz1 := grown_drew HW5.out
                 refine ⟨hg8.os.trans hz1.os, hg8.tape.trans hz1.tape, hg8.output.trans hz1.output, Nat.le_trans hz1.size (Nat.le_trans (by simp) hg8.size), fun j hj hne => ?_⟩
                 have h1 := hg8.block j (Nat.lt_of_lt_of_le hj (Nat.le_trans hz1.size (by simp))) (fun e => by have := HN8.out j e.symm; omega)
                 rw [h1]
                 have h2 := hz1.block j hj hne
                 rw [← h2]
                 exact (World.grownBy_alloc w5.drew _ none).block j (Nat.lt_of_lt_of_le hj hz1.size) (by simp))
               have a4 : w8.cell? ⟨g, n * 401 + 400, none⟩ = some (.int .i64 (k : Int)) := by have := HK8.out.rd hn; rw [if_pos rfl] at this; exact this
               have a5 : w8.cell? ⟨g, n * 401 + k * 2 + 1, none⟩ = some (.int .u8 ((z.toNat : Nat) : Int)) := (World.cell?_of_block (w := w5.drew.alloc _) (a := ⟨g, n * 401 + k * 2 + 1, none⟩) (hg8.block g (by have := HK5.out.lt; simp; omega) hng)).trans (a3 _)
               clear hown8 hg8 hat8 hng))
        have f8 := HK8.out.fz (n * 401 + 400)
        have HE8 : Hid (Ends (w8.setCell ⟨g, n * 401 + 400, none⟩ (.int .i64 ((k : Int) + 1))) g d (fun j => if j = n then k + 1 else r j)) := Lib.hid (by
          have h1 := HK8.out.step hn (k + 1)
          rw [show ((k + 1 : Nat) : Int) = (k : Int) + 1 by omega, show (fun j => if j = n then k + 1 else (fun j => if j = n then k else r j) j) = (fun j => if j = n then k + 1 else r j) by funext j; by_cases e : j = n <;> simp [e]] at h1
          exact h1)
        have HO8 : Hid (OC layB 5 (w8.setCell ⟨g, n * 401 + 400, none⟩ (.int .i64 ((k : Int) + 1))) w1.heap.size v8 (sb d (200 * n) b (k + 1))) := Lib.hid (HB8.out.more (set_grown w8 g _ _) (by
          right
          intro e
          have := (HB8.out.lt g e).1
          have := HG.out
          omega))
        have HW9 : Hid (w1.grownBy (w8.setCell ⟨g, n * 401 + 400, none⟩ (.int .i64 ((k : Int) + 1))) (some g)) := Lib.hid (grown_set HW8.out _ _)
        go_wp2_with fail
        go_roundg (gk - 1)
        case measure => omega
        case rel => exact ⟨k + 1, v8, rfl, by omega, by omega, HO8, HE8, HW9, HD2⟩
      · have h0' : d (200 * n + k) = 0 := by omega
        rw [decide_eq_false h0] at q1
        obtain ⟨hf, p, n1, cp, rfl, hcv⟩ := HX0.out (.inr h0')
        have HCV := Lib.hid hcv
        have HF := Lib.hid hf
        clear h0 HX0 q2 hcv hf
        go_wp2_with fail
        go_quiet (fail)
        have hcv := HCV.out nq
        go_wp2_with fail
        go_ret2
        exact ⟨rfl, by rw [HF.out]; exact HK.out.drewN _, grown_drewN HW.out _⟩
    · obtain rfl : k = 200 := by omega
      have u1 : decide ((200 : Int) < 200) = false := by decide
      obtain ⟨hf, p, n1, cp, rfl, hcv⟩ := HX0.out (.inl rfl)
      have HCV := Lib.hid hcv
      have HF := Lib.hid hf
      clear HX0 hcv hf
      go_wp2_with fail
      go_quiet (fail)
      have hcv := HCV.out nq
      go_wp2_with fail
      go_ret2
      exact ⟨rfl, by rw [HF.out]; exact HK.out.drewN _, grown_drewN HW.out _⟩
/-- Read, whatever it is asked. -/
theorem read_any (g : Nat) (d r : Nat → Nat) (hO : Okm d r) (n : Int) (w : World) (H : Ends w g d r) (t : ByteArray) (ht : textM d r n = t) (c : Int) (hc : codeR n = c) (S : Nat → Nat) (hS : readR d r n = S) :
    Calls Try.prog 12 #[.pointer (some ⟨g, 0, none⟩), .int .i64 n] w fun e w' => e = .returned (.tuple #[.string t, er c]) ∧ Ends w' g d S ∧ w.grownBy w' (some g) := by
  subst ht hc hS
  by_cases h : isS n
  · obtain ⟨k, rfl⟩ : ∃ k : Nat, n = (k : Int) := ⟨n.toNat, by have := h.1; omega⟩
    unfold textM codeR readR endM
    simp only [if_pos h, Int.toNat_natCast]
    exact read_good g d r hO k (by have := h.2; omega) w H _ rfl
  · unfold textM codeR readR
    simp only [if_neg h]
    refine (read_bad g n w h).mono ?_
    rintro e w' ⟨rfl, rfl⟩
    exact ⟨rfl, H, grefl _ _⟩
end Go.Proofs.Ytcleanjacijfoaa.Mux
