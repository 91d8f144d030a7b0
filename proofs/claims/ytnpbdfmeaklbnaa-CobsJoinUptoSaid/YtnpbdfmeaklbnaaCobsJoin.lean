/- Two inputs with a 0 between them are written as the one and the other one, one behind the other, if the last block of the one is not full: the law returns true for every input of at most 1048576 parts. -/
import Derived.Test.YtnpbdfmeaklbnaaCobsLaw
import Derived.Test.YtnpbdfmeaklbnaaApt
namespace Go.Proofs.Ytnpbdfmeaklbnaa.cobsJoinP
open Go.ChangeShapes Go.WideShapes Go.ChangeAt Go.RowKit
open Go.Proofs.Ytnpbdfmeaklbnaa.Kit Go.Proofs.Ytnpbdfmeaklbnaa.App Go.Proofs.Ytnpbdfmeaklbnaa.CobsMath Go.Proofs.Ytnpbdfmeaklbnaa.Cobs
set_option linter.unusedVariables false
set_option maxRecDepth 20000

theorem law_big (p q : Option Addr) (cap cap2 : Nat) (a b : List Int) (w : World) (ha : Ints w p cap a) (hb : Ints w q cap2 b) (hs : a.length ≤ 1048576) (ht : b.length ≤ 1048576) (hl : 600 ≤ a.length + b.length) :
    Calls Try.prog 4 #[.slice p a.length cap, .slice q b.length cap2] w fun e w' => e = .returned (.bool true) ∧ Below w.heap.size w w' := by
  have t1 : decide ((a.length : Int) + (b.length : Int) ≥ 600) = true := decide_eq_true (by omega)
  go_enter Try.func4, Try.ntmps4
  go_wp2_with fail
  refine (fact_any _).mono ?_; rintro e w1 ⟨rfl, hb1⟩
  go_wp2_with fail
  go_ret
  exact ⟨rfl, hb1⟩

theorem both_bad {a b : List Int} (h : a.length + b.length < 600) (hx : byt a = false ∨ byt b = false) : bad 600 (a ++ [0] ++ b) = 1 := by
  unfold bad
  rw [if_neg (by simp; omega), byt_append, byt_append]
  rcases hx with h | h <;> rw [h] <;> simp
theorem one_bad {a : List Int} (h : a.length ≤ 600) (hx : byt a = false) : bad 600 a = 1 := by
  unfold bad
  rw [if_neg (by omega), hx]; rfl

theorem tl_step {a : List Int} {k j : Nat} (h : a.length = k + 1 + j) : a.reverse[k]?.getD 0 = a[j]?.getD 0 := by
  rw [List.getElem?_reverse (by omega), show a.length - 1 - k = j by omega]

set_option maxHeartbeats 400000 in
theorem law_bb (p q : Option Addr) (cap cap2 : Nat) (a b : List Int) (w : World) (ha : Ints w p cap a) (hb : Ints w q cap2 b) (hl : a.length + b.length < 600) (ka : byt a = false) (kb : byt b = false) :
    Calls Try.prog 4 #[.slice p a.length cap, .slice q b.length cap2] w fun e w' => e = .returned (.bool true) ∧ Below w.heap.size w w' := by
  have hla : a.length ≤ 600 := by omega
  have hlb : b.length ≤ 600 := by omega
  have SA := Lib.hid (fun W (hh : Ints W p cap a) => write_bad p cap a.length a W rfl hh 1 (one_bad hla ka) (by decide))
  have SB := Lib.hid (fun W (hh : Ints W q cap2 b) => write_bad q cap2 b.length b W rfl hh 1 (one_bad hlb kb) (by decide))
  obtain ⟨L, hL⟩ : ∃ L, a ++ [0] ++ b = L := ⟨_, rfl⟩
  have hbb := both_bad hl (.inl ka)
  rw [hL] at hbb
  have HL := Lib.hid hL
  have SC := Lib.hid (fun x c W (hh : Ints W x c L) => write_bad x c _ L W rfl hh 1 hbb (by decide))
  clear hL hbb
  have t1 : decide ((a.length : Int) + (b.length : Int) ≥ 600) = false := decide_eq_false (by omega)
  clear ka kb
  go_enter Try.func4, Try.ntmps4
  go_wp2_with fail
  refine (fact_any _).mono ?_; rintro e w1 ⟨rfl, hb1⟩
  have hBs1 := hb1.size
  have hn0 : OwnI w1 w.heap.size (.slice none 0 0) [] := OwnI.nil _ _
  go_wp2_with (first
    | (at_builtin
       refine wp_app rfl (.tmp 23) (.tmp 24) rfl w.heap.size _ [] p cap a.length a rfl hn0 rfl rfl (ha.below hb1) (by simp; omega) hBs1 ?_
       intro va wa howna hga hata
       have hBa : Below w.heap.size w wa := below_app hb1 hn0 hga hBs1
       have hBsa := hBa.size
       rw [List.nil_append] at howna
       clear hata hga hn0)
    | (at_builtin
       refine wp_app rfl (.tmp 26) (.tmp 27) rfl w.heap.size va a (some ⟨wa.heap.size, 0, none⟩) 1 1 [0] rfl (howna.alloc _) rfl rfl (Ints.one wa 0 wf_zero) (by simp; omega) (Nat.le_trans hBsa (by simp)) ?_
       intro vb wb hownb hgb hatb
       have hBb : Below w.heap.size w wb := below_one hBa hBsa _ howna hgb
       have hBsb := hBb.size
       clear hatb hgb)
    | (at_builtin
       refine wp_app rfl (.tmp 29) (.tmp 30) rfl w.heap.size vb (a ++ [0]) q cap2 b.length b rfl hownb rfl rfl (hb.below hBb) (by simp; omega) hBsb ?_
       intro vc wc hownc hgc hatc
       have hBc : Below w.heap.size w wc := below_app hBb hownb hgc hBsb
       have hBsc := hBc.size
       rw [HL.out] at hownc
       clear hatc hgc))
  refine (SA.out wc (ha.below hBc)).mono ?_; rintro e w2 ⟨rfl, rfl⟩
  have hB2 := hBc
  go_wp2_with fail
  refine (SB.out _ (hb.below hB2)).mono ?_; rintro e w3 ⟨rfl, rfl⟩
  have hB3 := hB2
  obtain ⟨pz, cz, rfl, hz⟩ := hownc.form
  go_wp2_with fail
  refine (SC.out pz cz _ hz).mono ?_; rintro e w4 ⟨rfl, rfl⟩
  go_wp2_with fail
  go_ret
  exact ⟨rfl, hB3⟩

set_option maxHeartbeats 400000 in
theorem law_bg (p q : Option Addr) (cap cap2 : Nat) (a b : List Int) (w : World) (ha : Ints w p cap a) (hb : Ints w q cap2 b) (hl : a.length + b.length < 600) (ka : byt a = false) (kb : byt b = true) :
    Calls Try.prog 4 #[.slice p a.length cap, .slice q b.length cap2] w fun e w' => e = .returned (.bool true) ∧ Below w.heap.size w w' := by
  have hla : a.length ≤ 600 := by omega
  have hlb : b.length ≤ 600 := by omega
  have SA := Lib.hid (fun W (hh : Ints W p cap a) => write_bad p cap a.length a W rfl hh 1 (one_bad hla ka) (by decide))
  have SB := Lib.hid (fun W (hh : Ints W q cap2 b) => write_ok q cap2 b.length b W rfl hh (bad_of hlb kb))
  obtain ⟨L, hL⟩ : ∃ L, a ++ [0] ++ b = L := ⟨_, rfl⟩
  have hbb := both_bad hl (.inl ka)
  rw [hL] at hbb
  have HL := Lib.hid hL
  have SC := Lib.hid (fun x c W (hh : Ints W x c L) => write_bad x c _ L W rfl hh 1 hbb (by decide))
  clear hL hbb
  have t1 : decide ((a.length : Int) + (b.length : Int) ≥ 600) = false := decide_eq_false (by omega)
  clear ka kb
  go_enter Try.func4, Try.ntmps4
  go_wp2_with fail
  refine (fact_any _).mono ?_; rintro e w1 ⟨rfl, hb1⟩
  have hBs1 := hb1.size
  have hn0 : OwnI w1 w.heap.size (.slice none 0 0) [] := OwnI.nil _ _
  go_wp2_with (first
    | (at_builtin
       refine wp_app rfl (.tmp 23) (.tmp 24) rfl w.heap.size _ [] p cap a.length a rfl hn0 rfl rfl (ha.below hb1) (by simp; omega) hBs1 ?_
       intro va wa howna hga hata
       have hBa : Below w.heap.size w wa := below_app hb1 hn0 hga hBs1
       have hBsa := hBa.size
       rw [List.nil_append] at howna
       clear hata hga hn0)
    | (at_builtin
       refine wp_app rfl (.tmp 26) (.tmp 27) rfl w.heap.size va a (some ⟨wa.heap.size, 0, none⟩) 1 1 [0] rfl (howna.alloc _) rfl rfl (Ints.one wa 0 wf_zero) (by simp; omega) (Nat.le_trans hBsa (by simp)) ?_
       intro vb wb hownb hgb hatb
       have hBb : Below w.heap.size w wb := below_one hBa hBsa _ howna hgb
       have hBsb := hBb.size
       clear hatb hgb)
    | (at_builtin
       refine wp_app rfl (.tmp 29) (.tmp 30) rfl w.heap.size vb (a ++ [0]) q cap2 b.length b rfl hownb rfl rfl (hb.below hBb) (by simp; omega) hBsb ?_
       intro vc wc hownc hgc hatc
       have hBc : Below w.heap.size w wc := below_app hBb hownb hgc hBsb
       have hBsc := hBc.size
       rw [HL.out] at hownc
       clear hatc hgc))
  refine (SA.out wc (ha.below hBc)).mono ?_; rintro e w2 ⟨rfl, rfl⟩
  have hB2 := hBc
  go_wp2_with fail
  refine (SB.out _ (hb.below hB2)).mono ?_; rintro e w3 ⟨vy, rfl, hoy, hby⟩
  have hB3 := bcall hB2 hby
  obtain ⟨pz, cz, rfl, hz⟩ := (hownc.below hby).form
  go_wp2_with fail
  refine (SC.out pz cz _ hz).mono ?_; rintro e w4 ⟨rfl, rfl⟩
  go_wp2_with fail
  go_ret
  exact ⟨rfl, hB3⟩

set_option maxHeartbeats 400000 in
theorem law_gb (p q : Option Addr) (cap cap2 : Nat) (a b : List Int) (w : World) (ha : Ints w p cap a) (hb : Ints w q cap2 b) (hl : a.length + b.length < 600) (ka : byt a = true) (kb : byt b = false) :
    Calls Try.prog 4 #[.slice p a.length cap, .slice q b.length cap2] w fun e w' => e = .returned (.bool true) ∧ Below w.heap.size w w' := by
  have hla : a.length ≤ 600 := by omega
  have hlb : b.length ≤ 600 := by omega
  have SA := Lib.hid (fun W (hh : Ints W p cap a) => write_ok p cap a.length a W rfl hh (bad_of hla ka))
  have SB := Lib.hid (fun W (hh : Ints W q cap2 b) => write_bad q cap2 b.length b W rfl hh 1 (one_bad hlb kb) (by decide))
  obtain ⟨L, hL⟩ : ∃ L, a ++ [0] ++ b = L := ⟨_, rfl⟩
  have hbb := both_bad hl (.inr kb)
  rw [hL] at hbb
  have HL := Lib.hid hL
  have SC := Lib.hid (fun x c W (hh : Ints W x c L) => write_bad x c _ L W rfl hh 1 hbb (by decide))
  clear hL hbb
  have t1 : decide ((a.length : Int) + (b.length : Int) ≥ 600) = false := decide_eq_false (by omega)
  clear ka kb
  go_enter Try.func4, Try.ntmps4
  go_wp2_with fail
  refine (fact_any _).mono ?_; rintro e w1 ⟨rfl, hb1⟩
  have hBs1 := hb1.size
  have hn0 : OwnI w1 w.heap.size (.slice none 0 0) [] := OwnI.nil _ _
  go_wp2_with (first
    | (at_builtin
       refine wp_app rfl (.tmp 23) (.tmp 24) rfl w.heap.size _ [] p cap a.length a rfl hn0 rfl rfl (ha.below hb1) (by simp; omega) hBs1 ?_
       intro va wa howna hga hata
       have hBa : Below w.heap.size w wa := below_app hb1 hn0 hga hBs1
       have hBsa := hBa.size
       rw [List.nil_append] at howna
       clear hata hga hn0)
    | (at_builtin
       refine wp_app rfl (.tmp 26) (.tmp 27) rfl w.heap.size va a (some ⟨wa.heap.size, 0, none⟩) 1 1 [0] rfl (howna.alloc _) rfl rfl (Ints.one wa 0 wf_zero) (by simp; omega) (Nat.le_trans hBsa (by simp)) ?_
       intro vb wb hownb hgb hatb
       have hBb : Below w.heap.size w wb := below_one hBa hBsa _ howna hgb
       have hBsb := hBb.size
       clear hatb hgb)
    | (at_builtin
       refine wp_app rfl (.tmp 29) (.tmp 30) rfl w.heap.size vb (a ++ [0]) q cap2 b.length b rfl hownb rfl rfl (hb.below hBb) (by simp; omega) hBsb ?_
       intro vc wc hownc hgc hatc
       have hBc : Below w.heap.size w wc := below_app hBb hownb hgc hBsb
       have hBsc := hBc.size
       rw [HL.out] at hownc
       clear hatc hgc))
  refine (SA.out wc (ha.below hBc)).mono ?_; rintro e w2 ⟨vx, rfl, hox, hbx⟩
  have hB2 := bcall hBc hbx
  go_wp2_with fail
  refine (SB.out _ (hb.below hB2)).mono ?_; rintro e w3 ⟨rfl, rfl⟩
  have hB3 := hB2
  obtain ⟨pz, cz, rfl, hz⟩ := (hownc.below hbx).form
  go_wp2_with fail
  refine (SC.out pz cz _ hz).mono ?_; rintro e w4 ⟨rfl, rfl⟩
  go_wp2_with fail
  go_ret
  exact ⟨rfl, hB3⟩

set_option maxHeartbeats 1000000 in
theorem law_gg (p q : Option Addr) (cap cap2 : Nat) (a b : List Int) (w : World) (ha : Ints w p cap a) (hb : Ints w q cap2 b) (hl : a.length + b.length < 600) (ka : byt a = true) (kb : byt b = true) :
    Calls Try.prog 4 #[.slice p a.length cap, .slice q b.length cap2] w fun e w' => e = .returned (.bool true) ∧ Below w.heap.size w w' := by
  have hla : a.length ≤ 600 := by omega
  have hlb : b.length ≤ 600 := by omega
  have SA := Lib.hid (fun W (hh : Ints W p cap a) => write_ok p cap a.length a W rfl hh (bad_of hla ka))
  have SB := Lib.hid (fun W (hh : Ints W q cap2 b) => write_ok q cap2 b.length b W rfl hh (bad_of hlb kb))
  obtain ⟨L, hL⟩ : ∃ L, a ++ [0] ++ b = L := ⟨_, rfl⟩
  have hbb : bad 600 (a ++ [0] ++ b) = 0 := bad_of (by simp; omega) (by rw [byt_append, byt_append, ka, kb]; rfl)
  rw [hL] at hbb
  have HL := Lib.hid hL
  have SC := Lib.hid (fun x c W (hh : Ints W x c L) => write_ok x c _ L W rfl hh hbb)
  have t1 : decide ((a.length : Int) + (b.length : Int) ≥ 600) = false := decide_eq_false (by omega)
  have hj := enc_join a b
  rw [List.append_cons a 0 b] at hj
  have hLa := (enc_len a).2
  have hLb := (enc_len b).2
  have hLz := (enc_len (a ++ [0] ++ b)).2
  rw [List.length_append, List.length_append] at hLz
  simp only [List.length_cons, List.length_nil] at hLz
  rw [hL] at hLz hj
  obtain ⟨x, hx⟩ : ∃ x, enc a = x := ⟨_, rfl⟩
  obtain ⟨y, hy⟩ : ∃ y, enc b = y := ⟨_, rfl⟩
  obtain ⟨z, hz⟩ : ∃ z, enc L = z := ⟨_, rfl⟩
  rw [hz, hx, hy] at hj
  rw [hx] at SA hLa
  rw [hy] at SB hLb
  rw [hz] at SC hLz
  have hzl : z.length ≤ 1000 := by omega
  have hxl : x.length ≤ 1000 := by omega
  have hyl : y.length ≤ 1000 := by omega
  have HJ := Lib.hid hj
  clear ka kb hx hy hz hj hLa hLb hLz hL hbb
  go_enter Try.func4, Try.ntmps4
  go_wp2_with fail
  refine (fact_any _).mono ?_; rintro e w1 ⟨rfl, hb1⟩
  have hBs1 := hb1.size
  have hn0 : OwnI w1 w.heap.size (.slice none 0 0) [] := OwnI.nil _ _
  go_wp2_with (first
    | (at_builtin
       refine wp_app rfl (.tmp 23) (.tmp 24) rfl w.heap.size _ [] p cap a.length a rfl hn0 rfl rfl (ha.below hb1) (by simp; omega) hBs1 ?_
       intro va wa howna hga hata
       have hBa : Below w.heap.size w wa := below_app hb1 hn0 hga hBs1
       have hBsa := hBa.size
       rw [List.nil_append] at howna
       clear hata hga hn0)
    | (at_builtin
       refine wp_app rfl (.tmp 26) (.tmp 27) rfl w.heap.size va a (some ⟨wa.heap.size, 0, none⟩) 1 1 [0] rfl (howna.alloc _) rfl rfl (Ints.one wa 0 wf_zero) (by simp; omega) (Nat.le_trans hBsa (by simp)) ?_
       intro vb wb hownb hgb hatb
       have hBb : Below w.heap.size w wb := below_one hBa hBsa _ howna hgb
       have hBsb := hBb.size
       clear hatb hgb)
    | (at_builtin
       refine wp_app rfl (.tmp 29) (.tmp 30) rfl w.heap.size vb (a ++ [0]) q cap2 b.length b rfl hownb rfl rfl (hb.below hBb) (by simp; omega) hBsb ?_
       intro vc wc hownc hgc hatc
       have hBc : Below w.heap.size w wc := below_app hBb hownb hgc hBsb
       have hBsc := hBc.size
       rw [HL.out] at hownc
       clear hatc hgc))
  refine (SA.out wc (ha.below hBc)).mono ?_; rintro e w2 ⟨vx, rfl, hox, hbx⟩
  have hB2 := bcall hBc hbx
  go_wp2_with fail
  refine (SB.out _ (hb.below hB2)).mono ?_; rintro e w3 ⟨vy, rfl, hoy, hby⟩
  have hB3 := bcall hB2 hby
  obtain ⟨pz, cz, rfl, hz⟩ := ((hownc.below hbx).below hby).form
  go_wp2_with fail
  refine (SC.out pz cz _ hz).mono ?_; rintro e w4 ⟨vz, rfl, hoz, hbz⟩
  have hB4 := bcall hB3 hbz
  have hax : Apt vx vy := Apt.split _ (fun k hk => (hox.lt k hk).2) (fun k hk => (hoy.lt k hk).1)
  have haxz : Apt vx vz := Apt.split w3.heap.size (fun k hk => by have := (hox.lt k hk).2; have := hby.size; omega) (fun k hk => (hoz.lt k hk).1)
  have hx4 := (hox.below hby).below hbz
  have hy4 := hoy.below hbz
  have hs2 := hby.size
  have hs3 := hbz.size
  have hs1 := hbx.size
  have hx5 := own_mono hx4 hBsc
  clear SA SB SC hz hownc hownb howna hox hoy hb hBa hBb hBc hB2 hB3 hb1 hx4
  have hA := ha.below hB4
  have hBs4 := hB4.size
  go_wp2_with fail
  go_loop [13] (fun i => ∃ k : Nat, k ≤ tl a ∧ i = .int .i64 k) (fun i => a.length - (intOf i).toNat)
  case atStart => exact ⟨0, Nat.zero_le _, rfl⟩
  case round =>
    obtain ⟨k, hk, rfl⟩ := hrel
    have htl : tl a ≤ a.length := by have := run_le a.reverse; rw [List.length_reverse] at this; exact this
    by_cases hlt : k < tl a
    · obtain ⟨j, hjk⟩ : ∃ j, a.length = k + 1 + j := ⟨a.length - (k + 1), by omega⟩
      have hne := run_get (l := a.reverse) (k := k) hlt
      rw [tl_step hjk] at hne
      obtain ⟨bb, off, rfl, hbw, hc⟩ := hA.2.2.2 (by omega)
      have hck := hc j (by omega)
      obtain ⟨c, hcc⟩ : ∃ c, a[j]?.getD 0 = c := ⟨_, rfl⟩
      rw [hcc] at hck hne
      have hix : ((a.length : Int) - 1 - (k : Int)) = (j : Int) := by omega
      have t2 : decide ((k : Int) < (a.length : Int)) = true := decide_eq_true (by omega)
      have t3 : (c != 0) = true := by rw [bne_iff_ne]; exact hne
      clear hc hcc hA
      go_wp2_with fail
      exact ⟨⟨k + 1, by omega, by simp⟩, by simp [intOf]; omega⟩
    · have hkt : k = tl a := by omega
      have hat := fun hh : tl a < a.length => run_at (l := a.reverse) (by rw [List.length_reverse]; exact hh)
      have hmid : mid a = if 0 < tl a ∧ tl a % 254 = 0 then [1] else [] := rfl
      have hat' : ∀ hh : tl a < a.length, a.reverse[tl a]?.getD 0 = 0 := hat
      rw [← hkt] at hat' hmid htl
      have HM := Lib.hid hmid
      have HAT := Lib.hid hat'
      clear hat hat' hmid hkt hlt hk
      have hw1 : (Lit.int .i64 1).wf = true := by decide
      have hyb := fun kk hk => (hy4.lt kk hk).2
      have hzb := fun kk hk => (hoz.lt kk hk).2
      by_cases hlt : k < a.length
      · obtain ⟨j, hjk⟩ : ∃ j, a.length = k + 1 + j := ⟨a.length - (k + 1), by omega⟩
        have h00 := HAT.out (by omega)
        rw [tl_step hjk] at h00
        obtain ⟨bb, off, rfl, hbw, hc⟩ := hA.2.2.2 (by omega)
        have hck := hc j (by omega)
        rw [h00] at hck
        have hix : ((a.length : Int) - 1 - (k : Int)) = (j : Int) := by omega
        have t2 : decide ((k : Int) < (a.length : Int)) = true := decide_eq_true (by omega)
        clear hc hA h00
        by_cases h0 : k = 0
        · have t3 : decide ((k : Int) > 0) = false := decide_eq_false (by omega)
          have t5 : ¬ 0 < k := by omega
          have HJ2 := HJ.out
          rw [HM.out, if_neg (by omega)] at HJ2
          rw [List.append_nil] at HJ2
          have HJ3 := Lib.hid HJ2
          clear HJ2
          obtain ⟨pz4, cz4, rfl, _⟩ := hoz.form
          obtain ⟨py4, cy4, rfl, hyi⟩ := hy4.form
          have hyx := hax.symm
          have hzx := haxz.symm
          clear ha
          clear h0
          go_wp2_with (first
            | (at_builtin
               refine wp_app rfl (.tmp 95) (.tmp 96) rfl w.heap.size vx (x) py4 cy4 y.length y rfl hx5 rfl rfl hyi (by first | omega | (simp; omega)) hBs4 ?_
               intro ve we howne hge hate
               have hBe : Below w.heap.size w we := below_app hB4 hx5 hge hBs4
               have hze := hoz.more hge hzx.ne
               clear hate hge))
          rw [← HJ3.out] at howne
          obtain ⟨pe, ce, rfl, hie⟩ := howne.form
          obtain ⟨_, _, ez, hiz⟩ := hze.form
          injection ez with ez1 ez2 ez3
          subst ez1
          subst ez3
          refine (ints_any pz4 pe cz4 ce z.length z.length z z we rfl rfl hiz hie true (by simp)).mono ?_; rintro e w6 ⟨rfl, hb6⟩
          have hB6 := bcall hBe hb6
          go_wp2_with fail
          go_ret
          exact ⟨rfl, hB6⟩
        · have t3 : decide ((k : Int) > 0) = true := decide_eq_true (by omega)
          have t5 : 0 < k := by omega
          by_cases h1 : k % 254 = 0
          · have t4 : ((k : Int) % 254 == 0) = true := by rw [beq_iff_eq]; omega
            have HJ2 := HJ.out
            rw [HM.out, if_pos (by omega)] at HJ2
            have HJ3 := Lib.hid HJ2
            clear HJ2
            obtain ⟨pz4, cz4, rfl, _⟩ := hoz.form
            obtain ⟨py4, cy4, rfl, _⟩ := hy4.form
            have hyx := hax.symm
            have hzx := haxz.symm
            clear ha
            clear h0 h1
            go_wp2_with (first
              | (at_builtin
                 refine wp_app rfl (.tmp 91) (.tmp 92) rfl w.heap.size vx x (some ⟨w4.heap.size, 0, none⟩) 1 1 [1] rfl (hx5.alloc _) rfl rfl (Ints.one w4 1 hw1) (by simp; omega) (Nat.le_trans hBs4 (by simp)) ?_
                 intro vd wd hownd hgd hatd
                 have hBd : Below w.heap.size w wd := below_one hB4 hBs4 _ hx5 hgd
                 have hyd := (hy4.alloc _).more hgd hyx.ne
                 have hzd := (hoz.alloc _).more hgd hzx.ne
                 obtain ⟨_, _, ey, hyi⟩ := hyd.form
                 injection ey with ey1 ey2 ey3
                 subst ey1
                 subst ey3
                 have hyx2 := hyx.grow hyb (show w4.heap.size ≤ (w4.alloc _).heap.size by simp) hatd
                 have hzx2 := hzx.grow hzb (show w4.heap.size ≤ (w4.alloc _).heap.size by simp) hatd
                 have hBsd := hBd.size
                 clear hatd hgd)
              | (at_builtin
                 refine wp_app rfl (.tmp 95) (.tmp 96) rfl w.heap.size vd (x ++ [1]) py4 cy4 y.length y rfl hownd rfl rfl hyi (by first | omega | (simp; omega)) hBsd ?_
                 intro ve we howne hge hate
                 have hBe : Below w.heap.size w we := below_app hBd hownd hge hBsd
                 have hze := hzd.more hge hzx2.ne
                 clear hate hge))
            rw [← HJ3.out] at howne
            obtain ⟨pe, ce, rfl, hie⟩ := howne.form
            obtain ⟨_, _, ez, hiz⟩ := hze.form
            injection ez with ez1 ez2 ez3
            subst ez1
            subst ez3
            refine (ints_any pz4 pe cz4 ce z.length z.length z z we rfl rfl hiz hie true (by simp)).mono ?_; rintro e w6 ⟨rfl, hb6⟩
            have hB6 := bcall hBe hb6
            go_wp2_with fail
            go_ret
            exact ⟨rfl, hB6⟩
          · have t4 : ((k : Int) % 254 == 0) = false := by rw [beq_eq_false_iff_ne]; omega
            have HJ2 := HJ.out
            rw [HM.out, if_neg (by omega)] at HJ2
            rw [List.append_nil] at HJ2
            have HJ3 := Lib.hid HJ2
            clear HJ2
            obtain ⟨pz4, cz4, rfl, _⟩ := hoz.form
            obtain ⟨py4, cy4, rfl, hyi⟩ := hy4.form
            have hyx := hax.symm
            have hzx := haxz.symm
            clear ha
            clear h0 h1
            go_wp2_with (first
              | (at_builtin
                 refine wp_app rfl (.tmp 95) (.tmp 96) rfl w.heap.size vx (x) py4 cy4 y.length y rfl hx5 rfl rfl hyi (by first | omega | (simp; omega)) hBs4 ?_
                 intro ve we howne hge hate
                 have hBe : Below w.heap.size w we := below_app hB4 hx5 hge hBs4
                 have hze := hoz.more hge hzx.ne
                 clear hate hge))
            rw [← HJ3.out] at howne
            obtain ⟨pe, ce, rfl, hie⟩ := howne.form
            obtain ⟨_, _, ez, hiz⟩ := hze.form
            injection ez with ez1 ez2 ez3
            subst ez1
            subst ez3
            refine (ints_any pz4 pe cz4 ce z.length z.length z z we rfl rfl hiz hie true (by simp)).mono ?_; rintro e w6 ⟨rfl, hb6⟩
            have hB6 := bcall hBe hb6
            go_wp2_with fail
            go_ret
            exact ⟨rfl, hB6⟩
      · have t2 : decide ((k : Int) < (a.length : Int)) = false := decide_eq_false (by omega)
        by_cases h0 : k = 0
        · have t3 : decide ((k : Int) > 0) = false := decide_eq_false (by omega)
          have t5 : ¬ 0 < k := by omega
          have HJ2 := HJ.out
          rw [HM.out, if_neg (by omega)] at HJ2
          rw [List.append_nil] at HJ2
          have HJ3 := Lib.hid HJ2
          clear HJ2
          obtain ⟨pz4, cz4, rfl, _⟩ := hoz.form
          obtain ⟨py4, cy4, rfl, hyi⟩ := hy4.form
          have hyx := hax.symm
          have hzx := haxz.symm
          clear ha
          clear h0
          go_wp2_with (first
            | (at_builtin
               refine wp_app rfl (.tmp 95) (.tmp 96) rfl w.heap.size vx (x) py4 cy4 y.length y rfl hx5 rfl rfl hyi (by first | omega | (simp; omega)) hBs4 ?_
               intro ve we howne hge hate
               have hBe : Below w.heap.size w we := below_app hB4 hx5 hge hBs4
               have hze := hoz.more hge hzx.ne
               clear hate hge))
          rw [← HJ3.out] at howne
          obtain ⟨pe, ce, rfl, hie⟩ := howne.form
          obtain ⟨_, _, ez, hiz⟩ := hze.form
          injection ez with ez1 ez2 ez3
          subst ez1
          subst ez3
          refine (ints_any pz4 pe cz4 ce z.length z.length z z we rfl rfl hiz hie true (by simp)).mono ?_; rintro e w6 ⟨rfl, hb6⟩
          have hB6 := bcall hBe hb6
          go_wp2_with fail
          go_ret
          exact ⟨rfl, hB6⟩
        · have t3 : decide ((k : Int) > 0) = true := decide_eq_true (by omega)
          have t5 : 0 < k := by omega
          by_cases h1 : k % 254 = 0
          · have t4 : ((k : Int) % 254 == 0) = true := by rw [beq_iff_eq]; omega
            have HJ2 := HJ.out
            rw [HM.out, if_pos (by omega)] at HJ2
            have HJ3 := Lib.hid HJ2
            clear HJ2
            obtain ⟨pz4, cz4, rfl, _⟩ := hoz.form
            obtain ⟨py4, cy4, rfl, _⟩ := hy4.form
            have hyx := hax.symm
            have hzx := haxz.symm
            clear ha
            clear h0 h1
            go_wp2_with (first
              | (at_builtin
                 refine wp_app rfl (.tmp 91) (.tmp 92) rfl w.heap.size vx x (some ⟨w4.heap.size, 0, none⟩) 1 1 [1] rfl (hx5.alloc _) rfl rfl (Ints.one w4 1 hw1) (by simp; omega) (Nat.le_trans hBs4 (by simp)) ?_
                 intro vd wd hownd hgd hatd
                 have hBd : Below w.heap.size w wd := below_one hB4 hBs4 _ hx5 hgd
                 have hyd := (hy4.alloc _).more hgd hyx.ne
                 have hzd := (hoz.alloc _).more hgd hzx.ne
                 obtain ⟨_, _, ey, hyi⟩ := hyd.form
                 injection ey with ey1 ey2 ey3
                 subst ey1
                 subst ey3
                 have hyx2 := hyx.grow hyb (show w4.heap.size ≤ (w4.alloc _).heap.size by simp) hatd
                 have hzx2 := hzx.grow hzb (show w4.heap.size ≤ (w4.alloc _).heap.size by simp) hatd
                 have hBsd := hBd.size
                 clear hatd hgd)
              | (at_builtin
                 refine wp_app rfl (.tmp 95) (.tmp 96) rfl w.heap.size vd (x ++ [1]) py4 cy4 y.length y rfl hownd rfl rfl hyi (by first | omega | (simp; omega)) hBsd ?_
                 intro ve we howne hge hate
                 have hBe : Below w.heap.size w we := below_app hBd hownd hge hBsd
                 have hze := hzd.more hge hzx2.ne
                 clear hate hge))
            rw [← HJ3.out] at howne
            obtain ⟨pe, ce, rfl, hie⟩ := howne.form
            obtain ⟨_, _, ez, hiz⟩ := hze.form
            injection ez with ez1 ez2 ez3
            subst ez1
            subst ez3
            refine (ints_any pz4 pe cz4 ce z.length z.length z z we rfl rfl hiz hie true (by simp)).mono ?_; rintro e w6 ⟨rfl, hb6⟩
            have hB6 := bcall hBe hb6
            go_wp2_with fail
            go_ret
            exact ⟨rfl, hB6⟩
          · have t4 : ((k : Int) % 254 == 0) = false := by rw [beq_eq_false_iff_ne]; omega
            have HJ2 := HJ.out
            rw [HM.out, if_neg (by omega)] at HJ2
            rw [List.append_nil] at HJ2
            have HJ3 := Lib.hid HJ2
            clear HJ2
            obtain ⟨pz4, cz4, rfl, _⟩ := hoz.form
            obtain ⟨py4, cy4, rfl, hyi⟩ := hy4.form
            have hyx := hax.symm
            have hzx := haxz.symm
            clear ha
            clear h0 h1
            go_wp2_with (first
              | (at_builtin
                 refine wp_app rfl (.tmp 95) (.tmp 96) rfl w.heap.size vx (x) py4 cy4 y.length y rfl hx5 rfl rfl hyi (by first | omega | (simp; omega)) hBs4 ?_
                 intro ve we howne hge hate
                 have hBe : Below w.heap.size w we := below_app hB4 hx5 hge hBs4
                 have hze := hoz.more hge hzx.ne
                 clear hate hge))
            rw [← HJ3.out] at howne
            obtain ⟨pe, ce, rfl, hie⟩ := howne.form
            obtain ⟨_, _, ez, hiz⟩ := hze.form
            injection ez with ez1 ez2 ez3
            subst ez1
            subst ez3
            refine (ints_any pz4 pe cz4 ce z.length z.length z z we rfl rfl hiz hie true (by simp)).mono ?_; rintro e w6 ⟨rfl, hb6⟩
            have hB6 := bcall hBe hb6
            go_wp2_with fail
            go_ret
            exact ⟨rfl, hB6⟩


theorem law_any (p q : Option Addr) (cap cap2 : Nat) (a b : List Int) (w : World) (ha : Ints w p cap a) (hb : Ints w q cap2 b) (hs : a.length ≤ 1048576) (ht : b.length ≤ 1048576) :
    Calls Try.prog 4 #[.slice p a.length cap, .slice q b.length cap2] w fun e w' => e = .returned (.bool true) ∧ Below w.heap.size w w' := by
  by_cases hl : 600 ≤ a.length + b.length
  · exact law_big p q cap cap2 a b w ha hb hs ht hl
  · cases ka : byt a with
    | false => cases kb : byt b with
      | false => exact law_bb p q cap cap2 a b w ha hb (by omega) ka kb
      | true => exact law_bg p q cap cap2 a b w ha hb (by omega) ka kb
    | true => cases kb : byt b with
      | false => exact law_gb p q cap cap2 a b w ha hb (by omega) ka kb
      | true => exact law_gg p q cap cap2 a b w ha hb (by omega) ka kb

theorem reads : Try.f4.params.toList.all (fun t => Try.prog.readableRec t && decide (t < Try.prog.types.size)) = true := by kernel_rfl

theorem contract (H : Type) (enc : TypeId × Value → H) (W : World) (base : Nat) (args : Array Value) (ds gs : List (DataW H)) (before : List MemPlace)
    (hval : ∀ (j : Nat) t v, Try.f4.params[j]? = some t → args[j]? = some v → Value.okWide Try.prog W .any base t v)
    (hW : DataW.Whole enc Try.prog Try.f4.params.toList Rows.cobsJoinSpec.vars false W args.toList ds gs before) (hk : Rows.uptoSmall H (ds ++ gs) = true) :
    Calls Try.prog 4 args W fun e W' => ∃ v, e = .returned v ∧ Rows.cobsJoinSpec.post enc Try.prog Try.f4 false true false false W args v W' := by
  have hW' := hW
  obtain ⟨p, q, hA0, hV, rfl, hfz, hnd⟩ := hW
  have hA : DataW.TrodAll enc Try.prog W 0 (fun _ => true) true Try.f4.params.toList args.toList ds p := hA0
  have hlt := hA.lt
  rw [Try.params4] at hA hval
  obtain ⟨v0, vs0, d0, ds0, p0, q0, hargs, rfl, rfl, h0, r0⟩ := trodAll_cons hA
  obtain ⟨v1, vs1, d1, ds1, p1, q1, hvs1, rfl, rfl, h1, r1⟩ := trodAll_cons r0
  obtain ⟨hvsn, rfl, rfl⟩ := trodAll_nil r1
  simp only [hvsn, hvs1] at hargs
  obtain rfl : args = #[v0, v1] := by cases args; simp_all
  obtain ⟨rfl, rfl⟩ := trodVars_none hV
  clear hA0
  obtain ⟨p0a, cap0, l0, rfl, i0, e0⟩ := open_intse Try.underlying22 Try.underlying3 (by kernel_rfl) (hval 0 22 v0 rfl rfl) h0 (fun x hx => hlt x (by simp [hx]))
  obtain ⟨p1a, cap1, l1, rfl, i1, e1⟩ := open_intse Try.underlying22 Try.underlying3 (by kernel_rfl) (hval 1 22 v1 rfl rfl) h1 (fun x hx => hlt x (by simp [hx]))
  exact law_post 4 laid reads rfl Try.underlying4 rfl hW' ⟨rfl, rfl, rfl⟩ (law_any p0a p1a cap0 cap1 l0 l1 W i0 i1 (small_at (by simp) hk e0) (small_at (by simp) hk e1))

set_option maxRecDepth 100000 in
theorem lifted (os : Os) (started : os.Started) (H : Type) (enc : TypeId × Value → H) (F : Stop.Interp) :
    ReturnsInHanded {} Try.checked os 4 .any ((Rows.OpenSpec.upto Rows.cobsJoinSpec).pre6 enc Try.prog Try.f4 Rows.cobsJoinUptoRow.domain false) (((Rows.OpenSpec.upto Rows.cobsJoinSpec).at F).post enc Try.prog Try.f4 false true false false) := by
  refine returnsInHanded_of_cond (C := Try.checked) (s := Rows.OpenSpec.upto Rows.cobsJoinSpec) (k := Rows.uptoSmall) rfl own started (by kernel_rfl) Try.func4
    (OpenSpec.witness (enc := enc) (C := Try.checked) (s := Rows.OpenSpec.upto Rows.cobsJoinSpec) (k := Rows.uptoSmall) rfl false ⟨#[], #[.slice none 0 0, .slice none 0 0], []⟩ 8 (by kernel_rfl) (by kernel_rfl) (by kernel_rfl)
      (x := ([.nil, .nil], [], [])) (by kernel_rfl) rfl (by kernel_rfl)) ?_
  intro W base args ds gs before hval hW _ hk _
  exact contract H enc W base args ds gs before hval hW hk

theorem proved : Rows.CobsJoinUptoSaid :=
  OpenClaim.holds_of_cond 4 Try.f4 rfl rfl rfl rfl rfl rfl rfl ⟨rfl, rfl, rfl, rfl, rfl⟩ rfl rfl rfl rfl rfl (by kernel_rfl) Try.func4 (by kernel_rfl)
    (of_decide_eq_true (by kernel_rfl)) (by unfold Func.isWrapper; first | (rw [if_pos (by decide +kernel)]; kernel_rfl) | (rw [if_neg (by decide +kernel)]; exact ⟨rfl, rfl⟩))
    (fun os started H enc _ F => lifted os started H enc F)

end Go.Proofs.Ytnpbdfmeaklbnaa.cobsJoinP
