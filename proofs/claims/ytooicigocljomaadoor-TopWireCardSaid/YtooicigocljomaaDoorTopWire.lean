/- Bytes survive byte stuffing, 4B/5B coding, NRZI coding and their inverses, with a valid checksum: the law returns true for every input. No condition but what the card ties. -/
import Derived.Test.YtooicigocljomaaDoorLineLaw
import Derived.Test.YtooicigocljomaaDoorWireMath
import Derived.Test.YtooicigocljomaaDoorCobs4
import Derived.Test.YtooicigocljomaaDoorAll
import Derived.Test.YtooicigocljomaaDoorOnes4
import Derived.Deep.RegionHeld3
import Derived.Test.YtooicigocljomaaDoorCards
import Derived.Test.YtooicigocljomaaDoorTie
import Derived.Test.YtooicigocljomaaDoorLineLaid
import Derived.Deep.DeepHandedRow
import Derived.Lib.LaidTab
import Derived.LaidHandle
import Derived.SevenTiedAt
namespace Go.Proofs.YtooicigocljomaaDoor.topWireP
open Go.ChangeShapes Go.WideShapes Go.ChangeAt Go.RowKit
open Go.Proofs.YtooicigocljomaaDoor.Kit Go.Proofs.YtooicigocljomaaDoor.App Go.Proofs.YtooicigocljomaaDoor.WireMath
open Go.Proofs.YtooicigocljomaaDoor.Line (Codes)
set_option linter.unusedVariables false
set_option maxRecDepth 20000

theorem step_app {w : World} {ops : Array Oper} {o : Oper} {a : Act} {K : Act → World → Prop} {Q : Exit → Act → World → Prop} {E : Prop} (hgd : o.guard = none) (s x : Operand)
    (ho : o.op = .call { callee := .builtin .append, args := #[s, x], argTypes := #[22, 22] })
    (base : Nat) (v : Value) (xs : List Int) (p : Option Addr) (cap n : Nat) (l : List Int) (hs : a.eval s = v) (hown : OwnI w base v xs) (hx : a.eval x = .slice p n cap) (hn : n = l.length) (hl : Ints w p cap l)
    (hlen : xs.length + l.length ≤ 1000000000) (hbase : base ≤ w.heap.size)
    (h : ∀ v' w', OwnI w' base v' (xs ++ l) → w.grownBy w' v.ownBlock → (v'.ownBlock = v.ownBlock ∨ v'.ownBlock = some w.heap.size) → K (a.put o.dst v') w') :
    if Region.wanted o (yielded ops a.tmps) = true then Oper.wp Tryd.prog o a w K Q else E := by
  have hw : Region.wanted o (yielded ops a.tmps) = true := by simp [Region.wanted, hgd]
  rw [if_pos hw]
  obtain ⟨v', w', hrun, h2, h3, h4⟩ := run_app w o.type base v xs p cap l hown hl hlen hbase
  unfold Oper.wp execOp
  rw [hn] at hx
  simp only [ho, resolve, invoke, builtin, Sem.run_bind, Sem.run_pure, Result.andThen_ok, List.map_toArray, List.map_cons, List.map_nil, hs, hx, hrun]
  exact h v' w' h2 h3 h4

theorem wf_mid {x : Int} (h : -1000000 ≤ x ∧ x ≤ 1000000) : (Lit.int .i64 x).wf = true := by
  simp [Lit.wf, IntKind.min, IntKind.max, IntKind.signed, IntKind.bits]; omega
theorem tin_yes (n a b : Int) (w : World) (h : a ≤ n ∧ n ≤ b) : Calls Tryd.prog 20 #[.int .i64 n, .int .i64 a, .int .i64 b] w fun e w' => e = .returned (.bool true) ∧ w = w' := by
  obtain ⟨h1, h2⟩ := h
  have t1 : decide (a ≤ n) = true := decide_eq_true h1
  have t2 : decide (n ≤ b) = true := decide_eq_true h2
  go_enter Tryd.func20, Tryd.ntmps20
  go_wp2
  go_ret
  exact ⟨rfl, rfl⟩
theorem behind_any (p : Option Addr) (cap n : Nat) (l : List Int) (x : Int) (w : World) (hn : n = l.length) (h : Ints w p cap l) (hl : l.length ≤ 700) (hx : (Lit.int .i64 x).wf = true) :
    Calls Tryd.prog 21 #[.slice p n cap, .int .i64 x] w fun e w' => ∃ p' cap', e = .returned (.slice p' (n + 1) cap') ∧ Ints w' p' cap' (l ++ [x]) ∧ Below w.heap.size w w' := by
  subst hn
  go_enter Tryd.func21, Tryd.ntmps21
  go_wp2_with (first
    | (at_builtin
       refine wp_app rfl (.tmp 6) (.tmp 7) rfl w.heap.size (.slice none 0 0) [] p cap l.length l rfl (OwnI.nil _ _) rfl rfl h (by simp; omega) (Nat.le_refl _) ?_
       intro v1 w1 hown1 hg1 hat1
       rw [List.nil_append] at hown1
       have hb1 : Below w.heap.size w w1 := below_app (Below.refl _ _) (OwnI.nil w w.heap.size) hg1 (Nat.le_refl _))
    | (at_builtin
       refine wp_app rfl (.tmp 9) (.tmp 11) rfl w.heap.size v1 l (some ⟨w1.heap.size, 0, none⟩) 1 1 [x] rfl (hown1.alloc _) rfl rfl (Ints.one w1 x hx) (by simp; omega) (Nat.le_trans hb1.size (by simp)) ?_
       intro v2 w2 hown2 hg2 hat2))
  go_ret
  obtain ⟨p', cap', e, hi⟩ := hown2.form
  refine ⟨p', cap', ?_, hi, below_app (hb1.alloc hb1.size _) (hown1.alloc _) hg2 (Nat.le_trans hb1.size (by simp))⟩
  rw [List.length_append] at e
  exact congrArg Ending.returned e
theorem four_good (p : Option Addr) (cap n : Nat) (l : List Int) (w : World) (hn : n = l.length) (h : Ints w p cap l) (hC : Codes w) (h0 : LineMath.bad 200 1 l = 0) (k5 : Nat) (h5 : 5 * k5 = n) (x : List Int) (hx : LineMath.four l k5 = some x) :
    Calls Tryd.prog 17 #[.slice p n cap] w fun e w' => ∃ v, e = .returned (.tuple #[v, .nilIface]) ∧ OwnI w' w.heap.size v x ∧ Below w.heap.size w w' := by
  refine (Line.four_any p cap n l w hC hn h h0 k5 h5 (some x) hx.symm).mono ?_
  rintro e w' ⟨hb, ⟨h1, _⟩ | ⟨x', v, h1, h2, h3⟩⟩
  · cases h1
  · cases h1; exact ⟨v, h2, h3, hb⟩
theorem good_n (n : Nat) (p : Option Addr) (cap : Nat) (zs : List Int) (w : World) (hn0 : n = zs.length) (h : Ints w p cap zs) (hn : zs.length ≤ 600) (hby : Ones.wthn zs 255 = true) (hg : Ones.onesum zs = 65535) :
    Calls Tryd.prog 24 #[.slice p n cap] w fun e w' => e = .returned (.tuple #[.bool true, .nilIface]) ∧ Below w.heap.size w w' := by
  subst hn0
  have := Ones.good_ok p cap zs w h hn hby
  rwa [hg] at this
theorem sum_n (n : Nat) (p : Option Addr) (cap : Nat) (zs : List Int) (w : World) (hn0 : n = zs.length) (h : Ints w p cap zs) (hn : zs.length ≤ 600) (hby : Ones.wthn zs 255 = true) (s : Int) (hs : 65535 - Ones.onesum zs = s) :
    Calls Tryd.prog 19 #[.slice p n cap] w fun e w' => e = .returned (.tuple #[.int .i64 s, .nilIface]) ∧ Below w.heap.size w w' := by
  subst hn0; subst hs
  exact Ones.sum_ok p cap zs w h hn hby

theorem first_five (w : World) (hC : Codes w) : ∀ W, Below w.heap.size w W → Calls Tryd.prog 10 #[.slice (some ⟨W.heap.size, 0, none⟩) 1 1] (W.alloc (.cells #[.int .i64 15] 3)) fun e w' => ∃ v, e = .returned (.tuple #[v, .nilIface]) ∧ OwnI w' W.heap.size v [1, 1, 1, 0, 1] ∧ Below W.heap.size W w' := fun W hW => by
  have s1 := Line.five_ok (some ⟨W.heap.size, 0, none⟩) 1 1 [15] _ rfl (lit_ints W [15] (by decide) (by decide)) (by decide) (((hC.below hW).below (balloc (brefl W) _)))
  rw [show LineMath.five [15] = [1, 1, 1, 0, 1] by decide] at s1
  refine s1.mono ?_
  rintro e w' ⟨v, rfl, ho, hb⟩
  exact ⟨v, rfl, own_mono ho (by simp), bcall (balloc (brefl W) _) hb⟩

set_option maxHeartbeats 4000000 in
theorem law_bad (p : Option Addr) (cap : Nat) (l : List Int) (w : World) (hC : Codes w) (h : Ints w p cap l) (hb : Ones.bad l ≠ 0) :
    Calls Tryd.prog 7 #[.slice p l.length cap] w fun e w' => e = .returned (.bool true) ∧ Below w.heap.size w w' := by
  have hlen := h.len_le
  have SV := Lib.hid (fun W (hW : Below w.heap.size w W) => Ones.sum_bad p cap l W (h.below hW) hb)
  clear hb
  have S3 := Lib.hid (fun W : World => lit_ints W [1, 1, 1, 0, 1] (by decide) (by decide))
  have F1 := Lib.hid (first_five w hC)
  have HH := Lib.hid (fun W (hW : Below w.heap.size w W) => h.below hW)
  have HC := Lib.hid (fun W (hW : Below w.heap.size w W) => hC.below hW)
  clear h hC
  go_enter Tryd.func7, Tryd.ntmps7
  go_wp2_with fail
  refine (F1.out w (brefl w)).mono ?_; rintro e w1 ⟨v, rfl, ho, hb1⟩
  obtain ⟨q, c, rfl, hi⟩ := ho.form
  clear ho
  go_wp2_with fail
  refine (ints_any q _ c 5 5 5 [1, 1, 1, 0, 1] [1, 1, 1, 0, 1] _ rfl rfl (Ints.below hi (balloc (brefl w1) _)) (S3.out w1) true rfl).mono ?_; rintro e w2 ⟨rfl, hb2⟩
  have hB2 := bcall (balloc hb1 _) hb2
  clear hb1 hb2 hi F1 S3
  go_wp2_with fail
  refine (SV.out _ hB2).mono ?_; rintro e w' ⟨rfl, rfl⟩
  go_wp2_with fail
  go_ret
  exact ⟨rfl, hB2⟩

set_option maxHeartbeats 4000000 in
theorem law_long (p : Option Addr) (cap : Nat) (l : List Int) (w : World) (hC : Codes w) (h : Ints w p cap l) (hn : l.length ≤ 600) (hby : Ones.wthn l 255 = true) (hk : 16 < l.length) :
    Calls Tryd.prog 7 #[.slice p l.length cap] w fun e w' => e = .returned (.bool true) ∧ Below w.heap.size w w' := by
  have hlen := h.len_le
  have hr := Ones.onesum_range hby
  obtain ⟨s, hs⟩ : ∃ s, 65535 - Ones.onesum l = s := ⟨_, rfl⟩
  have SV := Lib.hid (fun W (hW : Below w.heap.size w W) => sum_n l.length p cap l W rfl (h.below hW) hn hby s hs)
  have hs0 : 0 ≤ s ∧ s ≤ 65535 := by omega
  clear hs hr hby
  have t1 : decide ((l.length : Int) > 16) = true := decide_eq_true (by omega)
  clear hk
  have S3 := Lib.hid (fun W : World => lit_ints W [1, 1, 1, 0, 1] (by decide) (by decide))
  have F1 := Lib.hid (first_five w hC)
  have HH := Lib.hid (fun W (hW : Below w.heap.size w W) => h.below hW)
  have HC := Lib.hid (fun W (hW : Below w.heap.size w W) => hC.below hW)
  clear h hC
  go_enter Tryd.func7, Tryd.ntmps7
  go_wp2_with fail
  refine (F1.out w (brefl w)).mono ?_; rintro e w1 ⟨v, rfl, ho, hb1⟩
  obtain ⟨q, c, rfl, hi⟩ := ho.form
  clear ho
  go_wp2_with fail
  refine (ints_any q _ c 5 5 5 [1, 1, 1, 0, 1] [1, 1, 1, 0, 1] _ rfl rfl (Ints.below hi (balloc (brefl w1) _)) (S3.out w1) true rfl).mono ?_; rintro e w2 ⟨rfl, hb2⟩
  have hB2 := bcall (balloc hb1 _) hb2
  clear hb1 hb2 hi F1 S3
  go_wp2_with fail
  refine (SV.out _ hB2).mono ?_; rintro e w3 ⟨rfl, hb3⟩
  have hB3 := bcall hB2 hb3
  go_wp2_with fail
  refine (tin_yes s 0 65535 _ hs0).mono ?_; rintro e w' ⟨rfl, rfl⟩
  go_wp2_with fail
  go_ret
  exact ⟨rfl, hB3⟩

set_option maxHeartbeats 4000000 in
theorem law_odd (p : Option Addr) (cap : Nat) (l : List Int) (w : World) (hC : Codes w) (h : Ints w p cap l) (hn : l.length ≤ 600) (hby : Ones.wthn l 255 = true) (hk : l.length ≤ 16) (hk2 : l.length % 2 = 1) :
    Calls Tryd.prog 7 #[.slice p l.length cap] w fun e w' => e = .returned (.bool true) ∧ Below w.heap.size w w' := by
  have hlen := h.len_le
  have hr := Ones.onesum_range hby
  obtain ⟨s, hs⟩ : ∃ s, 65535 - Ones.onesum l = s := ⟨_, rfl⟩
  have SV := Lib.hid (fun W (hW : Below w.heap.size w W) => sum_n l.length p cap l W rfl (h.below hW) hn hby s hs)
  have hs0 : 0 ≤ s ∧ s ≤ 65535 := by omega
  clear hs hr hby
  have t1 : decide ((l.length : Int) > 16) = false := decide_eq_false (by omega)
  have t2 : ((l.length : Int) % 2 == 1) = true := by rw [beq_iff_eq]; omega
  clear hk hk2
  have S3 := Lib.hid (fun W : World => lit_ints W [1, 1, 1, 0, 1] (by decide) (by decide))
  have F1 := Lib.hid (first_five w hC)
  have HH := Lib.hid (fun W (hW : Below w.heap.size w W) => h.below hW)
  have HC := Lib.hid (fun W (hW : Below w.heap.size w W) => hC.below hW)
  clear h hC
  go_enter Tryd.func7, Tryd.ntmps7
  go_wp2_with fail
  refine (F1.out w (brefl w)).mono ?_; rintro e w1 ⟨v, rfl, ho, hb1⟩
  obtain ⟨q, c, rfl, hi⟩ := ho.form
  clear ho
  go_wp2_with fail
  refine (ints_any q _ c 5 5 5 [1, 1, 1, 0, 1] [1, 1, 1, 0, 1] _ rfl rfl (Ints.below hi (balloc (brefl w1) _)) (S3.out w1) true rfl).mono ?_; rintro e w2 ⟨rfl, hb2⟩
  have hB2 := bcall (balloc hb1 _) hb2
  clear hb1 hb2 hi F1 S3
  go_wp2_with fail
  refine (SV.out _ hB2).mono ?_; rintro e w3 ⟨rfl, hb3⟩
  have hB3 := bcall hB2 hb3
  go_wp2_with fail
  refine (tin_yes s 0 65535 _ hs0).mono ?_; rintro e w' ⟨rfl, rfl⟩
  go_wp2_with fail
  go_ret
  exact ⟨rfl, hB3⟩

set_option maxHeartbeats 4000000 in
theorem law_even (p : Option Addr) (cap : Nat) (l : List Int) (w : World) (hC : Codes w) (h : Ints w p cap l) (hk : l.length ≤ 16) (hby : Ones.wthn l 255 = true) (hk2 : l.length % 2 = 0) :
    Calls Tryd.prog 7 #[.slice p l.length cap] w fun e w' => e = .returned (.bool true) ∧ Below w.heap.size w w' := by
  have hlen := h.len_le
  have hr := Ones.onesum_range hby
  obtain ⟨s, hs⟩ : ∃ s, 65535 - Ones.onesum l = s := ⟨_, rfl⟩
  have SV := Lib.hid (fun W (hW : Below w.heap.size w W) => sum_n l.length p cap l W rfl (h.below hW) (by omega) hby s hs)
  have hs0 : 0 ≤ s ∧ s ≤ 65535 := by omega
  have hg := OnesMath.good_all hby hk2 hs.symm
  have t1 : decide ((l.length : Int) > 16) = false := decide_eq_false (by omega)
  have t2 : ((l.length : Int) % 2 == 1) = false := by rw [beq_eq_false_iff_ne]; omega
  have BE1 := Lib.hid (fun W (hW : Below w.heap.size w W) => behind_any p cap l.length l (s / 256) W rfl (h.below hW) (by omega) (wf_mid (by omega)))
  have BE2 := Lib.hid (fun q c W (hh : Ints W q c (l ++ [s / 256])) => behind_any q c (l.length + 1) (l ++ [s / 256]) (s % 256) W (by simp) hh (by simp; omega) (wf_mid (by omega)))
  obtain ⟨al, hal⟩ : ∃ al, l ++ [s / 256] ++ [s % 256] = al := ⟨_, rfl⟩
  have hall : al.length = l.length + 1 + 1 := by rw [← hal]; simp
  rw [hal] at hg BE2
  have hbyt := byt_wthn hg.1
  have hal18 : al.length ≤ 18 := by omega
  have WR := Lib.hid (fun q c n W (hn : n = al.length) (hh : Ints W q c al) => Cobs.write_ok q c n al W hn hh (Cobs.bad_of (by omega) hbyt))
  have hin := CobsMath.enc_in al hbyt
  have hel := (CobsMath.enc_len al).2
  have hen := CobsMath.enc_ne al
  have hed := CobsMath.dec_enc al
  have heb := CobsMath.enc_byt hbyt
  have GD := Lib.hid (fun q c n W (hn : n = al.length) (hh : Ints W q c al) => good_n n q c al W hn hh (by omega) hg.1 hg.2)
  obtain ⟨ws, hws⟩ : ∃ ws, CobsMath.enc al = ws := ⟨_, rfl⟩
  rw [hws] at WR hin hel hen hed heb
  have hw19 : ws.length ≤ 19 := by omega
  have RD := Lib.hid (fun q c n W (hn : n = ws.length) (hh : Ints W q c ws) => Cobs.read_ok q c n ws W hn hh (Cobs.bad_of (by omega) heb) hen al hed (by omega))
  have AL := Lib.hid (fun q c n W (hn : n = ws.length) (hh : Ints W q c ws) => all_any 1 255 q c n ws W hn hh true (App.within_iff.2 hin).symm)
  have hhl := halves_len ws
  have hhu := halves_upto hin
  have hgw := halves_get ws
  obtain ⟨hs2, hhs⟩ : ∃ hs2, halves ws = hs2 := ⟨_, rfl⟩
  have HHS := Lib.hid hhs
  rw [hhs] at hhl hhu hgw
  have FV := Lib.hid (fun q c n W (hn : n = hs2.length) (hh : Ints W q c hs2) (hc : Codes W) => Line.five_ok q c n hs2 W hn hh (LineMath.bad_of (by omega) hhu) hc)
  have hL := LineMath.five_len hs2
  have hB5 := LineMath.five_bits hs2
  have hF := LineMath.four_five hs2 hhu
  obtain ⟨m, hm⟩ : ∃ m, LineMath.five hs2 = m := ⟨_, rfl⟩
  rw [hm] at FV hL hB5 hF
  clear hm
  have hm0 : LineMath.bad 200 1 m = 0 := LineMath.bad_of (by omega) hB5
  have TV := Lib.hid (fun q c W (hh : Ints W q c m) => Line.turns_ok q c m.length m W rfl hh hm0)
  have hbt := LineMath.unt_turns m hB5 0 (by omega)
  have htl := LineMath.turns_len m 0
  have htb := LineMath.turns_bits m 0
  obtain ⟨tn, htn⟩ : ∃ tn, LineMath.turns 0 m = tn := ⟨_, rfl⟩
  rw [htn] at TV hbt htl htb
  clear htn
  have hm200 : m.length ≤ 200 := by omega
  have ht200 : tn.length ≤ 200 := by omega
  have UV0 := fun q c W (hh : Ints W q c tn) => Line.bits_ok q c tn.length tn W rfl hh (LineMath.bad_of (by omega) htb)
  rw [hbt] at UV0
  have UV := Lib.hid UV0
  have QV := Lib.hid (fun q c W (hh : Ints W q c m) (hc : Codes W) => four_good q c m.length m W rfl hh hc hm0 hs2.length hL.symm hs2 hF)
  have hh38 : hs2.length ≤ 38 := by omega
  have HHL := Lib.hid hhl
  have HGW := Lib.hid hgw
  have HIN := Lib.hid hin
  have HAL := Lib.hid hall
  clear hs hr hby hg hal hall hbyt hin hel hen hed heb hws hhs hhl hhu hgw hL hB5 hF hm0 hbt htl htb UV0 hk2
  have S3 := Lib.hid (fun W : World => lit_ints W [1, 1, 1, 0, 1] (by decide) (by decide))
  have F1 := Lib.hid (first_five w hC)
  have HH := Lib.hid (fun W (hW : Below w.heap.size w W) => h.below hW)
  have HC := Lib.hid (fun W (hW : Below w.heap.size w W) => hC.below hW)
  clear h hC
  go_enter Tryd.func7, Tryd.ntmps7
  go_wp2_with fail
  refine (F1.out w (brefl w)).mono ?_; rintro e w1 ⟨v, rfl, ho, hb1⟩
  obtain ⟨q, c, rfl, hi⟩ := ho.form
  clear ho
  go_wp2_with fail
  refine (ints_any q _ c 5 5 5 [1, 1, 1, 0, 1] [1, 1, 1, 0, 1] _ rfl rfl (Ints.below hi (balloc (brefl w1) _)) (S3.out w1) true rfl).mono ?_; rintro e w2 ⟨rfl, hb2⟩
  have hB2 := bcall (balloc hb1 _) hb2
  clear hb1 hb2 hi F1 S3
  go_wp2_with fail
  refine (SV.out _ hB2).mono ?_; rintro e w3 ⟨rfl, hb3⟩
  have hB3 := bcall hB2 hb3
  clear hb3 hB2
  go_wp2_with fail
  refine (tin_yes s 0 65535 _ hs0).mono ?_; rintro e w' ⟨rfl, rfl⟩
  go_wp2_with fail
  refine (BE1.out _ hB3).mono ?_; rintro e w4 ⟨q4, c4, rfl, i4, hb4⟩
  have hB4 := bcall hB3 hb4
  clear hb4 hB3
  go_wp2_with fail
  refine (BE2.out _ _ _ i4).mono ?_; rintro e w5 ⟨q5, c5, rfl, i5, hb5⟩
  have hB5 := bcall hB4 hb5
  clear hb5 hB4 i4
  go_wp2_with fail
  refine (WR.out _ _ _ _ HAL.out.symm i5).mono ?_; rintro e w6 ⟨v6, rfl, o6, hb6⟩
  have hB6 := bcall hB5 hb6
  have i5 := i5.below hb6
  obtain ⟨q6, c6, rfl, i6⟩ := o6.form
  clear o6 hb6 hB5
  go_wp2_with fail
  refine (AL.out _ _ _ _ rfl i6).mono ?_; rintro e w' ⟨rfl, rfl⟩
  have HI6 := Lib.hid (fun W (hW : Below w6.heap.size w6 W) => i6.below hW)
  have HI5 := Lib.hid (fun W (hW : Below w6.heap.size w6 W) => i5.below hW)
  clear i6 i5
  go_wp2_with fail
  go_loopw [9, 10] (fun v i wr => ∃ (k : Nat), k ≤ ws.length ∧ i = .int .i64 k ∧ OwnI wr w6.heap.size v (halves (ws.take k)) ∧ Below w6.heap.size w6 wr) (fun _ i _ => ws.length - (intOf i).toNat)
  case atStart => exact ⟨0, Nat.zero_le _, rfl, OwnI.nil _ _, brefl _⟩
  case round =>
    obtain ⟨k, hk, rfl, hown, hBr⟩ := hrel
    by_cases hlt : k < ws.length
    · obtain ⟨b, off, rfl, hbw, hc0⟩ := (HI6.out w6 (brefl w6)).2.2.2 (by omega)
      have HK := Lib.hid (fun W (hW : Below w6.heap.size w6 W) => (hW.cell (p := ⟨b, off + k, none⟩) hbw).trans (hc0 k hlt))
      have hxr := HIN.out _ (List.getElem_mem hlt)
      have hxe : ws[k]?.getD 0 = ws[k] := by rw [List.getElem?_eq_getElem hlt]; rfl
      rw [← hxe] at hxr
      have hs := halves_step hlt
      have hfl : (halves (ws.take k)).length ≤ 38 := by rw [halves_len, List.length_take]; omega
      clear hc0 hxe
      generalize ws[k]?.getD 0 = x at HK hxr hs
      generalize halves (ws.take k) = o1 at hs hown hfl
      have HS := Lib.hid hs
      have hBs := hBr.size
      have q0 := HK.out wr hBr
      have y1 : (Lit.int .i64 (x / 16)).wf = true := wf_mid (by omega)
      have y2 : (Lit.int .i64 (x % 16)).wf = true := wf_mid (by omega)
      have x0 : 0 ≤ x := by omega
      clear hs
      go_wp2_with (first
        | (at_builtin
           refine wp_app rfl (.tmp 90) (.tmp 96) rfl w6.heap.size _ o1 (some ⟨wr.heap.size, 0, none⟩) 1 1 [x / 16] rfl (hown.alloc _) rfl rfl (Ints.one wr _ y1) (by simp; omega) (Nat.le_trans hBs (by simp)) ?_
           intro va wa hoa hga hata
           have hba : Below w6.heap.size w6 wa := below_one hBr hBs _ hown hga
           have hbas := hba.size
           have q1 := HK.out wa hba
           clear hata hga)
        | (at_builtin
           refine wp_app rfl (.tmp 98) (.tmp 104) rfl w6.heap.size _ (o1 ++ [x / 16]) (some ⟨wa.heap.size, 0, none⟩) 1 1 [x % 16] rfl (hoa.alloc _) rfl rfl (Ints.one wa _ y2) (by simp; omega) (Nat.le_trans hbas (by simp)) ?_
           intro vb wb hob hgb hatb
           have hbb : Below w6.heap.size w6 wb := below_one hba hbas _ hoa hgb
           clear hatb hgb))
      go_roundw
      case rel => exact ⟨k + 1, by omega, by go_num, by rw [HS.out]; exact hob, hbb⟩
      case measure => simp [intOf]; omega
    · obtain rfl : k = ws.length := by omega
      rw [List.take_length, HHS.out] at hown
      obtain ⟨q7, c7, rfl, i7⟩ := hown.form
      have hB7 := bcall hB6 hBr
      clear hown
      go_wp2_with fail
      refine (FV.out _ _ _ _ rfl i7 (HC.out _ hB7)).mono ?_; rintro e w8 ⟨v8, rfl, o8, hb8⟩
      have hr8 := bcall hBr hb8
      have hB8 := bcall hB7 hb8
      obtain ⟨q8, c8, rfl, i8⟩ := o8.form
      clear o8 hb8 hBr hB7 i7
      go_wp2_with fail
      refine (TV.out _ _ _ i8).mono ?_; rintro e w9 ⟨v9, rfl, o9, hb9⟩
      have hr9 := bcall hr8 hb9
      have hB9 := bcall hB8 hb9
      obtain ⟨q9, c9, rfl, i9⟩ := o9.form
      clear o9 hb9 hr8 hB8 i8
      go_wp2_with fail
      refine (UV.out _ _ _ i9).mono ?_; rintro e w10 ⟨v10, rfl, o10, hb10⟩
      have hr10 := bcall hr9 hb10
      have hB10 := bcall hB9 hb10
      obtain ⟨q10, c10, rfl, i10⟩ := o10.form
      clear o10 hb10 hr9 hB9 i9
      go_wp2_with fail
      refine (QV.out _ _ _ i10 (HC.out _ hB10)).mono ?_; rintro e w11 ⟨v11, rfl, o11, hb11⟩
      have hr11 := bcall hr10 hb11
      have hB11 := bcall hB10 hb11
      obtain ⟨q11, c11, rfl, i11⟩ := o11.form
      have t7 : ((hs2.length : Int) != 2 * (ws.length : Int)) = false := by rw [bne_eq_false_iff_eq]; have := HHL.out; omega
      have HI11 := Lib.hid (fun W (hW : Below w11.heap.size w11 W) => i11.below hW)
      clear o11 hb11 hr10 hB10 i10 i11
      go_wp2_with fail
      go_loopw [19, 20] (fun v i wr => ∃ (k : Nat), k ≤ ws.length ∧ i = .int .i64 (2 * (k : Int)) ∧ OwnI wr w11.heap.size v (ws.take k) ∧ Below w11.heap.size w11 wr) (fun _ i _ => 2 * ws.length - (intOf i).toNat)
      case atStart => exact ⟨0, Nat.zero_le _, rfl, OwnI.nil _ _, brefl _⟩
      case round =>
        obtain ⟨k, hk, rfl, hown, hBr⟩ := hrel
        by_cases hlt : k < ws.length
        · have hh := HHL.out
          obtain ⟨b, off, rfl, hb11, hc0⟩ := (HI11.out w11 (brefl w11)).2.2.2 (by omega)
          have hbw : b < wr.heap.size := Nat.lt_of_lt_of_le hb11 hBr.size
          have q00 := hc0 (2 * k) (by omega)
          have q11 := hc0 (2 * k + 1) (by omega)
          have hxr := HIN.out _ (List.getElem_mem hlt)
          have hxe : ws[k]?.getD 0 = ws[k] := by rw [List.getElem?_eq_getElem hlt]; rfl
          rw [← hxe] at hxr
          have hg2 := HGW.out k hlt
          rw [hg2.1] at q00
          rw [hg2.2] at q11
          have q0 := (hBr.cell (p := ⟨b, off + 2 * k, none⟩) hb11).trans q00
          have q1 := (hBr.cell (p := ⟨b, off + (2 * k + 1), none⟩) hb11).trans q11
          have hs := take_step hlt
          have hfl : (ws.take k).length ≤ 19 := by rw [List.length_take]; omega
          have f1 : 2 * (k : Int) + 1 < (hs2.length : Int) := by omega
          have f2 : 2 * (k : Int) < (hs2.length : Int) := by omega
          have f3 : (0 : Int) ≤ 2 * (k : Int) := by omega
          have f4 : (2 * (k : Int)).toNat = 2 * k := by omega
          have f5 : (2 * (k : Int) + 1).toNat = 2 * k + 1 := by omega
          have f6 : (0 : Int) ≤ 2 * (k : Int) + 1 := by omega
          clear hc0 hxe hg2 hh
          generalize ws[k]?.getD 0 = x at q0 q1 q00 q11 hxr hs
          generalize ws.take k = o1 at hs hown hfl
          have HS := Lib.hid hs
          have hBs := hBr.size
          have EX := Lib.hid (show 16 * (x / 16) + x % 16 = x by omega)
          have y1 : (Lit.int .i64 (16 * (x / 16) + x % 16)).wf = true := wf_mid (by omega)
          have z1 : 0 ≤ x / 16 ∧ x / 16 ≤ 15 := by omega
          have z2 : 0 ≤ x % 16 ∧ x % 16 ≤ 15 := by omega
          clear hs hxr
          generalize x / 16 = x1 at *
          generalize x % 16 = x2 at *
          have w1' : IntKind.i64.wrap (2 * (k : Int) + 1) = 2 * (k : Int) + 1 := IntWalk.i64_in _ (by omega)
          have w2' : IntKind.i64.wrap (16 * x1) = 16 * x1 := IntWalk.i64_in _ (by omega)
          have w3' : IntKind.i64.wrap (16 * x1 + x2) = 16 * x1 + x2 := IntWalk.i64_in _ (by omega)
          go_wp2_with fail
          have q0' : wr.drew.cell? ⟨b, off + 2 * k, none⟩ = some (.int .i64 x1) := q0
          have q1' : wr.drew.cell? ⟨b, off + (2 * k + 1), none⟩ = some (.int .i64 x2) := q1
          have q2 : ∀ o, (wr.drew.alloc o).cell? ⟨b, off + 2 * k, none⟩ = some (.int .i64 x1) := fun o => (World.cell?_alloc_lt wr.drew _ _ hbw).trans q0
          have q3 : ∀ o, (wr.drew.alloc o).cell? ⟨b, off + (2 * k + 1), none⟩ = some (.int .i64 x2) := fun o => (World.cell?_alloc_lt wr.drew _ _ hbw).trans q1
          go_region_held3 (fun W' => W'.cell? ⟨b, off + 2 * k, none⟩ = some (.int .i64 x1) ∧ W'.cell? ⟨b, off + (2 * k + 1), none⟩ = some (.int .i64 x2))
            (first
              | exact ⟨q0', q1'⟩
              | exact ⟨q2 _, q3 _⟩
              | exact ⟨q4, q5⟩
              | go_keep)
            (first
              | (refine step_app rfl (.tmp 158) (.tmp 170) rfl w11.heap.size _ o1 (some ⟨wr.heap.size, 0, none⟩) 1 1 [16 * x1 + x2] rfl (hown.drew.alloc _) rfl rfl (Ints.one wr.drew _ y1) (by simp; omega) (Nat.le_trans hBs (by simp)) ?_
                 intro va wa hoa hga hata
                 have hba : Below w11.heap.size w11 wa := below_one (w := wr.drew) hBr.drew hBs _ hown.drew hga
                 have q4 := (hba.cell (p := ⟨b, off + 2 * k, none⟩) hb11).trans q00
                 have q5 := (hba.cell (p := ⟨b, off + (2 * k + 1), none⟩) hb11).trans q11
                 clear hata hga))
          go_wp2_with fail
          go_roundw
          case rel => exact ⟨k + 1, by omega, by go_num, by rw [HS.out, ← EX.out]; exact hoa, hba⟩
          case measure => simp [intOf]; omega
        · obtain rfl : k = ws.length := by omega
          have hh := HHL.out
          have f1 : ¬ 2 * (ws.length : Int) + 1 < (hs2.length : Int) := by omega
          have f1d : decide (2 * (ws.length : Int) + 1 < (hs2.length : Int)) = false := decide_eq_false f1
          rw [List.take_length] at hown
          obtain ⟨q12, c12, rfl, i12⟩ := hown.form
          have hB12 := bcall hB11 hBr
          have hr12 := bcall hr11 hBr
          clear hown hh
          go_wp2_with fail
          refine (RD.out _ _ _ _ rfl i12).mono ?_; rintro e w13 ⟨v13, rfl, o13, hb13⟩
          have hB13 := bcall hB12 hb13
          have hr13 := bcall hr12 hb13
          obtain ⟨q13, c13, rfl, i13⟩ := o13.form
          have i5 := HI5.out _ hr13
          clear o13 hb13 i12
          go_wp2_with fail
          refine (ints_any q13 q5 c13 c5 al.length (l.length + 1 + 1) al al w13 rfl HAL.out.symm i13 i5 true (by rw [beq_self_eq_true])).mono ?_; rintro e w14 ⟨rfl, hb14⟩
          have hB14 := bcall hB13 hb14
          have i14 := i13.below hb14
          clear i5 i13 hb14
          go_wp2_with fail
          refine (GD.out _ _ _ _ rfl i14).mono ?_; rintro e w15 ⟨rfl, hb15⟩
          go_wp2_with fail
          go_ret
          exact ⟨rfl, bcall hB14 hb15⟩

theorem law_any (p : Option Addr) (cap : Nat) (l : List Int) (w : World) (hC : Codes w) (h : Ints w p cap l) :
    Calls Tryd.prog 7 #[.slice p l.length cap] w fun e w' => e = .returned (.bool true) ∧ Below w.heap.size w w' := by
  by_cases hb : Ones.bad l = 0
  · have hz : l.length ≤ 600 ∧ Ones.wthn l 255 = true := by
      unfold Ones.bad at hb
      by_cases h1 : 600 < l.length
      · simp [h1] at hb
      · cases h2 : Ones.wthn l 255 with
        | true => exact ⟨by omega, rfl⟩
        | false => simp [h1, h2] at hb
    by_cases h1 : 16 < l.length
    · exact law_long p cap l w hC h hz.1 hz.2 h1
    · by_cases h2 : l.length % 2 = 1
      · exact law_odd p cap l w hC h hz.1 hz.2 (by omega) h2
      · exact law_even p cap l w hC h (by omega) hz.2 (by omega)
  · exact law_bad p cap l w hC h hb

theorem reads : Tryd.f7.params.toList.all (fun t => Tryd.prog.readableRec t && decide (t < Tryd.prog.types.size)) = true := by kernel_rfl

theorem codes_of {W : World} (h : laidMetH Tryd.prog Rows.topWireRow.laid W) : Line.Codes W := by
  have h' : laidMet Tryd.prog [("ferryhythe/line.codes", Rows.laid_ferryhythe_line_codes)] W := h
  exact Line.codes_of_laid h'

noncomputable def laidWorld (os : Os) : World :=
  { World.holding Tryd.prog os ⟨#[], #[], []⟩ with heap := (World.holding Tryd.prog os ⟨#[], #[], []⟩).heap.modify 0 fun
      | .cells _ t frozen => .cells (LineMath.tab.map (Value.int .i64)).toArray t frozen
      | o => o }
theorem laid_met (os : Os) : laidMetH Tryd.prog Rows.topWireRow.laid ((laidWorld os).forCall (fun _ _ => 0) ⟨#[], #[.slice none 0 0], []⟩).memory :=
  show laidMet Tryd.prog [("ferryhythe/line.codes", Rows.laid_ferryhythe_line_codes)] _ from laidMet_of_run' 10 (by kernel_rfl) (by kernel_rfl)
theorem reads_wit (os : Os) {H : Type} (enc : TypeId × Value → H) : ∃ places, DataW.whole enc Tryd.prog ((laidWorld os).forCall (fun _ _ => 0) ⟨#[], #[.slice none 0 0], []⟩).memory Tryd.f7.params.toList Rows.topWireSpec.vars false (#[.slice none 0 0] : Array Value).toList 8 = some ([.nil], [], places) :=
  ⟨[], by kernel_rfl⟩

theorem contract (H : Type) (enc : TypeId × Value → H) (W : World) (base : Nat) (args : Array Value) (ds gs : List (DataW H)) (before : List MemPlace)
    (hval : ∀ (j : Nat) t v, Tryd.f7.params[j]? = some t → args[j]? = some v → Value.okWide Tryd.prog W .any base t v)
    (hW : DataW.Whole enc Tryd.prog Tryd.f7.params.toList Rows.topWireSpec.vars false W args.toList ds gs before) (hL : laidMetH Tryd.prog Rows.topWireRow.laid W) :
    Calls Tryd.prog 7 args W fun e W' => ∃ v, e = .returned v ∧ Rows.topWireSpec.post enc Tryd.prog Tryd.f7 false true false false W args v W' := by
  have hW' := hW
  have hC := codes_of hL
  obtain ⟨p, q, hA0, hV, rfl, hfz, hnd⟩ := hW
  have hA : DataW.TrodAll enc Tryd.prog W 0 (fun _ => true) true Tryd.f7.params.toList args.toList ds p := hA0
  have hlt := hA.lt
  rw [Tryd.params7] at hA hval
  obtain ⟨v0, vs0, d0, ds0, p0, q0, hargs, rfl, rfl, h0, r0⟩ := trodAll_cons hA
  obtain ⟨hvsn, rfl, rfl⟩ := trodAll_nil r0
  simp only [hvsn] at hargs
  obtain rfl : args = #[v0] := by cases args; simp_all
  obtain ⟨p0a, cap0, l0, rfl, i0⟩ := open_intsl Tryd.underlying22 Tryd.underlying3 (by kernel_rfl) (hval 0 22 v0 rfl rfl) h0 (fun x hx => hlt x (by simp [hx]))
  obtain ⟨rfl, rfl⟩ := trodVars_none hV
  clear hA0
  exact law_post 4 laid reads rfl Tryd.underlying4 rfl hW' ⟨rfl, rfl, rfl⟩ (law_any p0a cap0 l0 W hC i0)

set_option maxRecDepth 100000 in
theorem lifted (os : Os) (started : os.Started) (H : Type) (enc : TypeId × Value → H) (F : Stop.Interp) :
    ReturnsInHanded {} Tryd.checked os 7 .any ((OpenSpec.ofChange Rows.topWireSpec).preRow enc Tryd.prog Tryd.f7 Rows.topWireRow.domain false Rows.topWireRow.laid) (((OpenSpec.ofChange Rows.topWireSpec).at F).post enc Tryd.prog Tryd.f7 false true false false) := by
  obtain ⟨places, hx⟩ := reads_wit os enc
  refine returnsInHanded_of_row (C := Tryd.checked) (s := (OpenSpec.ofChange Rows.topWireSpec)) own started (by kernel_rfl) Tryd.func7
    (witness_row_at (enc := enc) (C := Tryd.checked) false (laidWorld os) #[.slice none 0 0] rfl (by kernel_rfl) (by kernel_rfl) (by kernel_rfl)
      (OpenSpec.preRow_of_cond 8 hx (by kernel_rfl) (fun k hk => by cases hk) (by kernel_rfl) (laid_met os))) ?_
  intro W base args ds gs before hval hW _ hcond _ hL _ _
  exact contract H enc W base args ds gs before hval hW hL

theorem said : Rows.TopWireSaid :=
  OpenClaim.holds_of_cond 7 Tryd.f7 rfl rfl rfl rfl rfl rfl rfl ⟨rfl, rfl, rfl, rfl, rfl⟩ rfl rfl rfl rfl rfl (by kernel_rfl) Tryd.func7 (by kernel_rfl)
    (of_decide_eq_true (by kernel_rfl)) (by unfold Func.isWrapper; first | (rw [if_pos (by decide +kernel)]; kernel_rfl) | (rw [if_neg (by decide +kernel)]; exact ⟨rfl, rfl⟩))
    (fun os started H enc _ F => by rw [OpenClaim.pre_eq_preRow]; exact lifted os started H enc F)

theorem plain (f : FuncId) (fn : Func) (hf : Tryd.pinned.checked.prog.funcNamed Rows.topWireRow.func = some f) (hfn : Tryd.pinned.checked.prog.funcs[f]? = some fn) :
    true = Tryd.pinned.checked.prog.looks [] ∧ ∀ (j : Nat) t, fn.params[j]? = some t → Tryd.pinned.checked.prog.wantsStandIn t = false := by
  obtain rfl : f = 7 := Option.some.inj ((show Tryd.prog.funcNamed Rows.topWireRow.func = some 7 by kernel_rfl).symm.trans hf) |>.symm
  obtain rfl : fn = Tryd.f7 := (Option.some.inj (Tryd.func7.symm.trans hfn)).symm
  refine ⟨by kernel_rfl, fun j t ht => ?_⟩
  have hall : Tryd.f7.params.toList.all (fun t => !Tryd.prog.wantsStandIn t) = true := by kernel_rfl
  have hm : t ∈ Tryd.f7.params.toList := by simpa using Array.mem_of_getElem? ht
  have := List.all_eq_true.1 hall t hm
  show Tryd.prog.wantsStandIn t = false
  simpa using this

theorem proved : Rows.TopWireCardSaid :=
  Claim7.holds_tied_plain_at .later [] _ _ _ _ said (fun _ h => by cases h) (by kernel_rfl) (fun _ h => by cases h) topWire_row_tie rfl ⟨rfl, rfl⟩ (by kernel_rfl) rfl plain (by kernel_rfl)

end Go.Proofs.YtooicigocljomaaDoor.topWireP
