/- Contracts of the words and the total of package ones. No statement is proved here. -/
import Derived.Test.YtooicigocljomaaDoorOnes3
namespace Go.Proofs.YtooicigocljomaaDoor.Ones
open Go.RowKit Go.Shelf Go.Proofs.YtooicigocljomaaDoor.Kit Go.Proofs.YtooicigocljomaaDoor.It
set_option linter.unusedVariables false
attribute [local go_sem] Oper.semAt_some

/-- The sum of two words: what is above 65535 comes in below. -/
def add1 (s x : Int) : Int := if 65535 < s + x then s + x - 65535 else s + x
theorem add1_range {s x : Int} (hs : 0 ≤ s ∧ s ≤ 65535) (hx : 0 ≤ x ∧ x ≤ 65535) : 0 ≤ add1 s x ∧ add1 s x ≤ 65535 := by
  unfold add1; split <;> omega
def sum1 (xs : List Int) : Int := xs.foldl add1 0
theorem sum1_snoc (xs : List Int) (x : Int) : sum1 (xs ++ [x]) = add1 (sum1 xs) x := by simp [sum1]
theorem sum1_range {xs : List Int} (h : ∀ x ∈ xs, 0 ≤ x ∧ x ≤ 65535) : 0 ≤ sum1 xs ∧ sum1 xs ≤ 65535 := by
  have key : ∀ (l : List Int) (s : Int), 0 ≤ s ∧ s ≤ 65535 → (∀ x ∈ l, 0 ≤ x ∧ x ≤ 65535) → 0 ≤ l.foldl add1 s ∧ l.foldl add1 s ≤ 65535 := by
    intro l
    induction l with
    | nil => intro s hs _; exact hs
    | cons x l ih => intro s hs h; exact ih _ (add1_range hs (h x (by simp))) (fun y hy => h y (by simp [hy]))
  exact key xs 0 (by omega) h

theorem take_snoc1 (xs : List Int) (k : Nat) (h : k < xs.length) : xs.take (k + 1) = xs.take k ++ [xs[k]] := by
  rw [List.take_succ_eq_append_getElem h]

set_option maxHeartbeats 1000000 in
theorem total_any (g : Nat) (lb : Array Value) (eg : ∀ args w, (callFunc g args).run Tryd.prog w = .ok (.enter g args) w) (xs : List Int) (Pr : Nat → Prop) (w : World)
    (hx : ∀ x ∈ xs, 0 ≤ x ∧ x ≤ 65535) (hPr : ∀ k, Pr k → k < w.heap.size) (hit : Iter Tryd.prog g lb (xs.map fun x => #[.int .i64 x]) Pr w) :
    Calls Tryd.prog 33 #[.func (.func g) #[] lb] w fun e w' => e = .returned (.int .i64 (sum1 xs)) ∧ Below w.heap.size w w' := by
  refine (callsIn_wide (n := 0)).1 ?_
  refine callsIn_of_wp_marks Tryd.func33 rfl trivial ?_ rfl
  simp only [Tryd.ntmps33, List.size_toArray, List.length_cons, List.length_nil, Nat.reduceAdd, Nat.reduceSub, Array.replicate_succ, Array.replicate_zero, List.push_toArray, List.append_toArray, List.nil_append, List.cons_append]
  gi_wp2
  have hc0 : (w.alloc (.cells #[.int .i64 0] 3)).cell? ⟨w.heap.size, 0, none⟩ = some (.int .i64 0) ∧ (w.alloc (.cells #[.int .i64 0] 3)).frozen? ⟨w.heap.size, 0, none⟩ = false := ⟨by go_simp, by go_simp⟩
  refine wp_iter (tot := xs.map fun x => #[.int .i64 x]) (gf := g) (lb := lb) rfl eg hit (Kept.alloc _) (fun k hk => by have := hPr k hk; simp; omega) (fun x hx => by simp at hx; obtain ⟨k, _, rfl⟩ := hx; rfl)
    (fun k W' => (W'.cell? ⟨w.heap.size, 0, none⟩ = some (.int .i64 (sum1 (xs.take k))) ∧ W'.frozen? ⟨w.heap.size, 0, none⟩ = false) ∧ Below w.heap.size w W')
    (fun c k W' => False)
    (OwnFrom.and (Own.from (fun s A B row hs hg hr => ⟨cell_kept hs.1 hg hr, (frozen_kept hs.1 hg hr).trans hs.2⟩) _) (ownFrom_below (Nat.le_refl _) (by simp)))
    (fun c _ _ _ _ hs _ _ => hs)
    ⟨hc0, (Below.refl _ _).alloc (Nat.le_refl _) _⟩
    (fun k => { tmps := #[.func (.func g) #[] lb, undef, .int .i64 0, .pointer (some ⟨w.heap.size, 0, none⟩), .int .i64 (xs[k]?.getD 0), .func (.func g) #[] lb, .int .i64 (xs[k]?.getD 0), undef, undef, undef, undef, undef, undef, undef, undef], defers := [] }) ?assign ?body ?done ?stop
  case assign =>
    intro l' k hk W' K hKK
    have hk' : k < xs.length := by simpa using hk
    simp only [List.getElem_map]
    rw [List.getElem?_eq_getElem hk', Option.getD_some] at hKK
    gi_wp2
    exact hKK
  case body =>
    rintro l' k hk W' hl1 hl2 ⟨⟨hc, hf⟩, hb⟩
    have hk' : k < xs.length := by simpa using hk
    have hr := sum1_range (xs := xs.take k) (fun x hm => hx x (List.mem_of_mem_take hm))
    have hxk := hx _ (List.getElem_mem hk')
    have e1 : sum1 (xs.take (k + 1)) = add1 (sum1 (xs.take k)) (xs[k]) := by rw [take_snoc1 _ _ hk', sum1_snoc]
    rw [List.getElem?_eq_getElem hk', Option.getD_some]
    have E1 := Lib.hid e1
    clear e1
    have hsz : w.heap.size + 1 ≤ W'.heap.size := by have := cell_lt hc; exact this
    generalize sum1 (xs.take k) = s at hc hr E1
    generalize xs[k] = x at hxk E1
    have hgrow : ∀ (X : World) (v : Value), Kept Pr (w.alloc (.cells #[.int .i64 0] 3)).heap.size X (X.setCell ⟨w.heap.size, 0, none⟩ v) := fun X v => Kept.grown (grownBy_setCell' X _ _) (fun r e => by cases e; exact ⟨fun hp => by have := hPr _ hp; omega, by simp⟩)
    have hbelow : ∀ (X : World) (v : Value), Below w.heap.size w X → Below w.heap.size w (X.setCell ⟨w.heap.size, 0, none⟩ v) := fun X v h => h.setCell (p := ⟨w.heap.size, 0, none⟩) (Nat.le_refl _) v
    by_cases hgt : 65535 < s + x
    · have e2 : add1 s x = s + x - 65535 := by simp [add1, hgt]
      rw [e2] at E1
      clear e2
      gi_wp2
      refine ⟨(hgrow _ _).trans (hgrow _ _), ⟨?_, by go_simp⟩, hbelow _ _ (hbelow _ _ hb)⟩
      rw [E1.out]; go_simp
    · have e2 : add1 s x = s + x := by simp [add1, hgt]
      rw [e2] at E1
      clear e2
      gi_wp2
      refine ⟨(hgrow _ _).mono (fun _ _ h => .inl h) (by simp), ⟨?_, by go_simp⟩, hbelow _ _ hb⟩
      rw [E1.out]; go_simp
  case done =>
    rintro D W' hD ⟨⟨hc, hf⟩, hb⟩ hKD
    rw [List.length_map, List.take_length] at hc
    gi_wp2
    refine ⟨by simp, .inl ⟨_, _, rfl, run_takeDeferred hKD, ?_⟩⟩
    refine ⟨_, results_tmp rfl _ _ _, rfl, ?_⟩
    exact hb.trans (belowK_b (w := w) (Nat.le_refl _) W' D _ _ (by simp at hD; omega) hKD rfl rfl)
  case stop =>
    rintro D c k W' hD hF hKD
    exact hF.elim

def wordAt (zs : List Int) (k : Nat) : Int := zs[2 * k]?.getD 0 * 256 + zs[2 * k + 1]?.getD 0
def wordsOf (zs : List Int) : List Int := (List.range ((zs.length + 1) / 2)).map (wordAt zs)
theorem byte_at {zs : List Int} (h : wthn zs 255 = true) (j : Nat) : 0 ≤ zs[j]?.getD 0 ∧ zs[j]?.getD 0 ≤ 255 := by
  have h1 := of_decide_eq_true h
  by_cases hj : j < zs.length
  · exact h1 j hj
  · rw [List.getElem?_eq_none (by omega)]; simp
theorem words_range {zs : List Int} (h : wthn zs 255 = true) : ∀ x ∈ wordsOf zs, 0 ≤ x ∧ x ≤ 65535 := by
  intro x hx
  simp [wordsOf] at hx
  obtain ⟨k, _, rfl⟩ := hx
  have h1 := byte_at h (2 * k); have h2 := byte_at h (2 * k + 1)
  unfold wordAt; omega

set_option maxRecDepth 100000 in
set_option maxHeartbeats 1000000 in
theorem words1_in (l B b off cap : Nat) (zs : List Int) (p : Option Addr) (hp : 0 < zs.length → p = some ⟨b, off, none⟩) (J Jx : Nat → World → Prop) (W : World) (hn : zs.length ≤ 600) (hcap : zs.length ≤ cap) (hcap2 : cap ≤ 9223372036854775807)
    (hby : wthn zs 255 = true)
    (h1 : W.cell? ⟨B, 0, none⟩ = some (.slice p zs.length cap))
    (h2 : ∀ j : Nat, j < zs.length → W.cell? ⟨b, off + j, none⟩ = some (.int .i64 (zs[j]?.getD 0)))
    (hl : l < W.heap.size) (hO : OwnFrom W.heap.size J) (hOx : OwnFrom W.heap.size Jx) (hbW : b < W.heap.size)
    (hY : ∀ k (hk : k < (zs.length + 1) / 2) W1, J k W1 → W.heap.size ≤ W1.heap.size → YieldAt Fence.wide 0 Tryd.prog l #[.int .i64 (wordAt zs k)] W1 fun e W' =>
      ((e = .returned (.bool true) ∧ J (k + 1) W') ∨ (e = .returned (.bool false) ∧ Jx (k + 1) W')) ∧ Kept (fun k => k = B ∨ k = b) W.heap.size W1 W')
    (h0 : J 0 W) :
    CallsIn Fence.wide 0 Tryd.prog 42 #[.func (.yield l) #[] #[], .pointer (some ⟨B, 0, none⟩)] W fun e W' => (∃ v, e = .returned v) ∧ (J ((zs.length + 1) / 2) W' ∨ ∃ k, Jx k W') := by
  refine callsIn_of_wp_marks Tryd.func42 rfl trivial ?_ rfl
  simp only [Tryd.ntmps42, List.size_toArray, List.length_cons, List.length_nil, Nat.reduceAdd, Nat.reduceSub, Array.replicate_succ, Array.replicate_zero, List.push_toArray, List.append_toArray, List.nil_append, List.cons_append]
  have hB := cell_lt h1
  gi_wp2_with (refine ⟨trivial, rfl, ?_⟩; gi_at_call 43; refine (callsIn_wide.2 (pairs_any _ _ _ _)).mono ?_; rintro e w' ⟨rfl, rfl⟩)
  have hs0 : ((W.alloc (.cells #[.func (.yield l) #[] #[]] 69)).alloc (.cells #[.slice p zs.length cap] 22)).heap.size = W.heap.size + 2 := by simp
  have hK2 : Kept (fun k => k = B ∨ k = b) W.heap.size W ((W.alloc (.cells #[.func (.yield l) #[] #[]] 69)).alloc (.cells #[.slice p zs.length cap] 22)) := (Kept.alloc _).trans (Kept.alloc _)
  have hJ2 : J 0 ((W.alloc (.cells #[.func (.yield l) #[] #[]] 69)).alloc (.cells #[.slice p zs.length cap] 22)) := hO.alloc _ (hO.alloc _ h0)
  have c0 : ((W.alloc (.cells #[.func (.yield l) #[] #[]] 69)).alloc (.cells #[.slice p zs.length cap] 22)).cell? ⟨W.heap.size, 0, none⟩ = some (.func (.yield l) #[] #[]) := by go_simp
  have c1 : ((W.alloc (.cells #[.func (.yield l) #[] #[]] 69)).alloc (.cells #[.slice p zs.length cap] 22)).cell? ⟨W.heap.size + 1, 0, none⟩ = some (.slice p zs.length cap) := by go_simp
  generalize ((W.alloc (.cells #[.func (.yield l) #[] #[]] 69)).alloc (.cells #[.slice p zs.length cap] 22)) = w2 at *
  have hd : ∀ j : Nat, j < zs.length → w2.cell? ⟨b, off + j, none⟩ = some (.int .i64 (zs[j]?.getD 0)) := fun j hj => hK2.cell (.inl (.inr rfl)) (h2 j hj)
  have hsa : w2.heap.size ≤ W.heap.size + 2 := Nat.le_of_eq hs0
  have hsb : W.heap.size + 2 ≤ w2.heap.size := Nat.le_of_eq hs0.symm
  clear hs0
  refine wp_iter (tot := pairsOf zs) (gf := 51) (lb := #[.pointer (some ⟨W.heap.size + 1, 0, none⟩)]) rfl (enters_of Tryd.func51 (by kernel_rfl) rfl)
    (pairs_iter _ b off cap zs p hp w2 hn hcap hcap2 c1 hd) (Kept.refl _ _ _) (fun k hk => by rcases hk with rfl | rfl <;> omega) (fun x hx => by simp [pairsOf, pairAt] at hx; obtain ⟨k, _, rfl⟩ := hx; rfl)
    (fun k W' => J k W' ∧ Kept (fun k => k = W.heap.size) w2.heap.size w2 W')
    (fun c k W' => c = .ret ∧ Jx k W')
    (OwnFrom.and (ownFrom_more hO (by omega)) (ownFrom_kept (Nat.le_refl _)))
    (fun c => OwnFrom.and (ownFrom_pure _ (fun _ => c = .ret)) (ownFrom_more hOx (by omega)))
    ⟨hJ2, Kept.refl _ _ _⟩
    (fun k => { tmps := #[.func (.yield l) #[] #[], .pointer (some ⟨B, 0, none⟩), .pointer (some ⟨W.heap.size, 0, none⟩), .int .i64 (zs[2 * k]?.getD 0), .int .i64 (zs[2 * k + 1]?.getD 0), .slice p zs.length cap,
      .func (.func 51) #[] #[.pointer (some ⟨W.heap.size + 1, 0, none⟩)], .int .i64 (zs[2 * k]?.getD 0), .int .i64 (zs[2 * k + 1]?.getD 0), undef, undef, undef, undef, undef, undef, undef], defers := [] }) ?assign ?body ?done ?stop
  case assign =>
    intro l' k hk W' K hKK
    simp only [pairsOf, List.getElem_map, List.getElem_range, pairAt]
    gi_wp2
    exact hKK
  case body =>
    rintro l' k hk W' hl1 hl2 ⟨hJk, hKp⟩
    have hk' : k < (zs.length + 1) / 2 := by simpa [pairsOf] using hk
    have y0 := hKp.cell (.inl rfl) c0
    have hsW : W.heap.size ≤ W'.heap.size := by have := hKp.size; omega
    have hx := byte_at hby (2 * k); have hy' := byte_at hby (2 * k + 1)
    obtain ⟨fn, tmps, asg, body, hy, hR⟩ := hY k hk' W' hJk hsW
    have fin : ∀ W3, Kept (fun k => k = B ∨ k = b) W.heap.size W' W3 → Kept (fun k => k = W.heap.size + 1 ∨ k = b) w2.heap.size W' W3 ∧ Kept (fun k => k = W.heap.size) w2.heap.size w2 W3 := fun W3 h3 =>
      ⟨h3.mono (fun j hj hq => by rcases hq with rfl | rfl; exact .inr (by omega); exact .inl (.inr rfl)) (by omega),
       hKp.trans (h3.mono (fun j hj hq => by rcases hq with rfl; exact .inr (Nat.le_refl _)) (by omega))⟩
    unfold wordAt at hy
    generalize zs[2 * k]?.getD 0 = x at hy hx
    generalize zs[2 * k + 1]?.getD 0 = y at hy hy'
    clear hY hd h2 hby
    gi_wp2
    refine ⟨rfl, hR.mono ?_⟩
    rintro e W3 ⟨(⟨rfl, hJ3⟩ | ⟨rfl, hJ3⟩), hk3⟩
    · gi_wp2
      exact ⟨(fin _ hk3).1, hJ3, (fin _ hk3).2⟩
    · gi_wp2
      exact ⟨(fin _ hk3).1, rfl, hJ3⟩
  case done =>
    rintro D W' hD ⟨hJk, hKp⟩ hKD
    have hlen : (pairsOf zs).length = (zs.length + 1) / 2 := by simp [pairsOf]
    rw [hlen] at hJk
    gi_wp2
    refine ⟨by simp, .inl ⟨_, _, rfl, run_takeDeferred hKD, ?_⟩⟩
    exact ⟨_, results_none rfl _ _ _, ⟨_, rfl⟩, .inl (hO.putObj _ hJk (by omega) hKD rfl)⟩
  case stop =>
    rintro D c k W' hD ⟨rfl, hJk⟩ hKD
    gi_wp2
    refine ⟨by simp, .inl ⟨_, _, rfl, run_takeDeferred hKD, ?_⟩⟩
    exact ⟨_, results_none rfl _ _ _, ⟨_, rfl⟩, .inr ⟨k, hOx.putObj _ hJk (by omega) hKD rfl⟩⟩

theorem words_iter (B b off cap : Nat) (zs : List Int) (p : Option Addr) (hp : 0 < zs.length → p = some ⟨b, off, none⟩) (w0 : World) (hn : zs.length ≤ 600) (hcap : zs.length ≤ cap) (hcap2 : cap ≤ 9223372036854775807) (hby : wthn zs 255 = true) (hbw : b < w0.heap.size)
    (h1 : w0.cell? ⟨B, 0, none⟩ = some (.slice p zs.length cap)) (h2 : ∀ j : Nat, j < zs.length → w0.cell? ⟨b, off + j, none⟩ = some (.int .i64 (zs[j]?.getD 0))) :
    Iter Tryd.prog 42 #[.pointer (some ⟨B, 0, none⟩)] ((wordsOf zs).map fun x => #[.int .i64 x]) (fun k => k = B ∨ k = b) w0 := by
  intro l J Jx W hl hK hJ hJx hY h0
  have hlen : ((wordsOf zs).map fun x => (#[.int .i64 x] : Array Value)).length = (zs.length + 1) / 2 := by simp [wordsOf]
  rw [hlen]
  refine words1_in l B b off cap zs p hp J Jx W hn hcap hcap2 hby (hK.cell (.inl (.inl rfl)) h1) (fun j hj => hK.cell (.inl (.inr rfl)) (h2 j hj)) hl hJ hJx (Nat.lt_of_lt_of_le hbw hK.size) (fun k hk W1 hj hs => ?_) h0
  have := hY k (by omega) W1 hj hs
  simpa [wordsOf] using this

/-- The sum of all words of bytes. -/
def onesum (zs : List Int) : Int := sum1 (wordsOf zs)

theorem total_words (p : Option Addr) (cap : Nat) (zs : List Int) (W w : World) (h : Ints W p cap zs) (hn : zs.length ≤ 600) (hby : wthn zs 255 = true) (hw : w = W.alloc (.cells #[.slice p zs.length cap] 22)) :
    Calls Tryd.prog 33 #[.func (.func 42) #[] #[.pointer (some ⟨W.heap.size, 0, none⟩)]] w fun e w' => e = .returned (.int .i64 (onesum zs)) ∧ Below W.heap.size W w' := by
  have hcap2 : cap ≤ 9223372036854775807 := by have := h.2.1; unfold maxLen at this; omega
  have c1 : w.cell? ⟨W.heap.size, 0, none⟩ = some (.slice p zs.length cap) := by rw [hw]; go_simp
  have hsz : w.heap.size = W.heap.size + 1 := by rw [hw]; simp
  obtain ⟨b, off, hp, hb, hd⟩ : ∃ b off, (0 < zs.length → p = some ⟨b, off, none⟩) ∧ b < w.heap.size ∧ ∀ j : Nat, j < zs.length → w.cell? ⟨b, off + j, none⟩ = some (.int .i64 (zs[j]?.getD 0)) := by
    by_cases h0 : 0 < zs.length
    · obtain ⟨b, off, hp, hb, hd⟩ := h.2.2.2 h0
      refine ⟨b, off, fun _ => hp, by omega, fun j hj => ?_⟩
      rw [hw, World.cell?_alloc_lt W _ _ hb]
      exact hd j hj
    · exact ⟨W.heap.size, 0, fun h1 => absurd h1 h0, by omega, fun j hj => absurd hj (by omega)⟩
  refine (total_any 42 _ (enters_of Tryd.func42 (by kernel_rfl) rfl) (wordsOf zs) (fun k => k = W.heap.size ∨ k = b) w (words_range hby) (fun k hk => by rcases hk with rfl | rfl <;> omega)
    (words_iter W.heap.size b off cap zs p hp w hn h.1 hcap2 hby hb c1 hd)).mono ?_
  rintro e w' ⟨rfl, hbw⟩
  refine ⟨rfl, ?_⟩
  have : Below W.heap.size W w := by rw [hw]; exact (Below.refl _ _).alloc (Nat.le_refl _) _
  exact this.trans (hbw.mono (by omega))

theorem onesum_range {zs : List Int} (hby : wthn zs 255 = true) : 0 ≤ onesum zs ∧ onesum zs ≤ 65535 := sum1_range (words_range hby)

theorem sum_ok (p : Option Addr) (cap : Nat) (zs : List Int) (w : World) (h : Ints w p cap zs) (hn : zs.length ≤ 600) (hby : wthn zs 255 = true) :
    Calls Tryd.prog 19 #[.slice p zs.length cap] w fun e w' => e = .returned (.tuple #[.int .i64 (65535 - onesum zs), .nilIface]) ∧ Below w.heap.size w w' := by
  have hr := onesum_range hby
  have hlen := h.len_le
  go_enter Tryd.func19, Tryd.ntmps19
  go_wp2_with (first
    | (go_at_call 32; refine (check_ok p cap zs w h hn hby).mono ?_; rintro e w' ⟨rfl, rfl⟩)
    | (go_at_call 34; refine (words_any _ _ _ _).mono ?_; rintro e w' ⟨rfl, rfl⟩)
    | (go_at_call 33; refine (total_words p cap zs w _ h hn hby rfl).mono ?_; rintro e w' ⟨rfl, hb⟩))
  go_ret2
  exact ⟨rfl, hb⟩

theorem good_ok (p : Option Addr) (cap : Nat) (zs : List Int) (w : World) (h : Ints w p cap zs) (hn : zs.length ≤ 600) (hby : wthn zs 255 = true) :
    Calls Tryd.prog 24 #[.slice p zs.length cap] w fun e w' => e = .returned (.tuple #[.bool (onesum zs == 65535), .nilIface]) ∧ Below w.heap.size w w' := by
  have hr := onesum_range hby
  have hlen := h.len_le
  go_enter Tryd.func24, Tryd.ntmps24
  go_wp2_with (first
    | (go_at_call 32; refine (check_ok p cap zs w h hn hby).mono ?_; rintro e w' ⟨rfl, rfl⟩)
    | (go_at_call 34; refine (words_any _ _ _ _).mono ?_; rintro e w' ⟨rfl, rfl⟩)
    | (go_at_call 33; refine (total_words p cap zs w _ h hn hby rfl).mono ?_; rintro e w' ⟨rfl, hb⟩))
  go_ret2
  exact ⟨rfl, hb⟩

/-- What is wrong with bytes. -/
def bad (zs : List Int) : Int := if 600 < zs.length then 4 else if wthn zs 255 then 0 else 1

theorem sum_bad (p : Option Addr) (cap : Nat) (zs : List Int) (w : World) (h : Ints w p cap zs) (hb : bad zs ≠ 0) :
    Calls Tryd.prog 19 #[.slice p zs.length cap] w fun e w' => e = .returned (.tuple #[.int .i64 0, .iface 45 (.int .i64 (bad zs))]) ∧ w = w' := by
  have hlen := h.len_le
  by_cases hn : 600 < zs.length
  · have e : bad zs = 4 := by simp [bad, hn]
    rw [e]
    clear e hb
    go_enter Tryd.func19, Tryd.ntmps19
    go_wp2_with (go_at_call 32; refine (check_full p cap zs w h hn).mono ?_; rintro e w' ⟨rfl, rfl⟩)
    go_ret2
    exact ⟨rfl, rfl⟩
  · have hy : wthn zs 255 = false := by
      cases hy : wthn zs 255 with
      | false => rfl
      | true => exact absurd (by simp [bad, hn, hy]) hb
    have e : bad zs = 1 := by simp [bad, hn, hy]
    rw [e]
    clear e hb
    have hn' : zs.length ≤ 600 := by omega
    have HY := Lib.hid hy
    clear hy
    go_enter Tryd.func19, Tryd.ntmps19
    go_wp2_with (go_at_call 32; refine (check_bad p cap zs w h hn' HY.out).mono ?_; rintro e w' ⟨rfl, rfl⟩)
    go_ret2
    exact ⟨rfl, rfl⟩

theorem good_bad (p : Option Addr) (cap : Nat) (zs : List Int) (w : World) (h : Ints w p cap zs) (hb : bad zs ≠ 0) :
    Calls Tryd.prog 24 #[.slice p zs.length cap] w fun e w' => e = .returned (.tuple #[.bool false, .iface 45 (.int .i64 (bad zs))]) ∧ w = w' := by
  have hlen := h.len_le
  by_cases hn : 600 < zs.length
  · have e : bad zs = 4 := by simp [bad, hn]
    rw [e]
    clear e hb
    go_enter Tryd.func24, Tryd.ntmps24
    go_wp2_with (go_at_call 32; refine (check_full p cap zs w h hn).mono ?_; rintro e w' ⟨rfl, rfl⟩)
    go_ret2
    exact ⟨rfl, rfl⟩
  · have hy : wthn zs 255 = false := by
      cases hy : wthn zs 255 with
      | false => rfl
      | true => exact absurd (by simp [bad, hn, hy]) hb
    have e : bad zs = 1 := by simp [bad, hn, hy]
    rw [e]
    clear e hb
    have hn' : zs.length ≤ 600 := by omega
    have HY := Lib.hid hy
    clear hy
    go_enter Tryd.func24, Tryd.ntmps24
    go_wp2_with (go_at_call 32; refine (check_bad p cap zs w h hn' HY.out).mono ?_; rintro e w' ⟨rfl, rfl⟩)
    go_ret2
    exact ⟨rfl, rfl⟩
end Go.Proofs.YtooicigocljomaaDoor.Ones
