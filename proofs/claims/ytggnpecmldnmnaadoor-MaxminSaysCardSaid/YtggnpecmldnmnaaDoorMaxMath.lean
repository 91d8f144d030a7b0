/- Max-min fair shares by progressive filling: the mathematics, without the program. No statement is proved here. -/
import Derived.Test.YtggnpecmldnmnaaDoorDrrMath
namespace Go.Proofs.YtggnpecmldnmnaaDoor.Maxmin
open Go.Proofs.YtggnpecmldnmnaaDoor.Drr
set_option linter.unusedVariables false

/-- A list as a map over the numbers below n. -/
def lt (n : Nat) (f : Int → Int) : List Int := (List.range n).map fun j : Nat => f (j : Int)
theorem lt_len (n : Nat) (f : Int → Int) : (lt n f).length = n := by simp [lt]
theorem lt_get (n : Nat) (f : Int → Int) (k : Nat) (hk : k < n) : (lt n f)[k]?.getD 0 = f (k : Int) := by simp [lt, hk]
theorem lt_set (n : Nat) (f : Int → Int) (k : Nat) (v : Int) : (lt n f).set k v = lt n (fun y => if y = (k : Int) then v else f y) := by
  refine List.ext_getElem? fun j => ?_
  rw [List.getElem?_set, lt_len]
  by_cases e : k = j
  · subst e
    rw [if_pos rfl]
    by_cases hk : k < n
    · rw [if_pos hk]; simp [lt, hk]
    · rw [if_neg hk, List.getElem?_eq_none (by rw [lt_len]; omega)]
  · rw [if_neg e]
    by_cases hj : j < n
    · have : (j : Int) ≠ (k : Int) := by omega
      simp [lt, hj, this]
    · rw [List.getElem?_eq_none (by rw [lt_len]; omega), List.getElem?_eq_none (by rw [lt_len]; omega)]
theorem lt_congr {n : Nat} {f g : Int → Int} (h : ∀ k : Nat, k < n → f (k : Int) = g (k : Int)) : lt n f = lt n g :=
  List.map_congr_left fun j hj => h j (List.mem_range.1 hj)
theorem lt_of (l : List Int) : l = lt l.length (fun x => l[x.toNat]?.getD 0) := by
  refine List.ext_getElem (by rw [lt_len]) fun j h1 h2 => ?_
  simp [lt, h1]

/-- A sum over some. -/
def su (F : List Nat) (f : Nat → Int) : Int := (F.map f).sum
theorem su_nil (f : Nat → Int) : su [] f = 0 := rfl
theorem su_cons (i : Nat) (F : List Nat) (f : Nat → Int) : su (i :: F) f = f i + su F f := by simp [su]
theorem su_app (F G : List Nat) (f : Nat → Int) : su (F ++ G) f = su F f + su G f := by simp [su, List.sum_append]
theorem su_congr {F : List Nat} {f g : Nat → Int} (h : ∀ i ∈ F, f i = g i) : su F f = su F g := by
  unfold su
  rw [List.map_congr_left h]
theorem su_add (F : List Nat) (f g : Nat → Int) : su F (fun i => f i + g i) = su F f + su F g := by
  induction F with
  | nil => rfl
  | cons i F ih => rw [su_cons, su_cons, su_cons, ih]; omega
theorem su_le {F : List Nat} {f g : Nat → Int} (h : ∀ i ∈ F, f i ≤ g i) : su F f ≤ su F g := by
  induction F with
  | nil => exact Int.le_refl _
  | cons i F ih =>
    rw [su_cons, su_cons]
    have := h i (by simp)
    have := ih (fun j hj => h j (by simp [hj]))
    omega
theorem su_nonneg {F : List Nat} {f : Nat → Int} (h : ∀ i ∈ F, 0 ≤ f i) : 0 ≤ su F f := by
  have := su_le (F := F) (f := fun _ => 0) (g := f) h
  have e : su F (fun _ => 0) = 0 := by
    clear this h
    induction F with
    | nil => rfl
    | cons i F ih => rw [su_cons, ih]; rfl
  omega
theorem su_const (F : List Nat) (c : Int) : su F (fun _ => c) = c * F.length := by
  induction F with
  | nil => simp [su]
  | cons i F ih => rw [su_cons, ih, List.length_cons, Int.natCast_add, Int.mul_add]; simp; omega
theorem su_zero {F : List Nat} {f : Nat → Int} (h : ∀ i ∈ F, f i = 0) : su F f = 0 := by
  rw [su_congr (g := fun _ => 0) h, su_const]; omega
theorem su_one {F : List Nat} {f : Nat → Int} {i : Nat} (h : ∀ i ∈ F, 0 ≤ f i) (hi : i ∈ F) : f i ≤ su F f := by
  induction F with
  | nil => cases hi
  | cons j F ih =>
    rw [su_cons]
    have h1 := h j (by simp)
    have h2 := su_nonneg (F := F) (f := f) (fun k hk => h k (by simp [hk]))
    rcases List.mem_cons.1 hi with rfl | hi
    · omega
    · have := ih (fun k hk => h k (by simp [hk])) hi
      omega
theorem su_filter (F : List Nat) (o : Nat → Bool) (f : Nat → Int) : su (F.filter o) f = su F (fun i => if o i = true then f i else 0) := by
  induction F with
  | nil => rfl
  | cons i F ih =>
    rw [List.filter_cons, su_cons]
    cases h : o i
    · simp [ih]
    · simp [su_cons, ih]
theorem su_rev (n : Nat) (f : Nat → Int) : su (List.range n) (fun i => f (n - 1 - i)) = su (List.range n) f := by
  have : (List.range n).map (fun i => f (n - 1 - i)) = ((List.range n).map f).reverse := by
    refine List.ext_getElem (by simp) fun j h1 h2 => ?_
    simp at h1
    simp
  unfold su
  rw [this, List.sum_reverse]

/-- What some visits of places with amounts come to at a place. -/
def tk : List (Int × Int) → Int → Int
  | [], _ => 0
  | z :: Z, x => (if z.1 = x then z.2 else 0) + tk Z x
theorem tk_app (Z Y : List (Int × Int)) (x : Int) : tk (Z ++ Y) x = tk Z x + tk Y x := by
  induction Z with
  | nil => simp [tk]
  | cons z Z ih => simp only [List.cons_append, tk, ih]; omega
theorem tk_snoc (Z : List (Int × Int)) (y a x : Int) : tk (Z ++ [(y, a)]) x = tk Z x + if y = x then a else 0 := by
  rw [tk_app]; simp [tk]
theorem tk_none (l : List Int) (a x : Int) (h : x ∉ l) : tk (l.map fun y => (y, a)) x = 0 := by
  induction l with
  | nil => rfl
  | cons y l ih =>
    simp only [List.map_cons, tk]
    rw [if_neg (fun e => h (by simp [e])), ih (fun hx => h (by simp [hx]))]; rfl
theorem tk_once {l : List Int} (hd : l.Nodup) (a x : Int) : tk (l.map fun y => (y, a)) x = if x ∈ l then a else 0 := by
  induction l with
  | nil => simp [tk]
  | cons y l ih =>
    obtain ⟨h1, h2⟩ := List.nodup_cons.1 hd
    simp only [List.map_cons, tk]
    by_cases e : y = x
    · subst e
      rw [if_pos rfl, tk_none l a y h1, if_pos (by simp)]; omega
    · rw [if_neg e, ih h2]
      by_cases hx : x ∈ l
      · rw [if_pos hx, if_pos (by simp [hx])]; omega
      · rw [if_neg hx, if_neg (by simp [hx, Ne.symm e])]; rfl

/-- All visits of some rows, each with its row's amount. -/
def vis (ws : List (List Int)) (amt : Nat → Int) (A : List Nat) : List (Int × Int) := A.flatMap fun i => (row ws i).map fun y => (y, amt i)
/-- Those of the first j rows of A, and k of the next. -/
def part (ws : List (List Int)) (amt : Nat → Int) (A : List Nat) (j k : Nat) : List (Int × Int) :=
  vis ws amt (A.take j) ++ ((row ws (A[j]?.getD 0)).take k).map fun y => (y, amt (A[j]?.getD 0))
variable {ws : List (List Int)} {amt : Nat → Int} {A : List Nat}
theorem part_zero : part ws amt A 0 0 = [] := by simp [part, vis]
theorem part_step {j k i : Nat} (hi : A[j]?.getD 0 = i) (hk : k < (row ws i).length) : part ws amt A j (k + 1) = part ws amt A j k ++ [((row ws i)[k]?.getD 0, amt i)] := by
  subst hi
  have e : (row ws (A[j]?.getD 0)).take (k + 1) = (row ws (A[j]?.getD 0)).take k ++ [(row ws (A[j]?.getD 0))[k]?.getD 0] := by
    rw [List.take_add_one, List.getElem?_eq_getElem hk]; rfl
  unfold part
  rw [e, List.map_append, List.append_assoc]
  rfl
theorem part_next {j i : Nat} (hj : j < A.length) (hi : A[j]?.getD 0 = i) : part ws amt A j (row ws i).length = part ws amt A (j + 1) 0 := by
  subst hi
  have e : A.take (j + 1) = A.take j ++ [A[j]?.getD 0] := by
    rw [List.take_add_one, List.getElem?_eq_getElem hj]; rfl
  unfold part vis
  rw [e, List.flatMap_append, List.take_length]
  simp
theorem part_all : part ws amt A A.length 0 = vis ws amt A := by simp [part]

/-- What the rows of n come to at a place. -/
def ld (ws : List (List Int)) (f : Nat → Int) (x : Int) : Int := su (List.range ws.length) fun i => if x ∈ row ws i then f i else 0
theorem row_nodup (hd : ∀ w ∈ ws, w.Nodup) (i : Nat) : (row ws i).Nodup := by
  unfold row
  cases h : ws[i]? with
  | none => exact List.nodup_nil
  | some w => exact hd w (List.mem_of_getElem? h)
theorem tk_vis (hd : ∀ w ∈ ws, w.Nodup) (x : Int) : tk (vis ws amt A) x = su A fun i => if x ∈ row ws i then amt i else 0 := by
  induction A with
  | nil => rfl
  | cons i A ih =>
    have : vis ws amt (i :: A) = ((row ws i).map fun y => (y, amt i)) ++ vis ws amt A := by simp [vis]
    rw [this, tk_app, ih, su_cons, tk_once (row_nodup hd i)]
theorem tk_all (hd : ∀ w ∈ ws, w.Nodup) (x : Int) : tk (vis ws amt (List.range ws.length)) x = ld ws amt x := tk_vis hd x
/-- Those for whom o holds. -/
def acts (n : Nat) (o : Nat → Bool) : List Nat := (List.range n).filter o
theorem tk_acts (hd : ∀ w ∈ ws, w.Nodup) (o : Nat → Bool) (a x : Int) : tk (vis ws (fun _ => a) (acts ws.length o)) x = ld ws (fun i => if o i = true then a else 0) x := by
  rw [tk_vis hd, acts, su_filter]
  refine su_congr fun i _ => ?_
  by_cases h : o i = true <;> simp [h]
theorem tk_part (hd : ∀ w ∈ ws, w.Nodup) {B : Int} (hB : ∀ i, 0 ≤ amt i ∧ amt i ≤ B) (j k : Nat) (x : Int) : 0 ≤ tk (part ws amt A j k) x ∧ tk (part ws amt A j k) x ≤ B * (A.take j).length + B := by
  unfold part
  rw [tk_app, tk_vis hd, tk_once ((row_nodup hd _).sublist (List.take_sublist _ _))]
  have h1 : 0 ≤ su (A.take j) fun i => if x ∈ row ws i then amt i else 0 := su_nonneg fun i _ => by
    have := (hB i).1
    split <;> omega
  have h0 : 0 ≤ B := by have := hB 0; omega
  have h2 : su (A.take j) (fun i => if x ∈ row ws i then amt i else 0) ≤ su (A.take j) fun _ => B := su_le fun i _ => by
    have := (hB i).2
    split <;> omega
  rw [su_const] at h2
  have := hB (A[j]?.getD 0)
  split <;> omega
theorem tk_part5 (hd : ∀ w ∈ ws, w.Nodup) {B : Int} (hB : ∀ i, 0 ≤ amt i ∧ amt i ≤ B) (hA : A.length ≤ 5) (j k : Nat) (x : Int) : 0 ≤ tk (part ws amt A j k) x ∧ tk (part ws amt A j k) x ≤ B * 6 := by
  obtain ⟨h1, h2⟩ := tk_part (A := A) hd hB j k x
  refine ⟨h1, ?_⟩
  have h3 : ((A.take j).length : Int) ≤ 5 := by rw [List.length_take]; omega
  have h0 : 0 ≤ B := by have := hB 0; omega
  have : B * ((A.take j).length : Int) ≤ B * 5 := Int.mul_le_mul_of_nonneg_left h3 h0
  omega

/-- What is right. -/
structure Good (room : List Int) (ws : List (List Int)) : Prop where
  links : room.length ≤ 6
  flows : ws.length ≤ 5
  caps : ∀ c ∈ room, 0 ≤ c ∧ c ≤ 1000
  full : ∀ w ∈ ws, w ≠ []
  here : ∀ w ∈ ws, ∀ x ∈ w, 0 ≤ x ∧ x ≤ (room.length : Int) - 1
  once : ∀ w ∈ ws, w.Nodup
/-- The room of a link. -/
def cp (room : List Int) (x : Int) : Int := room[x.toNat]?.getD 0
/-- What is left on a link. -/
def lf (room : List Int) (ws : List (List Int)) (h : Nat → Int) (x : Int) : Int := cp room x - ld ws h x
/-- How many active flows use a link. -/
def us (ws : List (List Int)) (o : Nat → Bool) (x : Int) : Int := ld ws (fun i => if o i = true then 1 else 0) x
def hit (room : List Int) (ws : List (List Int)) (h : Nat → Int) (o : Nat → Bool) (i : Nat) : Bool := (row ws i).any fun x => decide (lf room ws h x < us ws o x)
def cut (room : List Int) (ws : List (List Int)) (h : Nat → Int) (o : Nat → Bool) : Nat → Bool := fun i => o i && !hit room ws h o i
def inc (h : Nat → Int) (o : Nat → Bool) : Nat → Int := fun i => h i + if o i = true then 1 else 0
/-- From rates h and active flows o, in k rounds, r comes out. -/
inductive Runs (room : List Int) (ws : List (List Int)) : (Nat → Int) → (Nat → Bool) → Nat → (Nat → Int) → Prop
  | done (h o) : (∀ i, i < ws.length → o i = false) → Runs room ws h o 0 h
  | cut (h o k r) : (∃ i, i < ws.length ∧ o i = true ∧ hit room ws h o i = true) → Runs room ws h (cut room ws h o) k r → Runs room ws h o (k + 1) r
  | inc (h o k r) : (∃ i, i < ws.length ∧ o i = true) → (∀ i, i < ws.length → o i = true → hit room ws h o i = false) → Runs room ws (inc h o) o k r → Runs room ws h o (k + 1) r

theorem row_in {i : Nat} (hi : i < ws.length) : row ws i ∈ ws := by
  unfold row; rw [List.getElem?_eq_getElem hi]; exact List.getElem_mem hi
theorem ld_add (f g : Nat → Int) (x : Int) : ld ws (fun i => f i + g i) x = ld ws f x + ld ws g x := by
  unfold ld
  rw [← su_add]
  refine su_congr fun i _ => ?_
  show (if x ∈ row ws i then f i + g i else 0) = (if x ∈ row ws i then f i else 0) + if x ∈ row ws i then g i else 0
  split <;> omega
theorem ld_le {f g : Nat → Int} {x : Int} (h : ∀ i, i < ws.length → x ∈ row ws i → f i ≤ g i) : ld ws f x ≤ ld ws g x := by
  refine su_le fun i hi => ?_
  by_cases hx : x ∈ row ws i
  · rw [if_pos hx, if_pos hx]; exact h i (List.mem_range.1 hi) hx
  · rw [if_neg hx, if_neg hx]; exact Int.le_refl _
theorem ld_congr {f g : Nat → Int} {x : Int} (h : ∀ i, i < ws.length → x ∈ row ws i → f i = g i) : ld ws f x = ld ws g x :=
  Int.le_antisymm (ld_le fun i hi hx => by rw [h i hi hx]; exact Int.le_refl _) (ld_le fun i hi hx => by rw [h i hi hx]; exact Int.le_refl _)
theorem ld_zero {f : Nat → Int} {x : Int} (h : ∀ i, i < ws.length → x ∈ row ws i → f i = 0) : ld ws f x = 0 := by
  refine su_zero fun i hi => ?_
  by_cases hx : x ∈ row ws i
  · rw [if_pos hx]; exact h i (List.mem_range.1 hi) hx
  · rw [if_neg hx]
theorem ld_one {f : Nat → Int} {x : Int} {i : Nat} (h : ∀ i, i < ws.length → 0 ≤ f i) (hi : i < ws.length) (hx : x ∈ row ws i) : f i ≤ ld ws f x := by
  have := su_one (F := List.range ws.length) (f := fun i => if x ∈ row ws i then f i else 0) (i := i) (fun j hj => by
    have := h j (List.mem_range.1 hj)
    show 0 ≤ if x ∈ row ws j then f j else 0
    split <;> omega) (List.mem_range.2 hi)
  simp only [if_pos hx] at this
  exact this
theorem ld_nonneg {f : Nat → Int} {x : Int} (h : ∀ i, i < ws.length → 0 ≤ f i) : 0 ≤ ld ws f x := su_nonneg fun j hj => by
  have := h j (List.mem_range.1 hj)
  show 0 ≤ if x ∈ row ws j then f j else 0
  split <;> omega
theorem ld_top {f : Nat → Int} {x B : Int} (hB : 0 ≤ B) (h : ∀ i, i < ws.length → f i ≤ B) : ld ws f x ≤ B * ws.length := by
  have := su_le (F := List.range ws.length) (f := fun i => if x ∈ row ws i then f i else 0) (g := fun _ => B) (fun j hj => by
    have := h j (List.mem_range.1 hj)
    show (if x ∈ row ws j then f j else 0) ≤ B
    split <;> omega)
  rw [su_const, List.length_range] at this
  exact this
variable {room : List Int} {h : Nat → Int} {o : Nat → Bool} {k : Nat} {r : Nat → Int}
theorem us_nonneg (x : Int) : 0 ≤ us ws o x := ld_nonneg fun i _ => by split <;> omega
theorem us_one {x : Int} {i : Nat} (hi : i < ws.length) (hx : x ∈ row ws i) (ho : o i = true) : 1 ≤ us ws o x := by
  have := ld_one (f := fun i => if o i = true then 1 else 0) (fun i _ => by split <;> omega) hi hx
  simp only [ho, if_true] at this
  exact this
theorem us_top (x : Int) : us ws o x ≤ ws.length := by
  have := ld_top (ws := ws) (f := fun i => if o i = true then 1 else 0) (x := x) (B := 1) (by omega) (fun i _ => by split <;> omega)
  unfold us; omega
theorem us_le {o p : Nat → Bool} (x : Int) (h : ∀ i, o i = true → p i = true) : us ws o x ≤ us ws p x := ld_le fun i _ _ => by
  by_cases ho : o i = true
  · rw [if_pos ho, if_pos (h i ho)]; exact Int.le_refl _
  · rw [if_neg ho]; split <;> omega
theorem lf_inc (x : Int) : lf room ws (inc h o) x = lf room ws h x - us ws o x := by
  unfold lf inc us
  rw [ld_add]; omega
theorem hit_iff {i : Nat} : hit room ws h o i = true ↔ ∃ x ∈ row ws i, lf room ws h x < us ws o x := by simp [hit]
theorem hit_not {i : Nat} : hit room ws h o i = false ↔ ∀ x ∈ row ws i, us ws o x ≤ lf room ws h x := by simp [hit]
/-- All use it. -/
def all : Nat → Bool := fun _ => true
/-- What holds while rates rise: t is what all active flows have. -/
structure Inv (room : List Int) (ws : List (List Int)) (h : Nat → Int) (o : Nat → Bool) (t : Int) : Prop where
  zero : 0 ≤ t
  on : ∀ i, i < ws.length → o i = true → h i = t
  any : ∀ i, i < ws.length → 0 ≤ h i ∧ h i ≤ t
  left : ∀ x, 0 ≤ x → x ≤ (room.length : Int) - 1 → 0 ≤ lf room ws h x
  neck : ∀ i, i < ws.length → o i = false → ∃ x ∈ row ws i, lf room ws h x < us ws all x ∧ ∀ j, j < ws.length → x ∈ row ws j → o j = false ∧ h j ≤ h i
theorem Inv.start (hg : Good room ws) : Inv room ws (fun _ => 0) all 0 :=
  ⟨Int.le_refl _, fun _ _ _ => rfl, fun _ _ => ⟨Int.le_refl _, Int.le_refl _⟩, fun x h0 h1 => by
    unfold lf
    rw [ld_zero (fun _ _ _ => rfl)]
    have hx : x.toNat < room.length := by omega
    have := hg.caps (room[x.toNat]) (List.getElem_mem hx)
    unfold cp
    rw [List.getElem?_eq_getElem hx]
    show 0 ≤ room[x.toNat] - 0
    omega, fun i hi ho => by cases ho⟩
theorem Inv.cut {t : Int} (H : Inv room ws h o t) (hg : Good room ws) : Inv room ws h (cut room ws h o) t :=
  ⟨H.zero, fun i hi ho => H.on i hi (by unfold Maxmin.cut at ho; rw [Bool.and_eq_true] at ho; exact ho.1), H.any, H.left, fun i hi ho => by
    cases hoi : o i with
    | false =>
      obtain ⟨x, h1, h2, h3⟩ := H.neck i hi hoi
      exact ⟨x, h1, h2, fun j hj hx => ⟨by unfold Maxmin.cut; rw [(h3 j hj hx).1]; rfl, (h3 j hj hx).2⟩⟩
    | true =>
      have hh : hit room ws h o i = true := by
        unfold Maxmin.cut at ho
        rw [hoi] at ho
        simpa using ho
      obtain ⟨x, h1, h2⟩ := hit_iff.1 hh
      refine ⟨x, h1, Int.lt_of_lt_of_le h2 (us_le x (fun _ _ => rfl)), fun j hj hx => ⟨?_, ?_⟩⟩
      · unfold Maxmin.cut
        rw [hit_iff.2 ⟨x, hx, h2⟩]; simp
      · rw [H.on i hi hoi]; exact (H.any j hj).2⟩
theorem Inv.inc {t : Int} (H : Inv room ws h o t) (hg : Good room ws) (hn : ∀ i, i < ws.length → o i = true → hit room ws h o i = false) : Inv room ws (inc h o) o (t + 1) := by
  have hz := H.zero
  refine ⟨by omega, fun i hi ho => ?_, fun i hi => ?_, fun x h0 h1 => ?_, fun i hi ho => ?_⟩
  · unfold Maxmin.inc; rw [if_pos ho, H.on i hi ho]
  · unfold Maxmin.inc
    have := H.any i hi
    split <;> omega
  · rw [lf_inc]
    by_cases hu : ∃ i, i < ws.length ∧ x ∈ row ws i ∧ o i = true
    · obtain ⟨i, hi, hx, ho⟩ := hu
      have := hit_not.1 (hn i hi ho) x hx
      omega
    · have : us ws o x = 0 := ld_zero fun i hi hx => by
        rw [if_neg (fun ho => hu ⟨i, hi, hx, ho⟩)]
      have := H.left x h0 h1
      omega
  · obtain ⟨x, h1, h2, h3⟩ := H.neck i hi ho
    refine ⟨x, h1, ?_, fun j hj hx => ⟨(h3 j hj hx).1, ?_⟩⟩
    · rw [lf_inc]
      have := us_nonneg (ws := ws) (o := o) x
      omega
    · unfold Maxmin.inc
      rw [(h3 j hj hx).1, ho]
      have := (h3 j hj hx).2
      simpa using this
theorem Inv.top {t : Int} (H : Inv room ws h o t) (hg : Good room ws) {i : Nat} (hi : i < ws.length) : h i ≤ 1000 := by
  have hw := row_in hi
  obtain ⟨x, hx⟩ := List.exists_mem_of_ne_nil _ (hg.full _ hw)
  have hr := hg.here _ hw x hx
  have h1 := H.left x hr.1 hr.2
  have h2 := ld_one (f := h) (fun j hj => (H.any j hj).1) hi hx
  have hx2 : x.toNat < room.length := by omega
  have h3 := hg.caps (room[x.toNat]) (List.getElem_mem hx2)
  unfold lf cp at h1
  rw [List.getElem?_eq_getElem hx2] at h1
  have e : (Option.some room[x.toNat]).getD 0 = room[x.toNat] := rfl
  rw [e] at h1
  omega
theorem filter_less {F : List Nat} {o p : Nat → Bool} (h : ∀ i ∈ F, p i = true → o i = true) {i : Nat} (hi : i ∈ F) (ho : o i = true) (hp : p i = false) : (F.filter p).length < (F.filter o).length := by
  have hle : ∀ (F : List Nat), (∀ i ∈ F, p i = true → o i = true) → (F.filter p).length ≤ (F.filter o).length := by
    intro F h
    induction F with
    | nil => exact Nat.le_refl _
    | cons j F ih =>
      have h2 := ih (fun i hi => h i (by simp [hi]))
      have h1 := h j (by simp)
      rw [List.filter_cons, List.filter_cons]
      cases hp : p j
      · cases o j
        · simpa using h2
        · simp; omega
      · rw [h1 hp]; simpa using h2
  induction F with
  | nil => cases hi
  | cons j F ih =>
    rw [List.filter_cons, List.filter_cons]
    have h1 := h j (by simp)
    have h2 := hle F (fun i hi => h i (by simp [hi]))
    by_cases e : i = j
    · subst e
      rw [ho, hp]; simp; omega
    · have hi2 : i ∈ F := by
        rcases List.mem_cons.1 hi with e2 | e2
        · exact absurd e2 e
        · exact e2
      have h3 := ih (fun i hi => h i (by simp [hi])) hi2
      cases hpj : p j
      · cases o j
        · simpa using h3
        · simp; omega
      · rw [h1 hpj]; simpa using h3
theorem runs_some (hg : Good room ws) : ∀ (m : Nat) (h : Nat → Int) (o : Nat → Bool) (t : Int), Inv room ws h o t → (1000 - t).toNat + (acts ws.length o).length ≤ m → ∃ k r, Runs room ws h o k r := by
  intro m
  induction m with
  | zero =>
    intro h o t H hm
    refine ⟨0, h, .done h o fun i hi => ?_⟩
    cases ho : o i with
    | false => rfl
    | true =>
      have : i ∈ acts ws.length o := List.mem_filter.2 ⟨List.mem_range.2 hi, ho⟩
      have := List.length_pos_of_mem this
      omega
  | succ m ih =>
    intro h o t H hm
    by_cases hs : ∃ i, i < ws.length ∧ o i = true
    · by_cases hc : ∃ i, i < ws.length ∧ o i = true ∧ hit room ws h o i = true
      · have hl : (acts ws.length (cut room ws h o)).length < (acts ws.length o).length := by
          obtain ⟨i, hi, ho, hh⟩ := hc
          exact filter_less (fun j hj hp => by unfold cut at hp; rw [Bool.and_eq_true] at hp; exact hp.1) (List.mem_range.2 hi) ho (by unfold cut; rw [ho, hh]; rfl)
        obtain ⟨k, r, hr⟩ := ih h (cut room ws h o) t (H.cut hg) (by omega)
        exact ⟨k + 1, r, .cut h o k r hc hr⟩
      · have hn : ∀ i, i < ws.length → o i = true → hit room ws h o i = false := fun i hi ho => by
          cases hh : hit room ws h o i with
          | false => rfl
          | true => exact absurd ⟨i, hi, ho, hh⟩ hc
        have H2 := H.inc hg hn
        obtain ⟨i, hi, ho⟩ := hs
        have h1 := H2.top hg hi
        rw [H2.on i hi ho] at h1
        have hz := H.zero
        obtain ⟨k, r, hr⟩ := ih (inc h o) o (t + 1) H2 (by omega)
        exact ⟨k + 1, r, .inc h o k r ⟨i, hi, ho⟩ hn hr⟩
    · refine ⟨0, h, .done h o fun i hi => ?_⟩
      cases ho : o i with
      | false => rfl
      | true => exact absurd ⟨i, hi, ho⟩ hs
theorem runs_exist (hg : Good room ws) : ∃ k r, Runs room ws (fun _ => 0) all k r := runs_some hg _ _ _ _ (Inv.start hg) (Nat.le_refl _)
theorem runs_end (hg : Good room ws) {h : Nat → Int} {o : Nat → Bool} {k : Nat} {r : Nat → Int} (hr : Runs room ws h o k r) : ∀ t, Inv room ws h o t → ∃ o' t', Inv room ws r o' t' ∧ ∀ i, i < ws.length → o' i = false := by
  induction hr with
  | done h o hd => exact fun t H => ⟨o, t, H, hd⟩
  | cut h o k r hc _ ih => exact fun t H => ih t (H.cut hg)
  | inc h o k r hs hn _ ih => exact fun t H => ih (t + 1) (H.inc hg hn)
/-- What the end says. -/
theorem ends (hg : Good room ws) (hr : Runs room ws (fun _ => 0) all k r) : (∀ i, i < ws.length → 0 ≤ r i ∧ r i ≤ 1000) ∧ (∀ x, 0 ≤ x → x ≤ (room.length : Int) - 1 → 0 ≤ lf room ws r x) ∧
    ∀ i, i < ws.length → ∃ x ∈ row ws i, lf room ws r x < us ws all x ∧ ∀ j, j < ws.length → x ∈ row ws j → r j ≤ r i := by
  obtain ⟨o', t', H, hd⟩ := runs_end hg hr 0 (Inv.start hg)
  refine ⟨fun i hi => ⟨(H.any i hi).1, H.top hg hi⟩, H.left, fun i hi => ?_⟩
  obtain ⟨x, h1, h2, h3⟩ := H.neck i hi (hd i hi)
  exact ⟨x, h1, h2, fun j hj hx => (h3 j hj hx).2⟩
/-- Who goes the same way has as much. -/
theorem runs_twin {a b : Nat} (ha : a < ws.length) (hb : b < ws.length) (hab : ∀ x, x ∈ row ws a ↔ x ∈ row ws b) {h : Nat → Int} {o : Nat → Bool} {k : Nat} {r : Nat → Int} (hr : Runs room ws h o k r) (h1 : h a = h b) (h2 : o a = o b) : r a = r b := by
  have hh : ∀ (h : Nat → Int) (o : Nat → Bool), hit room ws h o a = hit room ws h o b := fun h o => by
    rw [Bool.eq_iff_iff, hit_iff, hit_iff]
    exact ⟨fun ⟨x, h1, h2⟩ => ⟨x, (hab x).1 h1, h2⟩, fun ⟨x, h1, h2⟩ => ⟨x, (hab x).2 h1, h2⟩⟩
  induction hr with
  | done h o hd => exact h1
  | cut h o k r hc _ ih => exact ih h1 (by unfold cut; rw [h2, hh])
  | inc h o k r hs hn _ ih => exact ih (by unfold inc; rw [h1, h2]) h2
/-- Turned round. -/
theorem row_rev {i : Nat} (hi : i < ws.length) : row ws.reverse i = row ws (ws.length - 1 - i) := by
  unfold row
  rw [List.getElem?_reverse hi]
theorem ld_rev (f : Nat → Int) (x : Int) : ld ws.reverse (fun i => f (ws.length - 1 - i)) x = ld ws f x := by
  unfold ld
  rw [List.length_reverse, ← su_rev ws.length (fun i => if x ∈ row ws i then f i else 0)]
  refine su_congr fun i hi => ?_
  rw [row_rev (List.mem_range.1 hi)]
theorem hit_rev {i : Nat} (hi : i < ws.length) : hit room ws.reverse (fun i => h (ws.length - 1 - i)) (fun i => o (ws.length - 1 - i)) i = hit room ws h o (ws.length - 1 - i) := by
  unfold hit
  rw [row_rev hi]
  congr 1
  funext x
  have e1 : lf room ws.reverse (fun i => h (ws.length - 1 - i)) x = lf room ws h x := by unfold lf; rw [ld_rev]
  have e2 : us ws.reverse (fun i => o (ws.length - 1 - i)) x = us ws o x := by
    unfold us
    exact ld_rev (fun i => if o i = true then 1 else 0) x
  rw [e1, e2]
/-- The run speaks of the first n alone. -/
theorem runs_same {h : Nat → Int} {o : Nat → Bool} {k : Nat} {r : Nat → Int} (hr : Runs room ws h o k r) : ∀ (h2 : Nat → Int) (o2 : Nat → Bool), (∀ i, i < ws.length → h2 i = h i) → (∀ i, i < ws.length → o2 i = o i) → ∃ r2, Runs room ws h2 o2 k r2 ∧ ∀ i, i < ws.length → r2 i = r i := by
  have hh : ∀ (h h2 : Nat → Int) (o o2 : Nat → Bool), (∀ i, i < ws.length → h2 i = h i) → (∀ i, i < ws.length → o2 i = o i) → ∀ i, hit room ws h2 o2 i = hit room ws h o i := fun h h2 o o2 e1 e2 i => by
    unfold hit
    congr 1
    funext x
    have e3 : lf room ws h2 x = lf room ws h x := by unfold lf; rw [ld_congr fun i hi _ => e1 i hi]
    have e4 : us ws o2 x = us ws o x := ld_congr fun i hi _ => by rw [e2 i hi]
    rw [e3, e4]
  induction hr with
  | done h o hd => exact fun h2 o2 e1 e2 => ⟨h2, .done h2 o2 fun i hi => by rw [e2 i hi]; exact hd i hi, e1⟩
  | cut h o k r hc _ ih =>
    intro h2 o2 e1 e2
    obtain ⟨r2, q1, q2⟩ := ih h2 (cut room ws h2 o2) e1 fun i hi => by unfold cut; rw [e2 i hi, hh h h2 o o2 e1 e2]
    obtain ⟨i, a1, a2, a3⟩ := hc
    exact ⟨r2, .cut h2 o2 k r2 ⟨i, a1, by rw [e2 i a1]; exact a2, by rw [hh h h2 o o2 e1 e2]; exact a3⟩ q1, q2⟩
  | inc h o k r hs hn _ ih =>
    intro h2 o2 e1 e2
    obtain ⟨r2, q1, q2⟩ := ih (inc h2 o2) o2 (fun i hi => by unfold inc; rw [e1 i hi, e2 i hi]) e2
    obtain ⟨i, a1, a2⟩ := hs
    exact ⟨r2, .inc h2 o2 k r2 ⟨i, a1, by rw [e2 i a1]; exact a2⟩ (fun i hi ho => by rw [hh h h2 o o2 e1 e2]; exact hn i hi (by rw [← e2 i hi]; exact ho)) q1, q2⟩
theorem runs_rev {h : Nat → Int} {o : Nat → Bool} {k : Nat} {r : Nat → Int} (hr : Runs room ws h o k r) : ∃ r2, Runs room ws.reverse (fun i => h (ws.length - 1 - i)) (fun i => o (ws.length - 1 - i)) k r2 ∧ ∀ i, i < ws.length → r2 i = r (ws.length - 1 - i) := by
  induction hr with
  | done h o hd => exact ⟨_, .done _ _ fun i hi => hd _ (by rw [List.length_reverse] at hi; omega), fun i hi => rfl⟩
  | cut h o k r hc _ ih =>
    obtain ⟨r2, q1, q2⟩ := ih
    obtain ⟨r3, q3, q4⟩ := runs_same q1 (fun i => h (ws.length - 1 - i)) (cut room ws.reverse (fun i => h (ws.length - 1 - i)) fun i => o (ws.length - 1 - i)) (fun _ _ => rfl) fun i hi => by
      rw [List.length_reverse] at hi
      unfold cut
      rw [hit_rev hi]
    obtain ⟨i, a1, a2, a3⟩ := hc
    refine ⟨r3, .cut _ _ k r3 ⟨ws.length - 1 - i, by rw [List.length_reverse]; omega, ?_, ?_⟩ q3, fun i hi => by rw [q4 i (by rw [List.length_reverse]; exact hi), q2 i hi]⟩
    · show o (ws.length - 1 - (ws.length - 1 - i)) = true
      rw [show ws.length - 1 - (ws.length - 1 - i) = i by omega]; exact a2
    · rw [hit_rev (by omega), show ws.length - 1 - (ws.length - 1 - i) = i by omega]; exact a3
  | inc h o k r hs hn _ ih =>
    obtain ⟨r2, q1, q2⟩ := ih
    obtain ⟨i, a1, a2⟩ := hs
    refine ⟨r2, .inc _ _ k r2 ⟨ws.length - 1 - i, by rw [List.length_reverse]; omega, ?_⟩ (fun i hi ho => ?_) q1, q2⟩
    · show o (ws.length - 1 - (ws.length - 1 - i)) = true
      rw [show ws.length - 1 - (ws.length - 1 - i) = i by omega]; exact a2
    · rw [List.length_reverse] at hi
      rw [hit_rev hi]
      exact hn _ (by omega) ho
end Go.Proofs.YtggnpecmldnmnaaDoor.Maxmin
