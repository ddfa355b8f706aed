/-
  The order of lists of texts, plainly.
-/
import Derived.Test.YtnaojfhhjknejaaMgSpec
import Derived.Sort.Walk0
import Derived.Deep.Draws
import Derived.Test.YtnaojfhhjknejaaMgVec
set_option linter.unusedVariables false
namespace Go.Proofs.Ytnaojfhhjknejaa
namespace Sp

theorem below_of_drew {w w' : World} (h : ∃ q, w' = w.drewN q) : RowKit.Below w.heap.size w w' := by
  obtain ⟨q, rfl⟩ := h
  exact ⟨rfl, rfl, rfl, Nat.le_refl _, fun _ _ => rfl⟩

theorem toList_data (s : ByteArray) : s.toList = s.data.toList := ByteArray.toList_eq s
theorem less_iff (a b : ByteArray) : less a b = true ↔ a.data.toList < b.data.toList := by
  unfold less; rw [toList_data, toList_data, Go.Proofs.bytesLess_eq]; simp
theorem ba_ext {a b : ByteArray} (h : a.data.toList = b.data.toList) : a = b := by
  cases a with | mk a => cases b with | mk b => cases a with | mk a => cases b with | mk b => simp at h; subst h; rfl
theorem less_irrefl (a : ByteArray) : less a a = false := by
  cases h : less a a with
  | false => rfl
  | true => rw [less_iff] at h; exact absurd h (List.lt_irrefl _)
theorem less_trans {a b c : ByteArray} (h : less a b = true) (k : less b c = true) : less a c = true := by
  rw [less_iff] at *; exact List.lt_trans h k
theorem less_asymm {a b : ByteArray} (h : less a b = true) : less b a = false := by
  cases k : less b a with
  | false => rfl
  | true => exact absurd (less_trans h k) (by rw [less_irrefl]; simp)
theorem eq_of_not_less {a b : ByteArray} (h : less a b = false) (k : less b a = false) : a = b := by
  apply ba_ext
  have h1 : ¬ a.data.toList < b.data.toList := by rw [← less_iff, h]; simp
  have h2 : ¬ b.data.toList < a.data.toList := by rw [← less_iff, k]; simp
  exact List.le_antisymm (List.not_lt.1 h2) (List.not_lt.1 h1)

/-- The order of two lists of texts: text by text, a beginning first. -/
def ord : List ByteArray → List ByteArray → Int
  | [], [] => 0
  | [], _ :: _ => -1
  | _ :: _, [] => 1
  | a :: x, b :: y => if less a b = true then -1 else if less b a = true then 1 else ord x y
/-- Shortlex. -/
def cmp (a b : List ByteArray) : Int := if a.length < b.length then -1 else if b.length < a.length then 1 else ord a b

theorem ord_pre : ∀ (p x y : List ByteArray), ord (p ++ x) (p ++ y) = ord x y
  | [], x, y => rfl
  | a :: p, x, y => by
    simp only [List.cons_append, ord, less_irrefl]
    simpa using ord_pre p x y
theorem ord_self (a : List ByteArray) : ord a a = 0 := by
  have := ord_pre a [] []
  simpa [ord] using this
theorem ord_vals : ∀ (a b : List ByteArray), ord a b = -1 ∨ ord a b = 0 ∨ ord a b = 1
  | [], [] => by simp [ord]
  | [], _ :: _ => by simp [ord]
  | _ :: _, [] => by simp [ord]
  | a :: x, b :: y => by
    simp only [ord]
    split
    · simp
    · split
      · simp
      · exact ord_vals x y
theorem ord_neg : ∀ (a b : List ByteArray), ord b a = - ord a b
  | [], [] => by simp [ord]
  | [], _ :: _ => by simp [ord]
  | _ :: _, [] => by simp [ord]
  | a :: x, b :: y => by
    simp only [ord]
    cases h : less a b with
    | true => simp [less_asymm h]
    | false =>
      cases k : less b a with
      | true => simp
      | false => simpa using ord_neg x y
theorem ord_eq : ∀ {a b : List ByteArray}, ord a b = 0 → a = b
  | [], [], _ => rfl
  | [], _ :: _, h => by simp [ord] at h
  | _ :: _, [], h => by simp [ord] at h
  | a :: x, b :: y, h => by
    simp only [ord] at h
    cases h1 : less a b with
    | true => rw [h1] at h; simp at h
    | false =>
      cases h2 : less b a with
      | true => rw [h1, h2] at h; simp at h
      | false =>
        rw [h1, h2] at h
        have e1 := eq_of_not_less h1 h2
        have e2 : x = y := ord_eq (by simpa using h)
        rw [e1, e2]
theorem ord_trans : ∀ {a b c : List ByteArray}, ord a b = -1 → ord b c = -1 → ord a c = -1
  | [], [], _, h, _ => by simp [ord] at h
  | [], _ :: _, [], _, k => by simp [ord] at k
  | [], _ :: _, _ :: _, _, _ => by simp [ord]
  | _ :: _, [], _, h, _ => by simp [ord] at h
  | _ :: _, _ :: _, [], _, k => by simp [ord] at k
  | a :: x, b :: y, c :: z, h, k => by
    simp only [ord] at h k ⊢
    cases h1 : less a b with
    | true =>
      cases k1 : less b c with
      | true => simp [less_trans h1 k1]
      | false =>
        cases k2 : less c b with
        | true => rw [k1, k2] at k; simp at k
        | false => rw [← eq_of_not_less k1 k2]; simp [h1]
    | false =>
      cases h2 : less b a with
      | true => rw [h1, h2] at h; simp at h
      | false =>
        rw [h1, h2] at h
        have e := eq_of_not_less h1 h2
        subst e
        cases k1 : less a c with
        | true => simp
        | false =>
          cases k2 : less c a with
          | true => rw [k1, k2] at k; simp at k
          | false =>
            rw [k1, k2] at k
            have := ord_trans (a := x) (b := y) (c := z) (by simpa using h) (by simpa using k)
            simpa using this
theorem cmp_vals (a b : List ByteArray) : cmp a b = -1 ∨ cmp a b = 0 ∨ cmp a b = 1 := by
  unfold cmp
  split
  · simp
  · split
    · simp
    · exact ord_vals a b
theorem cmp_neg (a b : List ByteArray) : cmp b a = - cmp a b := by
  unfold cmp
  by_cases h : a.length < b.length
  · rw [if_neg (by omega), if_pos h, if_pos h]; rfl
  · by_cases k : b.length < a.length
    · rw [if_pos k, if_neg h, if_pos k]
    · rw [if_neg k, if_neg h, if_neg h, if_neg k]; exact ord_neg a b
theorem cmp_eq {a b : List ByteArray} (h : cmp a b = 0) : a = b := by
  unfold cmp at h
  split at h
  · simp at h
  · split at h
    · simp at h
    · exact ord_eq h
theorem cmp_self (a : List ByteArray) : cmp a a = 0 := by simp [cmp, ord_self]
theorem cmp_trans {a b c : List ByteArray} (h : cmp a b = -1) (k : cmp b c = -1) : cmp a c = -1 := by
  unfold cmp at *
  by_cases h1 : a.length < b.length
  · by_cases k1 : b.length < c.length
    · rw [if_pos (by omega)]
    · rw [if_neg k1] at k
      by_cases k2 : c.length < b.length
      · rw [if_pos k2] at k; simp at k
      · rw [if_pos (by omega)]
  · rw [if_neg h1] at h
    by_cases h2 : b.length < a.length
    · rw [if_pos h2] at h; simp at h
    · rw [if_neg h2] at h
      by_cases k1 : b.length < c.length
      · rw [if_pos (by omega)]
      · rw [if_neg k1] at k
        by_cases k2 : c.length < b.length
        · rw [if_pos k2] at k; simp at k
        · rw [if_neg k2] at k
          rw [if_neg (by omega), if_neg (by omega)]
          exact ord_trans h k

/-- What the walks want of the order behind k equal texts. -/
theorem ord_lt {a b : List ByteArray} {k : Nat} {x y : ByteArray} (he : a.take k = b.take k) (ha : a[k]? = some x) (hb : b[k]? = some y) (hl : less x y = true) : ord a b = -1 := by
  have h1 := List.take_append_drop k a
  have h2 := List.take_append_drop k b
  have d1 : a.drop k = x :: a.drop (k + 1) := by
    rw [List.drop_eq_getElem?_toList_append, ha]; rfl
  have d2 : b.drop k = y :: b.drop (k + 1) := by
    rw [List.drop_eq_getElem?_toList_append, hb]; rfl
  rw [← h1, ← h2, he, ord_pre, d1, d2]
  simp [ord, hl]
theorem ord_gt {a b : List ByteArray} {k : Nat} {x y : ByteArray} (he : a.take k = b.take k) (ha : a[k]? = some x) (hb : b[k]? = some y) (hl : less y x = true) : ord a b = 1 := by
  rw [ord_neg b a, ord_lt he.symm hb ha hl]; rfl
theorem ord_end {a b : List ByteArray} {k : Nat} (he : a.take k = b.take k) (h : k = a.length ∨ k = b.length) : ord a b = if a.length < b.length then -1 else if b.length < a.length then 1 else 0 := by
  have h1 := List.take_append_drop k a
  have h2 := List.take_append_drop k b
  have e : ord a b = ord (a.drop k) (b.drop k) := by
    have := ord_pre (b.take k) (a.drop k) (b.drop k)
    rw [h2] at this
    rw [← this, ← he, h1]
  have hl := congrArg List.length he
  simp only [List.length_take] at hl
  have la : (a.drop k).length = a.length - k := by simp
  have lb : (b.drop k).length = b.length - k := by simp
  rw [e]
  generalize a.drop k = u at la
  generalize b.drop k = v at lb
  cases u with
  | nil =>
    cases v with
    | nil => simp at la lb; simp only [ord]; rw [if_neg (by omega), if_neg (by omega)]
    | cons y v => simp at la lb; simp only [ord]; rw [if_pos (by omega)]
  | cons x u =>
    cases v with
    | nil => simp at la lb; simp only [ord]; rw [if_neg (by omega), if_pos (by omega)]
    | cons y v => simp at la lb; omega

end Sp
end Go.Proofs.Ytnaojfhhjknejaa

/-
  Sets of symbols, plainly: ascending lists, what sorting and compaction leave.
-/
set_option linter.unusedVariables false
namespace Go.Proofs.Ytnaojfhhjknejaa
namespace Sp

def cmpS (x y : ByteArray) : Int := if less x y = true then -1 else if less y x = true then 1 else 0
def eqS (x y : ByteArray) : Bool := decide (cmpS x y = 0)

theorem cmpS_lt (x y : ByteArray) : decide (cmpS x y < 0) = less x y := by
  unfold cmpS
  cases h : less x y with
  | true => simp
  | false => cases k : less y x <;> simp
theorem eqS_iff (x y : ByteArray) : eqS x y = true ↔ x = y := by
  unfold eqS cmpS
  cases h : less x y with
  | true =>
    simp
    intro e; subst e; rw [less_irrefl] at h; cases h
  | false =>
    cases k : less y x with
    | true => simp; intro e; subst e; rw [less_irrefl] at k; cases k
    | false => simp; exact eq_of_not_less h k
theorem eqS_false (x y : ByteArray) : eqS x y = false ↔ x ≠ y := by
  cases h : eqS x y with
  | true => simp [(eqS_iff x y).1 h]
  | false => simp; intro e; rw [(eqS_iff x y).2 e] at h; cases h

/-- Strictly ascending. -/
def Asc (l : List ByteArray) : Prop := l.Pairwise fun a b => less a b = true

theorem isSet_iff : ∀ (l : List ByteArray), isSet l = true ↔ Asc l
  | [] => by simp [isSet, Asc]
  | [a] => by simp [isSet, Asc]
  | a :: b :: r => by
    have ih := isSet_iff (b :: r)
    unfold Asc at *
    rw [List.pairwise_cons, ← ih]
    rw [show isSet (a :: b :: r) = (less a b && isSet (b :: r)) from rfl, Bool.and_eq_true]
    constructor
    · rintro ⟨h1, h2⟩
      refine ⟨fun x hx => ?_, h2⟩
      rw [ih, List.pairwise_cons] at h2
      rcases List.mem_cons.1 hx with rfl | hx
      · exact h1
      · exact less_trans h1 (h2.1 x hx)
    · rintro ⟨h1, h2⟩
      exact ⟨h1 b (by simp), h2⟩

theorem asc_ext : ∀ {a b : List ByteArray}, Asc a → Asc b → (∀ x, x ∈ a ↔ x ∈ b) → a = b
  | [], [], _, _, _ => rfl
  | [], b :: ys, _, _, h => by have := (h b).2 (by simp); simp at this
  | a :: xs, [], _, _, h => by have := (h a).1 (by simp); simp at this
  | a :: xs, b :: ys, ha, hb, h => by
    unfold Asc at ha hb
    rw [List.pairwise_cons] at ha hb
    have e : a = b := by
      rcases List.mem_cons.1 ((h a).1 (by simp)) with e | h1
      · exact e
      · rcases List.mem_cons.1 ((h b).2 (by simp)) with e | h2
        · exact e.symm
        · have k1 := hb.1 a h1
          have k2 := ha.1 b h2
          rw [less_asymm k1] at k2; cases k2
    subst e
    congr 1
    refine asc_ext ha.2 hb.2 fun x => ⟨fun hx => ?_, fun hx => ?_⟩
    · rcases List.mem_cons.1 ((h x).1 (by simp [hx])) with e | h1
      · subst e; have := ha.1 x hx; rw [less_irrefl] at this; cases this
      · exact h1
    · rcases List.mem_cons.1 ((h x).2 (by simp [hx])) with e | h1
      · subst e; have := hb.1 x hx; rw [less_irrefl] at this; cases this
      · exact h1

theorem asc_filter {l : List ByteArray} (h : Asc l) (p : ByteArray → Bool) : Asc (l.filter p) := List.Pairwise.filter p h

/-- What compaction leaves of a list in order. -/
theorem compactFrom_asc : ∀ (r : List ByteArray) (a : ByteArray), (a :: r).Pairwise (fun x y => less y x = false) →
    Asc (compactFrom eqS a r) ∧ (∀ x ∈ compactFrom eqS a r, less a x = true) ∧ ∀ x, x ∈ a :: compactFrom eqS a r ↔ x ∈ a :: r
  | [], a, _ => ⟨by simp [compactFrom, Asc], by simp [compactFrom], by simp [compactFrom]⟩
  | b :: r, a, h => by
    rw [List.pairwise_cons] at h
    obtain ⟨i1, i2, i3⟩ := compactFrom_asc r b h.2
    cases hb : eqS b a with
    | true =>
      have e := (eqS_iff b a).1 hb
      subst e
      simp only [compactFrom, hb, if_true]
      exact ⟨i1, i2, fun x => by rw [i3]; simp⟩
    | false =>
      have hne := (eqS_false b a).1 hb
      have hab : less a b = true := by
        cases k : less a b with
        | true => rfl
        | false => exact absurd (eq_of_not_less (h.1 b (by simp)) k) hne
      simp only [compactFrom, hb, Bool.false_eq_true, if_false]
      refine ⟨?_, ?_, fun x => ?_⟩
      · unfold Asc at *; rw [List.pairwise_cons]; exact ⟨i2, i1⟩
      · intro x hx
        rcases List.mem_cons.1 hx with rfl | hx
        · exact hab
        · exact less_trans hab (i2 x hx)
      · have := i3 x
        constructor
        · intro hx
          rcases List.mem_cons.1 hx with e | hx
          · simp [e]
          · exact List.mem_cons.2 (.inr (this.1 hx))
        · intro hx
          rcases List.mem_cons.1 hx with e | hx
          · simp [e]
          · exact List.mem_cons.2 (.inr (this.2 hx))
theorem compactOf_asc {d : List ByteArray} (h : d.Pairwise fun x y => less y x = false) : Asc (compactOf eqS d) ∧ ∀ x, x ∈ compactOf eqS d ↔ x ∈ d := by
  cases d with
  | nil => exact ⟨by simp [compactOf, Asc], by simp [compactOf]⟩
  | cons a r =>
    obtain ⟨i1, i2, i3⟩ := compactFrom_asc r a h
    refine ⟨?_, fun x => i3 x⟩
    unfold Asc at *
    rw [compactOf, List.pairwise_cons]; exact ⟨i2, i1⟩

/-- R is the set of those of l that p takes. -/
def SetOf (R l : List ByteArray) (p : ByteArray → Bool) : Prop := Asc R ∧ ∀ x, x ∈ R ↔ x ∈ l ∧ p x = true
theorem SetOf.unique {R S l : List ByteArray} {p : ByteArray → Bool} (h : SetOf R l p) (k : SetOf S l p) : R = S :=
  asc_ext h.1 k.1 fun x => by rw [h.2, k.2]
theorem SetOf.filter {l : List ByteArray} (h : Asc l) (p : ByteArray → Bool) : SetOf (l.filter p) l p :=
  ⟨asc_filter h p, fun x => by rw [List.mem_filter]⟩

theorem errAlpha_zero {l : List ByteArray} : errAlpha l = 0 ↔ l.length ≤ 40 ∧ anyLong l = false ∧ allSym l = true ∧ isSet l = true := by
  unfold errAlpha
  by_cases h1 : 40 < l.length ∨ anyLong l = true
  · rw [if_pos h1]
    constructor
    · intro h; cases h
    · rintro ⟨h2, h3, _⟩
      rcases h1 with h | h
      · omega
      · rw [h3] at h; cases h
  · rw [if_neg h1]
    have h2 : l.length ≤ 40 := by omega
    have h3 : anyLong l = false := by
      cases h : anyLong l with
      | false => rfl
      | true => exact absurd (.inr h) h1
    by_cases h4 : allSym l = true ∧ isSet l = true
    · rw [if_pos h4]; exact ⟨fun _ => ⟨h2, h3, h4⟩, fun _ => rfl⟩
    · rw [if_neg h4]
      constructor
      · intro h; cases h
      · rintro ⟨_, _, h5, h6⟩; exact absurd ⟨h5, h6⟩ h4
/-- A set of symbols of valid alphabets is one if it is short. -/
theorem errAlpha_of {l : List ByteArray} (h1 : l.length ≤ 40) (h2 : ∀ x ∈ l, isSym x = true) (h3 : Asc l) : errAlpha l = 0 := by
  rw [errAlpha_zero]
  refine ⟨h1, ?_, ?_, (isSet_iff l).2 h3⟩
  · unfold anyLong
    rw [List.any_eq_false]
    intro x hx
    have := h2 x hx
    unfold isSym at this
    simp at this
    simp; omega
  · unfold allSym
    rw [List.all_eq_true]
    exact h2
theorem asc_of_alpha {l : List ByteArray} (h : errAlpha l = 0) : Asc l := (isSet_iff l).1 (errAlpha_zero.1 h).2.2.2
theorem sym_of_alpha {l : List ByteArray} (h : errAlpha l = 0) {x : ByteArray} (hx : x ∈ l) : isSym x = true := by
  have := (errAlpha_zero.1 h).2.2.1
  unfold allSym at this
  rw [List.all_eq_true] at this
  exact this x hx

/-- The error of two alphabets. -/
def errTwo (a b : List ByteArray) : Int := if errAlpha a = 0 then errAlpha b else errAlpha a
theorem errTwo_zero {a b : List ByteArray} : errTwo a b = 0 ↔ errAlpha a = 0 ∧ errAlpha b = 0 := by
  unfold errTwo
  by_cases h : errAlpha a = 0
  · rw [if_pos h]; exact ⟨fun k => ⟨h, k⟩, fun k => k.2⟩
  · rw [if_neg h]; exact ⟨fun k => absurd k h, fun k => absurd k.1 h⟩
theorem errTwo_vals (a b : List ByteArray) : errTwo a b = 0 ∨ errTwo a b = 1 ∨ errTwo a b = 3 := by
  have : ∀ l : List ByteArray, errAlpha l = 0 ∨ errAlpha l = 1 ∨ errAlpha l = 3 := by
    intro l
    unfold errAlpha
    by_cases h1 : 40 < l.length ∨ anyLong l = true
    · rw [if_pos h1]; simp
    · rw [if_neg h1]; by_cases h2 : allSym l = true ∧ isSet l = true
      · rw [if_pos h2]; simp
      · rw [if_neg h2]; simp
  unfold errTwo
  by_cases h : errAlpha a = 0
  · rw [if_pos h]; exact this b
  · rw [if_neg h]; exact this a

/-- Is a text in a list. -/
def inS (b : List ByteArray) (x : ByteArray) : Bool := b.any fun y => y.data.toList == x.data.toList
theorem inS_iff (b : List ByteArray) (x : ByteArray) : inS b x = true ↔ x ∈ b := by
  unfold inS
  rw [List.any_eq_true]
  constructor
  · rintro ⟨y, hy, h⟩
    have := ba_ext (eq_of_beq h)
    rwa [← this]
  · intro h; exact ⟨x, h, by simp⟩
def bothOf (a b : List ByteArray) : List ByteArray := if errTwo a b = 0 then a.filter (inS b) else []
def lessOf (a b : List ByteArray) : List ByteArray := if errTwo a b = 0 then a.filter (fun x => !inS b x) else []

/-- What two alphabets have alike and what one has alone make it up. -/
theorem parts_len (a b : List ByteArray) : (a.filter (inS b)).length + (a.filter (fun x => !inS b x)).length = a.length := by
  induction a with
  | nil => rfl
  | cons x a ih =>
    cases h : inS b x <;> simp [h] <;> omega
theorem parts_set {a b R : List ByteArray} (ha : Asc a) (h : SetOf R (a.filter (inS b) ++ a.filter (fun x => !inS b x)) (fun _ => true)) : R = a := by
  refine asc_ext h.1 ha fun x => ?_
  rw [h.2, List.mem_append, List.mem_filter, List.mem_filter]
  constructor
  · rintro ⟨h | h, _⟩
    · exact h.1
    · exact h.1
  · intro hx
    refine ⟨?_, rfl⟩
    cases k : inS b x
    · exact .inr ⟨hx, by simp⟩
    · exact .inl ⟨hx, rfl⟩
theorem alpha_filter {a : List ByteArray} (h : errAlpha a = 0) (p : ByteArray → Bool) : errAlpha (a.filter p) = 0 :=
  errAlpha_of (Nat.le_trans (List.length_filter_le _ _) (errAlpha_zero.1 h).1) (fun x hx => sym_of_alpha h (List.mem_filter.1 hx |>.1)) (asc_filter (asc_of_alpha h) p)
end Sp
end Go.Proofs.Ytnaojfhhjknejaa
