/-
  Sets of symbols, plainly: ascending lists, what sorting and compaction leave.
-/
import Derived.Test.YthpnipkihpoooaaSpec
import Derived.Test.YthpnipkihpoooaaSpecO
import Derived.Test.YthpnipkihpoooaaVec
set_option linter.unusedVariables false
namespace Go.Proofs.Ythpnipkihpoooaa
namespace Sp

def cmpS (x y : ByteArray) : Int := if less x y = true then -1 else if less y x = true then 1 else 0
def eqS (x y : ByteArray) : Bool := decide (cmpS x y = 0)

theorem cmpS_lt (x y : ByteArray) : decide (cmpS x y < 0) = less x y := by
  unfold cmpS
  cases h : less x y with
  | true => simp
  | false => cases k : less y x <;> simp
theorem eqS_iff (x y : ByteArray) : eqS x y = true ↔ x = y := by
  unfold eqS cmpS
  cases h : less x y with
  | true =>
    simp
    intro e; subst e; rw [less_irrefl] at h; cases h
  | false =>
    cases k : less y x with
    | true => simp; intro e; subst e; rw [less_irrefl] at k; cases k
    | false => simp; exact eq_of_not_less h k
theorem eqS_false (x y : ByteArray) : eqS x y = false ↔ x ≠ y := by
  cases h : eqS x y with
  | true => simp [(eqS_iff x y).1 h]
  | false => simp; intro e; rw [(eqS_iff x y).2 e] at h; cases h

/-- Strictly ascending. -/
def Asc (l : List ByteArray) : Prop := l.Pairwise fun a b => less a b = true

theorem isSet_iff : ∀ (l : List ByteArray), isSet l = true ↔ Asc l
  | [] => by simp [isSet, Asc]
  | [a] => by simp [isSet, Asc]
  | a :: b :: r => by
    have ih := isSet_iff (b :: r)
    unfold Asc at *
    rw [List.pairwise_cons, ← ih]
    rw [show isSet (a :: b :: r) = (less a b && isSet (b :: r)) from rfl, Bool.and_eq_true]
    constructor
    · rintro ⟨h1, h2⟩
      refine ⟨fun x hx => ?_, h2⟩
      rw [ih, List.pairwise_cons] at h2
      rcases List.mem_cons.1 hx with rfl | hx
      · exact h1
      · exact less_trans h1 (h2.1 x hx)
    · rintro ⟨h1, h2⟩
      exact ⟨h1 b (by simp), h2⟩

theorem asc_ext : ∀ {a b : List ByteArray}, Asc a → Asc b → (∀ x, x ∈ a ↔ x ∈ b) → a = b
  | [], [], _, _, _ => rfl
  | [], b :: ys, _, _, h => by have := (h b).2 (by simp); simp at this
  | a :: xs, [], _, _, h => by have := (h a).1 (by simp); simp at this
  | a :: xs, b :: ys, ha, hb, h => by
    unfold Asc at ha hb
    rw [List.pairwise_cons] at ha hb
    have e : a = b := by
      rcases List.mem_cons.1 ((h a).1 (by simp)) with e | h1
      · exact e
      · rcases List.mem_cons.1 ((h b).2 (by simp)) with e | h2
        · exact e.symm
        · have k1 := hb.1 a h1
          have k2 := ha.1 b h2
          rw [less_asymm k1] at k2; cases k2
    subst e
    congr 1
    refine asc_ext ha.2 hb.2 fun x => ⟨fun hx => ?_, fun hx => ?_⟩
    · rcases List.mem_cons.1 ((h x).1 (by simp [hx])) with e | h1
      · subst e; have := ha.1 x hx; rw [less_irrefl] at this; cases this
      · exact h1
    · rcases List.mem_cons.1 ((h x).2 (by simp [hx])) with e | h1
      · subst e; have := hb.1 x hx; rw [less_irrefl] at this; cases this
      · exact h1

theorem asc_filter {l : List ByteArray} (h : Asc l) (p : ByteArray → Bool) : Asc (l.filter p) := List.Pairwise.filter p h

/-- What compaction leaves of a list in order. -/
theorem compactFrom_asc : ∀ (r : List ByteArray) (a : ByteArray), (a :: r).Pairwise (fun x y => less y x = false) →
    Asc (compactFrom eqS a r) ∧ (∀ x ∈ compactFrom eqS a r, less a x = true) ∧ ∀ x, x ∈ a :: compactFrom eqS a r ↔ x ∈ a :: r
  | [], a, _ => ⟨by simp [compactFrom, Asc], by simp [compactFrom], by simp [compactFrom]⟩
  | b :: r, a, h => by
    rw [List.pairwise_cons] at h
    obtain ⟨i1, i2, i3⟩ := compactFrom_asc r b h.2
    cases hb : eqS b a with
    | true =>
      have e := (eqS_iff b a).1 hb
      subst e
      simp only [compactFrom, hb, if_true]
      exact ⟨i1, i2, fun x => by rw [i3]; simp⟩
    | false =>
      have hne := (eqS_false b a).1 hb
      have hab : less a b = true := by
        cases k : less a b with
        | true => rfl
        | false => exact absurd (eq_of_not_less (h.1 b (by simp)) k) hne
      simp only [compactFrom, hb, Bool.false_eq_true, if_false]
      refine ⟨?_, ?_, fun x => ?_⟩
      · unfold Asc at *; rw [List.pairwise_cons]; exact ⟨i2, i1⟩
      · intro x hx
        rcases List.mem_cons.1 hx with rfl | hx
        · exact hab
        · exact less_trans hab (i2 x hx)
      · have := i3 x
        constructor
        · intro hx
          rcases List.mem_cons.1 hx with e | hx
          · simp [e]
          · exact List.mem_cons.2 (.inr (this.1 hx))
        · intro hx
          rcases List.mem_cons.1 hx with e | hx
          · simp [e]
          · exact List.mem_cons.2 (.inr (this.2 hx))
theorem compactOf_asc {d : List ByteArray} (h : d.Pairwise fun x y => less y x = false) : Asc (compactOf eqS d) ∧ ∀ x, x ∈ compactOf eqS d ↔ x ∈ d := by
  cases d with
  | nil => exact ⟨by simp [compactOf, Asc], by simp [compactOf]⟩
  | cons a r =>
    obtain ⟨i1, i2, i3⟩ := compactFrom_asc r a h
    refine ⟨?_, fun x => i3 x⟩
    unfold Asc at *
    rw [compactOf, List.pairwise_cons]; exact ⟨i2, i1⟩

/-- R is the set of those of l that p takes. -/
def SetOf (R l : List ByteArray) (p : ByteArray → Bool) : Prop := Asc R ∧ ∀ x, x ∈ R ↔ x ∈ l ∧ p x = true
theorem SetOf.unique {R S l : List ByteArray} {p : ByteArray → Bool} (h : SetOf R l p) (k : SetOf S l p) : R = S :=
  asc_ext h.1 k.1 fun x => by rw [h.2, k.2]
theorem SetOf.filter {l : List ByteArray} (h : Asc l) (p : ByteArray → Bool) : SetOf (l.filter p) l p :=
  ⟨asc_filter h p, fun x => by rw [List.mem_filter]⟩

theorem errAlpha_zero {l : List ByteArray} : errAlpha l = 0 ↔ l.length ≤ 40 ∧ anyLong l = false ∧ allSym l = true ∧ isSet l = true := by
  unfold errAlpha
  by_cases h1 : 40 < l.length ∨ anyLong l = true
  · rw [if_pos h1]
    constructor
    · intro h; cases h
    · rintro ⟨h2, h3, _⟩
      rcases h1 with h | h
      · omega
      · rw [h3] at h; cases h
  · rw [if_neg h1]
    have h2 : l.length ≤ 40 := by omega
    have h3 : anyLong l = false := by
      cases h : anyLong l with
      | false => rfl
      | true => exact absurd (.inr h) h1
    by_cases h4 : allSym l = true ∧ isSet l = true
    · rw [if_pos h4]; exact ⟨fun _ => ⟨h2, h3, h4⟩, fun _ => rfl⟩
    · rw [if_neg h4]
      constructor
      · intro h; cases h
      · rintro ⟨_, _, h5, h6⟩; exact absurd ⟨h5, h6⟩ h4
/-- A set of symbols of valid alphabets is one if it is short. -/
theorem errAlpha_of {l : List ByteArray} (h1 : l.length ≤ 40) (h2 : ∀ x ∈ l, isSym x = true) (h3 : Asc l) : errAlpha l = 0 := by
  rw [errAlpha_zero]
  refine ⟨h1, ?_, ?_, (isSet_iff l).2 h3⟩
  · unfold anyLong
    rw [List.any_eq_false]
    intro x hx
    have := h2 x hx
    unfold isSym at this
    simp at this
    simp; omega
  · unfold allSym
    rw [List.all_eq_true]
    exact h2
theorem asc_of_alpha {l : List ByteArray} (h : errAlpha l = 0) : Asc l := (isSet_iff l).1 (errAlpha_zero.1 h).2.2.2
theorem sym_of_alpha {l : List ByteArray} (h : errAlpha l = 0) {x : ByteArray} (hx : x ∈ l) : isSym x = true := by
  have := (errAlpha_zero.1 h).2.2.1
  unfold allSym at this
  rw [List.all_eq_true] at this
  exact this x hx

/-- The error of two alphabets. -/
def errTwo (a b : List ByteArray) : Int := if errAlpha a = 0 then errAlpha b else errAlpha a
theorem errTwo_zero {a b : List ByteArray} : errTwo a b = 0 ↔ errAlpha a = 0 ∧ errAlpha b = 0 := by
  unfold errTwo
  by_cases h : errAlpha a = 0
  · rw [if_pos h]; exact ⟨fun k => ⟨h, k⟩, fun k => k.2⟩
  · rw [if_neg h]; exact ⟨fun k => absurd k h, fun k => absurd k.1 h⟩
theorem errTwo_vals (a b : List ByteArray) : errTwo a b = 0 ∨ errTwo a b = 1 ∨ errTwo a b = 3 := by
  have : ∀ l : List ByteArray, errAlpha l = 0 ∨ errAlpha l = 1 ∨ errAlpha l = 3 := by
    intro l
    unfold errAlpha
    by_cases h1 : 40 < l.length ∨ anyLong l = true
    · rw [if_pos h1]; simp
    · rw [if_neg h1]; by_cases h2 : allSym l = true ∧ isSet l = true
      · rw [if_pos h2]; simp
      · rw [if_neg h2]; simp
  unfold errTwo
  by_cases h : errAlpha a = 0
  · rw [if_pos h]; exact this b
  · rw [if_neg h]; exact this a

/-- Is a text in a list. -/
def inS (b : List ByteArray) (x : ByteArray) : Bool := b.any fun y => y.data.toList == x.data.toList
theorem inS_iff (b : List ByteArray) (x : ByteArray) : inS b x = true ↔ x ∈ b := by
  unfold inS
  rw [List.any_eq_true]
  constructor
  · rintro ⟨y, hy, h⟩
    have := ba_ext (eq_of_beq h)
    rwa [← this]
  · intro h; exact ⟨x, h, by simp⟩
def bothOf (a b : List ByteArray) : List ByteArray := if errTwo a b = 0 then a.filter (inS b) else []
def lessOf (a b : List ByteArray) : List ByteArray := if errTwo a b = 0 then a.filter (fun x => !inS b x) else []

/-- What two alphabets have alike and what one has alone make it up. -/
theorem parts_len (a b : List ByteArray) : (a.filter (inS b)).length + (a.filter (fun x => !inS b x)).length = a.length := by
  induction a with
  | nil => rfl
  | cons x a ih =>
    cases h : inS b x <;> simp [h] <;> omega
theorem parts_set {a b R : List ByteArray} (ha : Asc a) (h : SetOf R (a.filter (inS b) ++ a.filter (fun x => !inS b x)) (fun _ => true)) : R = a := by
  refine asc_ext h.1 ha fun x => ?_
  rw [h.2, List.mem_append, List.mem_filter, List.mem_filter]
  constructor
  · rintro ⟨h | h, _⟩
    · exact h.1
    · exact h.1
  · intro hx
    refine ⟨?_, rfl⟩
    cases k : inS b x
    · exact .inr ⟨hx, by simp⟩
    · exact .inl ⟨hx, rfl⟩
theorem alpha_filter {a : List ByteArray} (h : errAlpha a = 0) (p : ByteArray → Bool) : errAlpha (a.filter p) = 0 :=
  errAlpha_of (Nat.le_trans (List.length_filter_le _ _) (errAlpha_zero.1 h).1) (fun x hx => sym_of_alpha h (List.mem_filter.1 hx |>.1)) (asc_filter (asc_of_alpha h) p)
end Sp
end Go.Proofs.Ythpnipkihpoooaa
