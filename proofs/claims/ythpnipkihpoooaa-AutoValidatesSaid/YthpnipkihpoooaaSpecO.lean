/-
  The order of lists of texts, plainly.
-/
import Derived.Test.YthpnipkihpoooaaSpec
import Derived.Sort.Walk0
import Derived.Deep.Draws
set_option linter.unusedVariables false
namespace Go.Proofs.Ythpnipkihpoooaa
namespace Sp

theorem below_of_drew {w w' : World} (h : ∃ q, w' = w.drewN q) : RowKit.Below w.heap.size w w' := by
  obtain ⟨q, rfl⟩ := h
  exact ⟨rfl, rfl, rfl, Nat.le_refl _, fun _ _ => rfl⟩

theorem toList_data (s : ByteArray) : s.toList = s.data.toList := ByteArray.toList_eq s
theorem less_iff (a b : ByteArray) : less a b = true ↔ a.data.toList < b.data.toList := by
  unfold less; rw [toList_data, toList_data, Go.Proofs.bytesLess_eq]; simp
theorem ba_ext {a b : ByteArray} (h : a.data.toList = b.data.toList) : a = b := by
  cases a with | mk a => cases b with | mk b => cases a with | mk a => cases b with | mk b => simp at h; subst h; rfl
theorem less_irrefl (a : ByteArray) : less a a = false := by
  cases h : less a a with
  | false => rfl
  | true => rw [less_iff] at h; exact absurd h (List.lt_irrefl _)
theorem less_trans {a b c : ByteArray} (h : less a b = true) (k : less b c = true) : less a c = true := by
  rw [less_iff] at *; exact List.lt_trans h k
theorem less_asymm {a b : ByteArray} (h : less a b = true) : less b a = false := by
  cases k : less b a with
  | false => rfl
  | true => exact absurd (less_trans h k) (by rw [less_irrefl]; simp)
theorem eq_of_not_less {a b : ByteArray} (h : less a b = false) (k : less b a = false) : a = b := by
  apply ba_ext
  have h1 : ¬ a.data.toList < b.data.toList := by rw [← less_iff, h]; simp
  have h2 : ¬ b.data.toList < a.data.toList := by rw [← less_iff, k]; simp
  exact List.le_antisymm (List.not_lt.1 h2) (List.not_lt.1 h1)

/-- The order of two lists of texts: text by text, a beginning first. -/
def ord : List ByteArray → List ByteArray → Int
  | [], [] => 0
  | [], _ :: _ => -1
  | _ :: _, [] => 1
  | a :: x, b :: y => if less a b = true then -1 else if less b a = true then 1 else ord x y
/-- Shortlex. -/
def cmp (a b : List ByteArray) : Int := if a.length < b.length then -1 else if b.length < a.length then 1 else ord a b

theorem ord_pre : ∀ (p x y : List ByteArray), ord (p ++ x) (p ++ y) = ord x y
  | [], x, y => rfl
  | a :: p, x, y => by
    simp only [List.cons_append, ord, less_irrefl]
    simpa using ord_pre p x y
theorem ord_self (a : List ByteArray) : ord a a = 0 := by
  have := ord_pre a [] []
  simpa [ord] using this
theorem ord_vals : ∀ (a b : List ByteArray), ord a b = -1 ∨ ord a b = 0 ∨ ord a b = 1
  | [], [] => by simp [ord]
  | [], _ :: _ => by simp [ord]
  | _ :: _, [] => by simp [ord]
  | a :: x, b :: y => by
    simp only [ord]
    split
    · simp
    · split
      · simp
      · exact ord_vals x y
theorem ord_neg : ∀ (a b : List ByteArray), ord b a = - ord a b
  | [], [] => by simp [ord]
  | [], _ :: _ => by simp [ord]
  | _ :: _, [] => by simp [ord]
  | a :: x, b :: y => by
    simp only [ord]
    cases h : less a b with
    | true => simp [less_asymm h]
    | false =>
      cases k : less b a with
      | true => simp
      | false => simpa using ord_neg x y
theorem ord_eq : ∀ {a b : List ByteArray}, ord a b = 0 → a = b
  | [], [], _ => rfl
  | [], _ :: _, h => by simp [ord] at h
  | _ :: _, [], h => by simp [ord] at h
  | a :: x, b :: y, h => by
    simp only [ord] at h
    cases h1 : less a b with
    | true => rw [h1] at h; simp at h
    | false =>
      cases h2 : less b a with
      | true => rw [h1, h2] at h; simp at h
      | false =>
        rw [h1, h2] at h
        have e1 := eq_of_not_less h1 h2
        have e2 : x = y := ord_eq (by simpa using h)
        rw [e1, e2]
theorem ord_trans : ∀ {a b c : List ByteArray}, ord a b = -1 → ord b c = -1 → ord a c = -1
  | [], [], _, h, _ => by simp [ord] at h
  | [], _ :: _, [], _, k => by simp [ord] at k
  | [], _ :: _, _ :: _, _, _ => by simp [ord]
  | _ :: _, [], _, h, _ => by simp [ord] at h
  | _ :: _, _ :: _, [], _, k => by simp [ord] at k
  | a :: x, b :: y, c :: z, h, k => by
    simp only [ord] at h k ⊢
    cases h1 : less a b with
    | true =>
      cases k1 : less b c with
      | true => simp [less_trans h1 k1]
      | false =>
        cases k2 : less c b with
        | true => rw [k1, k2] at k; simp at k
        | false => rw [← eq_of_not_less k1 k2]; simp [h1]
    | false =>
      cases h2 : less b a with
      | true => rw [h1, h2] at h; simp at h
      | false =>
        rw [h1, h2] at h
        have e := eq_of_not_less h1 h2
        subst e
        cases k1 : less a c with
        | true => simp
        | false =>
          cases k2 : less c a with
          | true => rw [k1, k2] at k; simp at k
          | false =>
            rw [k1, k2] at k
            have := ord_trans (a := x) (b := y) (c := z) (by simpa using h) (by simpa using k)
            simpa using this
theorem cmp_vals (a b : List ByteArray) : cmp a b = -1 ∨ cmp a b = 0 ∨ cmp a b = 1 := by
  unfold cmp
  split
  · simp
  · split
    · simp
    · exact ord_vals a b
theorem cmp_neg (a b : List ByteArray) : cmp b a = - cmp a b := by
  unfold cmp
  by_cases h : a.length < b.length
  · rw [if_neg (by omega), if_pos h, if_pos h]; rfl
  · by_cases k : b.length < a.length
    · rw [if_pos k, if_neg h, if_pos k]
    · rw [if_neg k, if_neg h, if_neg h, if_neg k]; exact ord_neg a b
theorem cmp_eq {a b : List ByteArray} (h : cmp a b = 0) : a = b := by
  unfold cmp at h
  split at h
  · simp at h
  · split at h
    · simp at h
    · exact ord_eq h
theorem cmp_self (a : List ByteArray) : cmp a a = 0 := by simp [cmp, ord_self]
theorem cmp_trans {a b c : List ByteArray} (h : cmp a b = -1) (k : cmp b c = -1) : cmp a c = -1 := by
  unfold cmp at *
  by_cases h1 : a.length < b.length
  · by_cases k1 : b.length < c.length
    · rw [if_pos (by omega)]
    · rw [if_neg k1] at k
      by_cases k2 : c.length < b.length
      · rw [if_pos k2] at k; simp at k
      · rw [if_pos (by omega)]
  · rw [if_neg h1] at h
    by_cases h2 : b.length < a.length
    · rw [if_pos h2] at h; simp at h
    · rw [if_neg h2] at h
      by_cases k1 : b.length < c.length
      · rw [if_pos (by omega)]
      · rw [if_neg k1] at k
        by_cases k2 : c.length < b.length
        · rw [if_pos k2] at k; simp at k
        · rw [if_neg k2] at k
          rw [if_neg (by omega), if_neg (by omega)]
          exact ord_trans h k

/-- What the walks want of the order behind k equal texts. -/
theorem ord_lt {a b : List ByteArray} {k : Nat} {x y : ByteArray} (he : a.take k = b.take k) (ha : a[k]? = some x) (hb : b[k]? = some y) (hl : less x y = true) : ord a b = -1 := by
  have h1 := List.take_append_drop k a
  have h2 := List.take_append_drop k b
  have d1 : a.drop k = x :: a.drop (k + 1) := by
    rw [List.drop_eq_getElem?_toList_append, ha]; rfl
  have d2 : b.drop k = y :: b.drop (k + 1) := by
    rw [List.drop_eq_getElem?_toList_append, hb]; rfl
  rw [← h1, ← h2, he, ord_pre, d1, d2]
  simp [ord, hl]
theorem ord_gt {a b : List ByteArray} {k : Nat} {x y : ByteArray} (he : a.take k = b.take k) (ha : a[k]? = some x) (hb : b[k]? = some y) (hl : less y x = true) : ord a b = 1 := by
  rw [ord_neg b a, ord_lt he.symm hb ha hl]; rfl
theorem ord_end {a b : List ByteArray} {k : Nat} (he : a.take k = b.take k) (h : k = a.length ∨ k = b.length) : ord a b = if a.length < b.length then -1 else if b.length < a.length then 1 else 0 := by
  have h1 := List.take_append_drop k a
  have h2 := List.take_append_drop k b
  have e : ord a b = ord (a.drop k) (b.drop k) := by
    have := ord_pre (b.take k) (a.drop k) (b.drop k)
    rw [h2] at this
    rw [← this, ← he, h1]
  have hl := congrArg List.length he
  simp only [List.length_take] at hl
  have la : (a.drop k).length = a.length - k := by simp
  have lb : (b.drop k).length = b.length - k := by simp
  rw [e]
  generalize a.drop k = u at la
  generalize b.drop k = v at lb
  cases u with
  | nil =>
    cases v with
    | nil => simp at la lb; simp only [ord]; rw [if_neg (by omega), if_neg (by omega)]
    | cons y v => simp at la lb; simp only [ord]; rw [if_pos (by omega)]
  | cons x u =>
    cases v with
    | nil => simp at la lb; simp only [ord]; rw [if_neg (by omega), if_pos (by omega)]
    | cons y v => simp at la lb; omega

end Sp
end Go.Proofs.Ythpnipkihpoooaa
