/-
  A set that is made by taking the least text that is left, again and again, plainly.
-/
import Derived.Test.YtimjgjhdkinhoaaSpecE
set_option linter.unusedVariables false
namespace Go.Proofs.Ytimjgjhdkinhoaa
namespace Sp

/-- Is a text behind the last one. -/
def cand (xs : List ByteArray) (y : ByteArray) : Bool := match xs.getLast? with | none => true | some z => less z y
def pickR (xs : List ByteArray) (o : Option ByteArray) (y : ByteArray) : Option ByteArray :=
  if cand xs y = true then (match o with | none => some y | some b => if less y b = true then some y else some b) else o
def best (xs l : List ByteArray) : Option ByteArray := l.foldl (pickR xs) none
theorem best_snoc (xs l : List ByteArray) (y : ByteArray) : best xs (l ++ [y]) = pickR xs (best xs l) y := by simp [best]
theorem cand_snoc (xs : List ByteArray) (b y : ByteArray) : cand (xs ++ [b]) y = less b y := by simp [cand]
theorem cand_nil (y : ByteArray) : cand [] y = true := rfl

theorem best_spec (xs : List ByteArray) : ∀ (r l : List ByteArray), l = r.reverse →
    (best xs l = none → ∀ y ∈ l, cand xs y = false) ∧ ∀ b, best xs l = some b → b ∈ l ∧ cand xs b = true ∧ ∀ y ∈ l, cand xs y = true → less y b = false
  | [], _, rfl => ⟨fun _ y hy => by simp at hy, fun b hb => by simp [best] at hb⟩
  | x :: r, _, rfl => by
    obtain ⟨i1, i2⟩ := best_spec xs r _ rfl
    rw [List.reverse_cons, best_snoc]
    unfold pickR
    cases hc : cand xs x with
    | false =>
      simp only [Bool.false_eq_true, if_false]
      refine ⟨fun h y hy => ?_, fun b hb => ?_⟩
      · rcases List.mem_append.1 hy with hy | hy
        · exact i1 h y hy
        · simp at hy; subst hy; exact hc
      · obtain ⟨j1, j2, j3⟩ := i2 b hb
        refine ⟨List.mem_append_left _ j1, j2, fun y hy hcy => ?_⟩
        rcases List.mem_append.1 hy with hy | hy
        · exact j3 y hy hcy
        · simp at hy; subst hy; rw [hc] at hcy; cases hcy
    | true =>
      simp only [if_true]
      cases ho : best xs r.reverse with
      | none =>
        refine ⟨fun h => (by cases h), fun b hb => ?_⟩
        cases hb
        refine ⟨by simp, hc, fun y hy hcy => ?_⟩
        rcases List.mem_append.1 hy with hy | hy
        · rw [i1 ho y hy] at hcy; cases hcy
        · simp at hy; subst hy; exact less_irrefl _
      | some c =>
        obtain ⟨j1, j2, j3⟩ := i2 c ho
        by_cases hl : less x c = true
        · simp only [hl, if_true]
          refine ⟨fun h => (by cases h), fun b hb => ?_⟩
          cases hb
          refine ⟨by simp, hc, fun y hy hcy => ?_⟩
          rcases List.mem_append.1 hy with hy | hy
          · cases k : less y x with
            | false => rfl
            | true => have := less_trans k hl; rw [j3 y hy hcy] at this; cases this
          · simp at hy; subst hy; exact less_irrefl _
        · simp only [hl, Bool.false_eq_true, if_false]
          have hl : less x c = false := by simpa using hl
          refine ⟨fun h => (by cases h), fun b hb => ?_⟩
          cases hb
          refine ⟨List.mem_append_left _ j1, j2, fun y hy hcy => ?_⟩
          rcases List.mem_append.1 hy with hy | hy
          · exact j3 y hy hcy
          · simp at hy; subst hy; exact hl

theorem countP_lt {α : Type} (p q : α → Bool) (hpq : ∀ x, q x = true → p x = true) : ∀ (l : List α) (b : α), b ∈ l → p b = true → q b = false → l.countP q < l.countP p
  | x :: l, b, hb, h1, h2 => by
    have hle : l.countP q ≤ l.countP p := List.countP_mono_left fun x _ h => hpq x h
    simp only [List.countP_cons]
    rcases List.mem_cons.1 hb with rfl | hb
    · rw [h1, h2]; simp; omega
    · have := countP_lt p q hpq l b hb h1 h2
      cases hq : q x with
      | true => rw [hpq x hq]; simp; omega
      | false => cases p x <;> simp <;> omega

def SetInv (l xs : List ByteArray) : Prop := Asc xs ∧ (∀ x ∈ xs, x ∈ l) ∧ (∀ y ∈ l, cand xs y = false → y ∈ xs) ∧ xs.length + l.countP (cand xs) ≤ l.length
theorem SetInv.start (l : List ByteArray) : SetInv l [] :=
  ⟨by simp [Asc], by simp, (fun y _ h => by rw [cand_nil] at h; cases h), by simpa using List.countP_le_length⟩
theorem SetInv.len {l xs : List ByteArray} (h : SetInv l xs) : xs.length ≤ l.length := by have := h.2.2.2; omega
theorem SetInv.step {l xs : List ByteArray} {b : ByteArray} (h : SetInv l xs) (hb : best xs l = some b) : SetInv l (xs ++ [b]) ∧ xs.length < l.length := by
  obtain ⟨h1, h2, h3, h4⟩ := h
  obtain ⟨j1, j2, j3⟩ := (best_spec xs l.reverse l (by simp)).2 b hb
  have hxb : ∀ x ∈ xs, less x b = true := by
    intro x hx
    obtain ⟨ys, z, rfl⟩ : ∃ ys z, xs = ys ++ [z] := by
      rcases List.eq_nil_or_concat xs with e | ⟨ys, z, e⟩
      · subst e; simp at hx
      · exact ⟨ys, z, by simpa using e⟩
    rw [cand_snoc] at j2
    unfold Asc at h1
    rw [List.pairwise_append] at h1
    rcases List.mem_append.1 hx with hx | hx
    · exact less_trans (h1.2.2 x hx z (by simp)) j2
    · simp at hx; subst hx; exact j2
  have himp : ∀ y, cand (xs ++ [b]) y = true → cand xs y = true := by
    intro y hy
    rw [cand_snoc] at hy
    rcases List.eq_nil_or_concat xs with e | ⟨ys, z, e⟩
    · subst e; rfl
    · have e' : xs = ys ++ [z] := by simpa using e
      subst e'
      rw [cand_snoc]
      exact less_trans (hxb z (by simp)) hy
  have hlt := countP_lt (cand xs) (cand (xs ++ [b])) himp l b j1 j2 (by rw [cand_snoc]; exact less_irrefl b)
  refine ⟨⟨?_, ?_, ?_, ?_⟩, by omega⟩
  · unfold Asc at *
    rw [List.pairwise_append]
    exact ⟨h1, by simp, fun x hx y hy => by simp at hy; subst hy; exact hxb x hx⟩
  · intro x hx
    rcases List.mem_append.1 hx with hx | hx
    · exact h2 x hx
    · simp at hx; subst hx; exact j1
  · intro y hy hc
    rw [cand_snoc] at hc
    cases k : cand xs y with
    | false => exact List.mem_append_left _ (h3 y hy k)
    | true => rw [eq_of_not_less (j3 y hy k) hc]; simp
  · rw [List.length_append]; simp; omega
theorem SetInv.done {l xs : List ByteArray} (h : SetInv l xs) (hb : best xs l = none) : SetOf xs l (fun _ => true) := by
  have hn := (best_spec xs l.reverse l (by simp)).1 hb
  exact ⟨h.1, fun x => ⟨fun hx => ⟨h.2.1 x hx, rfl⟩, fun hx => h.2.2.1 x hx.1 (hn x hx.1)⟩⟩

end Sp
end Go.Proofs.Ytimjgjhdkinhoaa
