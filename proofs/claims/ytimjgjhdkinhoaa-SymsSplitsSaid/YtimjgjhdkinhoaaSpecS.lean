/-
  How a text is cut by an alphabet, plainly.
-/
import Derived.Test.YtimjgjhdkinhoaaSpecO
import Derived.Test.YtimjgjhdkinhoaaSpecR
import Derived.Lib.Strings
set_option linter.unusedVariables false
namespace Go.Proofs.Ytimjgjhdkinhoaa
namespace Sp

def pre (l : List UInt8) (x : ByteArray) : Bool := Lib.hasPrefix l x.data.toList
def best1 (l : List UInt8) (b x : ByteArray) : ByteArray := if (decide (b.size < x.size) && pre l x) = true then x else b
theorem best1_yes {l : List UInt8} {b x : ByteArray} (h : b.size < x.size) (k : pre l x = true) : best1 l b x = x := by simp [best1, h, k]
theorem best1_small {l : List UInt8} {b x : ByteArray} (h : ¬ b.size < x.size) : best1 l b x = b := by simp [best1, h]
theorem best1_no {l : List UInt8} {b x : ByteArray} (k : pre l x = false) : best1 l b x = b := by simp [best1, k]
/-- The longest symbol of a list that a text begins with. -/
def longF (l : List UInt8) (sig : List ByteArray) : ByteArray := sig.foldl (best1 l) ⟨#[]⟩
theorem fold_mem (l : List UInt8) : ∀ (sig : List ByteArray) (b : ByteArray), sig.foldl (best1 l) b = b ∨ (sig.foldl (best1 l) b ∈ sig ∧ pre l (sig.foldl (best1 l) b) = true)
  | [], b => Or.inl rfl
  | x :: r, b => by
    simp only [List.foldl_cons]
    rcases fold_mem l r (best1 l b x) with h | ⟨h1, h2⟩
    · rw [h]
      unfold best1
      by_cases c : (decide (b.size < x.size) && pre l x) = true
      · rw [if_pos c]
        simp only [Bool.and_eq_true] at c
        exact Or.inr ⟨List.mem_cons_self, c.2⟩
      · rw [if_neg c]; exact Or.inl rfl
    · exact Or.inr ⟨List.mem_cons_of_mem _ h1, h2⟩
theorem longF_mem {l : List UInt8} {sig : List ByteArray} (h : (longF l sig).size ≠ 0) : longF l sig ∈ sig ∧ pre l (longF l sig) = true := by
  rcases fold_mem l sig ⟨#[]⟩ with h1 | h1
  · exact absurd (by unfold longF; rw [h1]; rfl) h
  · exact h1
theorem pre_le {l : List UInt8} {x : ByteArray} (h : pre l x = true) : x.size ≤ l.length := by
  unfold pre Lib.hasPrefix at h
  have := (List.isPrefixOf_iff_prefix.1 h).length_le
  simpa using this
theorem pre_take {l : List UInt8} {x : ByteArray} (h : pre l x = true) : x.data.toList = l.take x.size := by
  unfold pre Lib.hasPrefix at h
  have := List.prefix_iff_eq_take.1 (List.isPrefixOf_iff_prefix.1 h)
  rw [this]; simp
theorem fold_size (l : List UInt8) : ∀ (sig : List ByteArray) (b : ByteArray) (m : Nat), b.size ≤ m → (∀ s ∈ sig, s.size ≤ m) → (sig.foldl (best1 l) b).size ≤ m := by
  intro sig b m hb hs
  rcases fold_mem l sig b with h | ⟨h, _⟩
  · rw [h]; exact hb
  · exact hs _ h

def splitR (sig : List ByteArray) : Nat → List UInt8 → Nat → List ByteArray → List ByteArray × Option Nat
  | 0, _, _, _ => ([], none)
  | f + 1, l, k, acc => if l = [] then (acc, none) else if (longF l sig).size = 0 then ([], some k) else splitR sig f (l.drop (longF l sig).size) (k + (longF l sig).size) (acc ++ [longF l sig])
def splitOf (l : List UInt8) (sig : List ByteArray) : List ByteArray × Nat × Int :=
  if errAlpha sig = 0 then (if 400 < l.length then ([], 0, 3) else match splitR sig (l.length + 1) l 0 [] with
    | (_, some k) => ([], k, 4)
    | (acc, none) => if 60 < acc.length then ([], 0, 3) else (acc, 0, 0)) else ([], 0, errAlpha sig)

/-- While a text is cut. -/
def SGoing (sig : List ByteArray) (l : List UInt8) (k : Nat) (acc : List ByteArray) : Prop :=
  k ≤ l.length ∧ acc.length ≤ k ∧ (∀ s ∈ acc, s ∈ sig) ∧ joined acc = l.take k ∧ ∃ f, l.length - k < f ∧ splitR sig (l.length + 1) l 0 [] = splitR sig f (l.drop k) k acc
theorem SGoing.start (sig : List ByteArray) (l : List UInt8) : SGoing sig l 0 [] := ⟨Nat.zero_le _, by simp, by simp, by simp [joined], l.length + 1, by omega, by simp⟩
theorem SGoing.step {sig : List ByteArray} {l : List UInt8} {k : Nat} {acc : List ByteArray} {x : ByteArray} (h : SGoing sig l k acc) (hk : k < l.length) (hx : longF (l.drop k) sig = x) (h0 : x.size ≠ 0) :
    SGoing sig l (k + x.size) (acc ++ [x]) ∧ x ∈ sig ∧ k + x.size ≤ l.length := by
  obtain ⟨h1, h2, h3, h4, f, hf, h5⟩ := h
  have hm := longF_mem (l := l.drop k) (sig := sig) (by rw [hx]; exact h0)
  rw [hx] at hm
  have hle := pre_le hm.2
  simp only [List.length_drop] at hle
  refine ⟨⟨by omega, by simp; omega, ?_, ?_, ?_⟩, hm.1, by omega⟩
  · intro s hs
    rw [List.mem_append] at hs
    cases hs with
    | inl h => exact h3 s h
    | inr h => simp at h; subst h; exact hm.1
  · rw [joined_snoc, h4, pre_take hm.2, List.take_add]
  · cases f with
    | zero => omega
    | succ f =>
      refine ⟨f, by omega, ?_⟩
      rw [h5, splitR, if_neg (by intro hh; have := congrArg List.length hh; simp at this; omega), hx, if_neg h0, List.drop_drop]
theorem SGoing.bad {sig : List ByteArray} {l : List UInt8} {k : Nat} {acc : List ByteArray} (h : SGoing sig l k acc) (hk : k < l.length) (hx : (longF (l.drop k) sig).size = 0) :
    splitR sig (l.length + 1) l 0 [] = ([], some k) := by
  obtain ⟨h1, h2, h3, h4, f, hf, h5⟩ := h
  cases f with
  | zero => omega
  | succ f => rw [h5, splitR, if_neg (by intro hh; have := congrArg List.length hh; simp at this; omega), if_pos hx]
theorem SGoing.done {sig : List ByteArray} {l : List UInt8} {k : Nat} {acc : List ByteArray} (h : SGoing sig l k acc) (hk : ¬ k < l.length) : splitR sig (l.length + 1) l 0 [] = (acc, none) := by
  obtain ⟨h1, h2, h3, h4, f, hf, h5⟩ := h
  cases f with
  | zero => omega
  | succ f => rw [h5, splitR, if_pos (List.drop_of_length_le (by omega))]
theorem splitOf_bad {l : List UInt8} {sig : List ByteArray} {k : Nat} {x : List ByteArray} (he : errAlpha sig = 0) (h4 : ¬ 400 < l.length) (h : splitR sig (l.length + 1) l 0 [] = (x, some k)) : splitOf l sig = ([], k, 4) := by
  unfold splitOf; rw [if_pos he, if_neg h4, h]
theorem splitOf_done {l : List UInt8} {sig : List ByteArray} {x : List ByteArray} (he : errAlpha sig = 0) (h4 : ¬ 400 < l.length) (h : splitR sig (l.length + 1) l 0 [] = (x, none)) : splitOf l sig = if 60 < x.length then ([], 0, 3) else (x, 0, 0) := by
  unfold splitOf; rw [if_pos he, if_neg h4, h]

theorem alpha_small {l : List ByteArray} (h : errAlpha l = 0) : l.length ≤ 40 ∧ (∀ s ∈ l, s.size ≤ 16) ∧ allSym l = true ∧ isSet l = true := by
  unfold errAlpha at h
  by_cases c : 40 < l.length ∨ anyLong l = true
  · rw [if_pos c] at h; simp at h
  · rw [if_neg c] at h
    have c1 : anyLong l = false := by
      cases hh : anyLong l with
      | false => rfl
      | true => exact absurd (Or.inr hh) c
    by_cases d : allSym l = true ∧ isSet l = true
    · exact ⟨by omega, fun s hs => small_of_anyLong c1 hs, d.1, d.2⟩
    · rw [if_neg d] at h; simp at h

end Sp
end Go.Proofs.Ytimjgjhdkinhoaa
