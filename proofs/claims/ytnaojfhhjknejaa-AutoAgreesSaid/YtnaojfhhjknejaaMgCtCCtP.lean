/-
  Sums over numbered states that are cut at the greatest count.
-/
import Derived.Test.YtnaojfhhjknejaaMgSpec
import Derived.Test.YtnaojfhhjknejaaMgTeP
set_option linter.unusedVariables false
namespace Go.Proofs.Ytnaojfhhjknejaa
namespace Nf
def cutC (n : Nat) : Nat := min n 1000000000
theorem cutC_add (a b : Nat) : cutC (cutC a + b) = cutC (a + b) := by unfold cutC; omega
theorem cutC_add2 (a b : Nat) : cutC (cutC a + cutC b) = cutC (a + b) := by unfold cutC; omega
theorem cutC_le (a : Nat) : cutC a ≤ 1000000000 := by unfold cutC; omega
/-- Sums over the numbers below n. -/
def Sm : Nat → (Nat → Nat) → Nat
  | 0, _ => 0
  | n + 1, h => Sm n h + h n
theorem Sm_congr {n : Nat} {f h : Nat → Nat} (e : ∀ i, i < n → f i = h i) : Sm n f = Sm n h := by
  induction n with
  | zero => rfl
  | succ n ih => unfold Sm; rw [ih fun i hi => e i (by omega), e n (by omega)]
/-- A number added at one place, exactly; and cut. -/
def addX (L : Nat → Nat) (z m : Nat) : Nat → Nat := fun t => if t = z then L t + m else L t
def addC (L : Nat → Nat) (z m : Nat) : Nat → Nat := fun t => if t = z then cutC (L t + m) else L t
theorem addX_cut (L : Nat → Nat) (z m : Nat) : (fun t => cutC (addX L z m t)) = addC (fun t => cutC (L t)) z (cutC m) := by
  funext t
  unfold addX addC
  split
  · rw [cutC_add2]
  · rfl
theorem Sm_addX (f : Nat → Nat) (L : Nat → Nat) (z m : Nat) : ∀ n, Sm n (fun t => addX L z m t * f t) = Sm n (fun t => L t * f t) + if z < n then m * f z else 0
  | 0 => by simp [Sm]
  | n + 1 => by
    unfold Sm
    rw [Sm_addX f L z m n]
    show _ + addX L z m n * f n = _ + L n * f n + _
    by_cases h1 : n = z
    · subst h1
      have e : addX L n m n = L n + m := by simp [addX]
      rw [e, Nat.add_mul, if_neg (by omega), if_pos (by omega)]
      omega
    · have e : addX L z m n = L n := by simp [addX, h1]
      rw [e]
      by_cases h2 : z < n
      · rw [if_pos h2, if_pos (by omega)]; omega
      · rw [if_neg h2, if_neg (by omega)]; omega
/-- What one state hands on. -/
def goX (L : Nat → Nat) (l : List Nat) (m : Nat) : Nat → Nat := l.foldl (fun L z => addX L z m) L
def goC (L : Nat → Nat) (l : List Nat) (m : Nat) : Nat → Nat := l.foldl (fun L z => addC L z m) L
theorem goX_cut (l : List Nat) (m : Nat) : ∀ L : Nat → Nat, (fun t => cutC (goX L l m t)) = goC (fun t => cutC (L t)) l (cutC m) := by
  induction l with
  | nil => intro L; rfl
  | cons x r ih => intro L; unfold goX goC; simp only [List.foldl_cons]; rw [← addX_cut]; exact ih _
def sumOf (f : Nat → Nat) (l : List Nat) : Nat := l.foldr (fun t s => f t + s) 0
theorem Sm_goX (f : Nat → Nat) (n : Nat) (l : List Nat) (m : Nat) (hl : ∀ t ∈ l, t < n) : ∀ L : Nat → Nat, Sm n (fun t => goX L l m t * f t) = Sm n (fun t => L t * f t) + m * sumOf f l := by
  induction l with
  | nil => intro L; simp [goX, sumOf]
  | cons x r ih =>
    intro L
    have h1 := ih (fun t ht => hl t (by simp [ht])) (addX L x m)
    have h2 := Sm_addX f L x m n
    rw [if_pos (hl x (by simp))] at h2
    show Sm n (fun t => goX (addX L x m) r m t * f t) = _
    rw [h1, h2]
    show _ = _ + m * (f x + sumOf f r)
    rw [Nat.mul_add]
    omega
/-- All states hand on: exactly; and cut. -/
def allX (v : Nat → Nat) (nx : Nat → List Nat) : Nat → Nat → Nat
  | 0 => fun _ => 0
  | i + 1 => goX (allX v nx i) (nx i) (v i)
def allC (v : Nat → Nat) (nx : Nat → List Nat) : Nat → Nat → Nat
  | 0 => fun _ => 0
  | i + 1 => goC (allC v nx i) (nx i) (v i)
theorem allX_cut (v : Nat → Nat) (nx : Nat → List Nat) : ∀ i, (fun t => cutC (allX v nx i t)) = allC (fun t => cutC (v t)) nx i
  | 0 => by funext t; rfl
  | i + 1 => by
    show (fun t => cutC (goX (allX v nx i) (nx i) (v i) t)) = goC (allC (fun t => cutC (v t)) nx i) (nx i) (cutC (v i))
    rw [goX_cut, allX_cut v nx i]
theorem Sm_allX (f : Nat → Nat) (n : Nat) (v : Nat → Nat) (nx : Nat → List Nat) (hn : ∀ i, i < n → ∀ t ∈ nx i, t < n) : ∀ i, i ≤ n → Sm n (fun t => allX v nx i t * f t) = Sm i (fun j => v j * sumOf f (nx j))
  | 0, _ => by
    show Sm n (fun t => 0 * f t) = 0
    have key : ∀ m, Sm m (fun t => 0 * f t) = 0 := by
      intro m
      induction m with
      | zero => rfl
      | succ m ih => unfold Sm; rw [ih]; simp
    exact key n
  | i + 1, hi => by
    show Sm n (fun t => goX (allX v nx i) (nx i) (v i) t * f t) = _
    rw [Sm_goX f n (nx i) (v i) (hn i (by omega)), Sm_allX f n v nx hn i (by omega)]
    rfl
/-- How many words of k symbols lead to each state, exactly; and cut. -/
def wdX (n : Nat) (nx : Nat → List Nat) : Nat → Nat → Nat
  | 0 => fun t => if t = 0 then 1 else 0
  | k + 1 => allX (wdX n nx k) nx n
def wdC (n : Nat) (nx : Nat → List Nat) : Nat → Nat → Nat
  | 0 => fun t => if t = 0 then 1 else 0
  | k + 1 => allC (wdC n nx k) nx n
theorem wdX_cut (n : Nat) (nx : Nat → List Nat) : ∀ k, (fun t => cutC (wdX n nx k t)) = wdC n nx k
  | 0 => by funext t; show cutC (if t = 0 then 1 else 0) = if t = 0 then 1 else 0; split <;> rfl
  | k + 1 => by
    show (fun t => cutC (allX (wdX n nx k) nx n t)) = allC (wdC n nx k) nx n
    rw [allX_cut, wdX_cut n nx k]
/-- The sum at the end, cut. -/
def endC (v : Nat → Nat) (en : Nat → Bool) : Nat → Nat
  | 0 => 0
  | i + 1 => if en i then cutC (endC v en i + v i) else endC v en i
theorem endC_cut (v : Nat → Nat) (en : Nat → Bool) : ∀ i, endC (fun t => cutC (v t)) en i = cutC (Sm i (fun t => v t * if en t then 1 else 0))
  | 0 => rfl
  | i + 1 => by
    show (if en i then cutC (endC (fun t => cutC (v t)) en i + cutC (v i)) else endC (fun t => cutC (v t)) en i) = cutC (Sm i (fun t => v t * if en t then 1 else 0) + v i * if en i then 1 else 0)
    rw [endC_cut v en i]
    cases en i with
    | true => simp only [if_true, Nat.mul_one]; rw [cutC_add2]
    | false => simp
end Nf
end Go.Proofs.Ytnaojfhhjknejaa

/-
  How many words of a length there are, plainly: by sets of states, forward, with sums that are cut; and that this is how many words are listed.
-/
set_option linter.unusedVariables false
namespace Go.Proofs.Ytnaojfhhjknejaa
namespace Nf
variable {g : Gr}
open Classical in
/-- How many words of k symbols lead from a set to an end. -/
noncomputable def fw (g : Gr) (k : Nat) (S : Nat → Prop) : Nat := if ∃ q, S q ∧ Ex g k q then (F g k S).length else 0
theorem fw_congr {k : Nat} {S T : Nat → Prop} (h : ∀ q, S q ↔ T q) : fw g k S = fw g k T := by
  have e : S = T := funext fun q => propext (h q)
  rw [e]
theorem len_flatMap (l : List ByteArray) (h : ByteArray → List (List ByteArray)) : (l.flatMap h).length = l.foldr (fun s n => (h s).length + n) 0 := by
  induction l with
  | nil => rfl
  | cons x r ih => rw [List.flatMap_cons, List.length_append, ih]; rfl
theorem fw_succ (hf : ∀ s ∈ g.sig, s ≠ eps) (k : Nat) (S : Nat → Prop) : fw g (k + 1) S = g.sig.foldr (fun s n => fw g k (StepTo g S s) + n) 0 := by
  classical
  have key : (F g (k + 1) S).length = g.sig.foldr (fun s n => fw g k (StepTo g S s) + n) 0 := by
    unfold F
    rw [len_flatMap]
    have e : ∀ s, (if ∃ q, StepTo g S s q ∧ Ex g k q then (F g k fun q => StepTo g S s q ∧ Ex g k q).map (s :: ·) else []).length = fw g k (StepTo g S s) := fun s => by
      unfold fw
      split
      · rw [List.length_map, F_cut hf]
      · rfl
    congr 1
    funext s n
    rw [e s]
  by_cases h : ∃ q, S q ∧ Ex g (k + 1) q
  · unfold fw at *
    rw [if_pos h, key]
  · have h0 : fw g (k + 1) S = 0 := by unfold fw; rw [if_neg h]
    rw [h0]
    have key2 : ∀ l : List ByteArray, (∀ s ∈ l, s ∈ g.sig) → l.foldr (fun s n => fw g k (StepTo g S s) + n) 0 = 0 := by
      intro l
      induction l with
      | nil => intro _; rfl
      | cons x r ih =>
        intro hl
        have hz : fw g k (StepTo g S x) = 0 := by
          unfold fw
          rw [if_neg]
          rintro ⟨q, ⟨p, b, h1, h2, h3⟩, h4⟩
          exact h ⟨p, h1, p, b, .refl p, ⟨x, hf x (hl x (by simp)), h2⟩, Ex.back h4 h3⟩
        rw [List.foldr_cons, ih (fun s hs => hl s (by simp [hs])), hz]
    exact (key2 g.sig fun s hs => hs).symm
theorem fw_none (k : Nat) (S : Nat → Prop) (h : ∀ q, ¬ S q) : fw g k S = 0 := by
  unfold fw
  rw [if_neg]
  rintro ⟨q, hq, _⟩
  exact h q hq
/-- The sets that words lead to, numbered: 0 is that of the empty word; where symbols lead from each. -/
structure Subs (g : Gr) (n : Nat) (Ss : Nat → Nat → Prop) (nx : Nat → List Nat) (en : Nat → Bool) : Prop where
  pos : 0 < n
  beg : ∀ q, Ss 0 q ↔ Beg g q
  lt : ∀ i, i < n → ∀ t ∈ nx i, t < n
  sum : ∀ i, i < n → ∀ f : (Nat → Prop) → Nat, (∀ T, (∀ q, ¬ T q) → f T = 0) → sumOf (fun t => f (Ss t)) (nx i) = g.sig.foldr (fun s m => f (StepTo g (Ss i) s) + m) 0
  end_ : ∀ i, i < n → (en i = true ↔ ∃ q, Ss i q ∧ q ∈ g.ends)
  closed : ∀ i, i < n → ∀ p q, Ss i p → Star (E g) p q → Ss i q
theorem subs_end {n : Nat} {Ss : Nat → Nat → Prop} {nx : Nat → List Nat} {en : Nat → Bool} (h : Subs g n Ss nx en) (i : Nat) (hi : i < n) : fw g 0 (Ss i) = if en i then 1 else 0 := by
  unfold fw
  by_cases hx : ∃ q, Ss i q ∧ Ex g 0 q
  · obtain ⟨q, h1, f, h2, h3⟩ := hx
    rw [if_pos ⟨q, h1, f, h2, h3⟩, if_pos ((h.end_ i hi).2 ⟨f, h.closed i hi q f h1 h3, h2⟩)]
    rfl
  · rw [if_neg hx, if_neg]
    intro he
    obtain ⟨q, h1, h2⟩ := (h.end_ i hi).1 he
    exact hx ⟨q, h1, q, h2, .refl q⟩
theorem subs_step {n : Nat} {Ss : Nat → Nat → Prop} {nx : Nat → List Nat} {en : Nat → Bool} (hf : ∀ s ∈ g.sig, s ≠ eps) (h : Subs g n Ss nx en) (i k : Nat) (hi : i < n) : fw g (k + 1) (Ss i) = sumOf (fun t => fw g k (Ss t)) (nx i) := by
  rw [fw_succ hf, h.sum i hi (fw g k) (fun T hT => fw_none k T hT)]
/-- The forward sums meet the backward ones. -/
theorem subs_meet {n : Nat} {Ss : Nat → Nat → Prop} {nx : Nat → List Nat} {en : Nat → Bool} (hf : ∀ s ∈ g.sig, s ≠ eps) (h : Subs g n Ss nx en) : ∀ j k : Nat, Sm n (fun t => wdX n nx j t * fw g k (Ss t)) = fw g (j + k) (Ss 0)
  | 0, k => by
    have key : ∀ m, 0 < m → Sm m (fun t => wdX n nx 0 t * fw g k (Ss t)) = fw g k (Ss 0) := by
      intro m hm
      induction m with
      | zero => omega
      | succ m ih =>
        unfold Sm
        by_cases h0 : m = 0
        · subst h0; simp [Sm, wdX]
        · rw [ih (by omega)]; simp [wdX, h0]
    rw [Nat.zero_add]
    exact key n h.pos
  | j + 1, k => by
    show Sm n (fun t => allX (wdX n nx j) nx n t * fw g k (Ss t)) = _
    rw [Sm_allX (fun t => fw g k (Ss t)) n (wdX n nx j) nx h.lt n (Nat.le_refl n)]
    rw [show j + 1 + k = j + (k + 1) by omega, ← subs_meet hf h j (k + 1)]
    exact Sm_congr fun i hi => by rw [subs_step hf h i k hi]
theorem fw_words (k : Nat) : fw g k (Beg g) = (W g k).length := by
  unfold fw W
  by_cases hx : ∃ q, Beg g q ∧ Ex g k q
  · obtain ⟨q, ⟨p, hp, hs⟩, h2⟩ := hx
    subst hp
    have h0 : Ex g k 0 := Ex.back h2 hs
    rw [if_pos ⟨q, ⟨0, rfl, hs⟩, h2⟩, if_pos h0]
  · rw [if_neg hx, if_neg]
    · rfl
    · intro h0
      exact hx ⟨0, ⟨0, rfl, .refl 0⟩, h0⟩
/-- What the program counts, cut, is how many words there are, cut. -/
theorem subs_count {n : Nat} {Ss : Nat → Nat → Prop} {nx : Nat → List Nat} {en : Nat → Bool} (hf : ∀ s ∈ g.sig, s ≠ eps) (h : Subs g n Ss nx en) (k : Nat) : endC (wdC n nx k) en n = cutC (W g k).length := by
  rw [← wdX_cut, endC_cut, ← fw_words, ← fw_congr (g := g) (k := k) h.beg]
  have e := subs_meet hf h k 0
  rw [Nat.add_zero] at e
  rw [← e]
  congr 1
  exact Sm_congr fun i hi => by rw [subs_end h i hi]
end Nf
end Go.Proofs.Ytnaojfhhjknejaa
