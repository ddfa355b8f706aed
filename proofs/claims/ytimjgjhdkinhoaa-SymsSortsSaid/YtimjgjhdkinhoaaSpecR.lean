/-
  How a text is cut into symbols by Read, plainly.
-/
import Derived.Test.YtimjgjhdkinhoaaSpec
import Derived.Lib.IndexLaws
set_option linter.unusedVariables false
namespace Go.Proofs.Ytimjgjhdkinhoaa
namespace Sp

def symL (x : List UInt8) : Bool := decide (1 ≤ x.length) && decide (x.length ≤ 16) && allPlain x
theorem isSym_symL (s : ByteArray) : isSym s = symL s.data.toList := by simp [isSym, symL]

/-- The symbol that is written at the begin of a text, and how many bytes it takes. -/
def stepR (l : List UInt8) : Option (List UInt8 × Nat) :=
  match l with
  | [] => none
  | c :: _ =>
    if plainI c.toNat = true then some ([c], 1)
    else if c = 60 then
      (if l.findIdx (· == 62) = l.length then none else if l.findIdx (· == 62) < 3 then none
       else if symL ((l.take (l.findIdx (· == 62))).drop 1) = true then some ((l.take (l.findIdx (· == 62))).drop 1, l.findIdx (· == 62) + 1) else none)
    else none

theorem stepR_plain {l : List UInt8} {c : UInt8} (h : l[0]? = some c) (hp : plainI c.toNat = true) : stepR l = some ([c], 1) := by
  cases l with
  | nil => simp at h
  | cons d r => simp at h; subst h; simp [stepR, hp]
theorem stepR_bad {l : List UInt8} {c : UInt8} (h : l[0]? = some c) (hp : plainI c.toNat = false) (h6 : c ≠ 60) : stepR l = none := by
  cases l with
  | nil => simp at h
  | cons d r => simp at h; subst h; simp [stepR, hp, h6]
theorem plain60 : plainI ((60 : UInt8).toNat : Int) = false := by decide
theorem stepR_none {l : List UInt8} (h : l[0]? = some 60) (hn : ∀ j : Nat, l[j]? ≠ some (62 : UInt8)) : stepR l = none := by
  cases l with
  | nil => simp at h
  | cons d r =>
    simp at h; subst h
    have e : (60 :: r : List UInt8).findIdx (· == 62) = (60 :: r : List UInt8).length := by
      rw [List.findIdx_eq_length]
      intro x hx
      obtain ⟨j, hj⟩ := List.getElem?_of_mem hx
      simp only [beq_eq_false_iff_ne]
      intro hh; subst hh; exact hn j hj
    simp only [stepR]
    rw [if_neg (by rw [plain60]; simp), if_pos trivial, if_pos e]
theorem stepR_found {l : List UInt8} {e : Nat} (h : l[0]? = some 60) (he : l[e]? = some (62 : UInt8)) (hb : ∀ j : Nat, j < e → l[j]? ≠ some (62 : UInt8)) :
    stepR l = if e < 3 then none else if symL ((l.take e).drop 1) = true then some ((l.take e).drop 1, e + 1) else none := by
  cases l with
  | nil => simp at h
  | cons d r =>
    simp at h; subst h
    obtain ⟨hlt, hv⟩ := List.getElem?_eq_some_iff.1 he
    have e1 : (60 :: r : List UInt8).findIdx (· == 62) = e := by
      rw [List.findIdx_eq hlt]
      refine ⟨by simp [hv], fun j hj => ?_⟩
      simp only [beq_eq_false_iff_ne]
      intro hh
      exact hb j hj (by rw [List.getElem?_eq_getElem (by omega), hh])
    simp only [stepR]
    rw [if_neg (by rw [plain60]; simp), if_pos trivial, e1, if_neg (by omega)]
theorem stepR_pos {l y : List UInt8} {k : Nat} (h : stepR l = some (y, k)) : 1 ≤ k ∧ k ≤ l.length ∧ y.length ≤ 16 ∧ symL y = true := by
  cases l with
  | nil => simp [stepR] at h
  | cons c r =>
    simp only [stepR] at h
    split at h
    · next hp => simp at h; obtain ⟨rfl, rfl⟩ := h; simp [symL, allPlain, hp]
    · split at h
      · split at h
        · simp at h
        · split at h
          · simp at h
          · split at h
            · next h1 h2 h3 =>
              simp only [Option.some.injEq, Prod.mk.injEq] at h
              obtain ⟨rfl, rfl⟩ := h
              have := List.findIdx_le_length (p := (· == (62 : UInt8))) (xs := c :: r)
              refine ⟨by omega, by omega, ?_, h3⟩
              simp only [symL, Bool.and_eq_true, decide_eq_true_eq] at h3
              exact h3.1.2
            · simp at h
      · simp at h

/-- A text cut from its begin on, with so many steps at most. -/
def cutR : Nat → List UInt8 → Option (List (List UInt8))
  | 0, _ => none
  | f + 1, l => if l = [] then some [] else match stepR l with
    | none => none
    | some (x, k) => (cutR f (l.drop k)).map (x :: ·)
theorem cutR_enough : ∀ (f g : Nat) (l : List UInt8), l.length < f → l.length < g → cutR f l = cutR g l
  | 0, _, _, h, _ => by omega
  | _ + 1, 0, _, _, h => by omega
  | f + 1, g + 1, l, hf, hg => by
    simp only [cutR]
    by_cases h : l = []
    · rw [if_pos h, if_pos h]
    · rw [if_neg h, if_neg h]
      cases hs : stepR l with
      | none => rfl
      | some p =>
        obtain ⟨x, k⟩ := p
        have hk := stepR_pos hs
        simp only
        rw [cutR_enough f g (l.drop k) (by simp; omega) (by simp; omega)]
def cut (l : List UInt8) : Option (List (List UInt8)) := cutR (l.length + 1) l
theorem cut_nil : cut [] = some [] := rfl
theorem cut_bad {l : List UInt8} (h : l ≠ []) (hs : stepR l = none) : cut l = none := by
  simp only [cut, cutR]; rw [if_neg h, hs]
theorem cut_step {l x : List UInt8} {k : Nat} (hs : stepR l = some (x, k)) : cut l = (cut (l.drop k)).map (x :: ·) := by
  have hk := stepR_pos hs
  have h : l ≠ [] := by intro hh; subst hh; simp [stepR] at hs
  simp only [cut, cutR]
  rw [if_neg h, hs]
  simp only
  rw [cutR_enough l.length ((l.drop k).length + 1) (l.drop k) (by simp; omega) (by omega)]
  rfl

def mk (x : List UInt8) : ByteArray := ⟨x.toArray⟩
theorem mk_data (x : List UInt8) : (mk x).data.toList = x := by simp [mk]
theorem mk_eq {t : ByteArray} {x : List UInt8} (h : t.data.toList = x) : t = mk x := by
  subst h; cases t; simp [mk]
/-- What Read returns: the word and the error. -/
def readOf (l : List UInt8) : List ByteArray × Int :=
  if 400 < l.length then ([], 3) else match cut l with
    | none => ([], 2)
    | some xs => if 60 < xs.length then ([], 3) else (xs.map mk, 0)

/-- While a text is cut: what stands behind the place goes on what has been cut. -/
def Going (l : List UInt8) (k : Nat) (xs : List ByteArray) : Prop :=
  k ≤ l.length ∧ xs.length ≤ k ∧ (∀ s ∈ xs, s.size ≤ 16) ∧ (cut l).map (·.map mk) = (cut (l.drop k)).map (fun ys => xs ++ ys.map mk)
theorem Going.start (l : List UInt8) : Going l 0 [] := ⟨Nat.zero_le _, by simp, by simp, by simp⟩
theorem Going.step {l : List UInt8} {k j : Nat} {xs : List ByteArray} {t : ByteArray} {y : List UInt8} (h : Going l k xs) (hs : stepR (l.drop k) = some (y, j)) (ht : t.data.toList = y) : Going l (k + j) (xs ++ [t]) := by
  obtain ⟨h1, h2, h3, h4⟩ := h
  have hj := stepR_pos hs
  simp only [List.length_drop] at hj
  refine ⟨by omega, by simp; omega, ?_, ?_⟩
  · intro s hs'
    rw [List.mem_append] at hs'
    cases hs' with
    | inl h => exact h3 s h
    | inr h =>
      simp at h; subst h
      have : s.size = y.length := by rw [← ht]; simp
      omega
  · rw [h4, cut_step hs, List.drop_drop, mk_eq ht]
    cases cut (l.drop (k + j)) <;> simp
theorem Going.bad {l : List UInt8} {k : Nat} {xs : List ByteArray} (h : Going l k xs) (hk : k < l.length) (hs : stepR (l.drop k) = none) (h4 : l.length ≤ 400) : readOf l = ([], 2) ∧ cut l = none := by
  obtain ⟨_, _, _, h'⟩ := h
  rw [cut_bad (by intro hh; have := congrArg List.length hh; simp at this; omega) hs] at h'
  have hc : cut l = none := by cases hcc : cut l <;> simp_all
  exact ⟨by unfold readOf; rw [if_neg (by omega), hc], hc⟩
theorem Going.done {l : List UInt8} {k : Nat} {xs : List ByteArray} (h : Going l k xs) (hk : ¬ k < l.length) (h4 : l.length ≤ 400) :
    readOf l = (if 60 < xs.length then ([], 3) else (xs, 0)) ∧ ∃ ys, cut l = some ys ∧ ys.map mk = xs := by
  obtain ⟨h1, _, _, h'⟩ := h
  rw [List.drop_of_length_le (by omega), cut_nil] at h'
  simp only [Option.map_some, List.map_nil, List.append_nil] at h'
  cases hc : cut l with
  | none => rw [hc] at h'; simp at h'
  | some ys =>
    rw [hc] at h'
    simp only [Option.map_some, Option.some.injEq] at h'
    refine ⟨?_, ys, rfl, h'⟩
    unfold readOf
    rw [if_neg (by omega), hc]
    simp only
    rw [← h', List.length_map]

theorem nonPlain60 {c : UInt8} (h : c = 60) : plainI (c.toNat : Int) = false := by subst h; decide
/-- Where no 62 stands from a place on. -/
theorem stepR_open {l : List UInt8} {k : Nat} (h : (l.drop k)[0]? = some 60) (hn : ∀ i : Nat, k < i → l[i]? ≠ some (62 : UInt8)) : stepR (l.drop k) = none := by
  refine stepR_none h fun j hj => ?_
  cases j with
  | zero => rw [h] at hj; simp at hj
  | succ j => rw [List.getElem?_drop] at hj; exact hn (k + (j + 1)) (by omega) hj
theorem stepR_shut {l : List UInt8} {k j : Nat} (h : (l.drop k)[0]? = some 60) (hk : k < j) (hj : l[j]? = some (62 : UInt8)) (hn : ∀ i : Nat, k < i → i < j → l[i]? ≠ some (62 : UInt8)) :
    stepR (l.drop k) = if j - k < 3 then none else if symL ((l.drop (k + 1)).take (j - (k + 1))) = true then some ((l.drop (k + 1)).take (j - (k + 1)), j - k + 1) else none := by
  have e : ((l.drop k).take (j - k)).drop 1 = (l.drop (k + 1)).take (j - (k + 1)) := by
    rw [List.drop_take, List.drop_drop]
    congr 1
  rw [stepR_found (e := j - k) h (by rw [List.getElem?_drop, show k + (j - k) = j by omega]; exact hj) (fun i hi hh => ?_), e]
  rw [List.getElem?_drop] at hh
  cases i with
  | zero => rw [List.getElem?_drop] at h; rw [h] at hh; simp at hh
  | succ i => exact hn (k + (i + 1)) (by omega) (by omega) hh

end Sp
end Go.Proofs.Ytimjgjhdkinhoaa
