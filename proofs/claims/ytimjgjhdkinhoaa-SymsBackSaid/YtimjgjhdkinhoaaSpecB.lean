/-
  Text and Read are one another's, plainly.
-/
import Derived.Test.YtimjgjhdkinhoaaSpecR
set_option linter.unusedVariables false
namespace Go.Proofs.Ytimjgjhdkinhoaa
namespace Sp

theorem allPlain_mem {x : List UInt8} (h : allPlain x = true) {c : UInt8} (hc : c ∈ x) : plainI (c.toNat : Int) = true := by
  unfold allPlain at h; rw [List.all_eq_true] at h; exact h c hc
theorem plain_ne62 {c : UInt8} (h : plainI (c.toNat : Int) = true) : c ≠ 62 := by intro hh; subst hh; revert h; decide

theorem stepR_put {s : ByteArray} (hs : isSym s = true) (rest : List UInt8) : stepR (put s ++ rest) = some (s.data.toList, (put s).length) := by
  rw [isSym_symL] at hs
  have hz : s.data.toList.length = s.size := by simp
  have hs' := hs
  simp only [symL, Bool.and_eq_true, decide_eq_true_eq] at hs'
  obtain ⟨⟨h1, h2⟩, h3⟩ := hs'
  by_cases h : s.size = 1
  · rw [put_one h]
    match hx : s.data.toList with
    | [] => rw [hx] at h1; simp at h1
    | [c] =>
      rw [hx] at h3
      exact stepR_plain (by simp) (allPlain_mem h3 (by simp))
    | a :: b :: r => rw [hx] at hz; simp at hz; omega
  · rw [put_more h]
    generalize hx : s.data.toList = x at *
    have he : (60 :: (x ++ [62]) ++ rest)[x.length + 1]? = some (62 : UInt8) := by
      simp
    have hb : ∀ j : Nat, j < x.length + 1 → (60 :: (x ++ [62]) ++ rest)[j]? ≠ some (62 : UInt8) := by
      intro j hj
      cases j with
      | zero => simp
      | succ j =>
        have hjx : j < x.length := by omega
        have e : (60 :: (x ++ [62]) ++ rest)[j + 1]? = some x[j] := by
          simp [List.getElem?_append, hjx]
        rw [e]
        simp only [ne_eq, Option.some.injEq]
        exact plain_ne62 (allPlain_mem h3 (List.getElem_mem hjx))
    have ex : ((60 :: (x ++ [62]) ++ rest).take (x.length + 1)).drop 1 = x := by simp
    rw [stepR_found (by simp) he hb, if_neg (by omega), ex, if_pos hs]
    simp
theorem cut_written : ∀ {l : List ByteArray}, allSym l = true → cut (written l) = some (l.map fun s => s.data.toList)
  | [], _ => rfl
  | s :: l, h => by
    simp only [allSym, List.all_cons, Bool.and_eq_true] at h
    have e : written (s :: l) = put s ++ written l := by simp [written]
    rw [e, cut_step (stepR_put h.1 (written l)), List.drop_left, cut_written h.2]
    rfl
theorem mk_self (s : ByteArray) : mk s.data.toList = s := (mk_eq rfl).symm
theorem read_text {l : List ByteArray} (h : (textOf l).2 = 0) : readOf (textOf l).1 = (l, 0) := by
  unfold textOf at *
  by_cases he : errWord l = 0
  · obtain ⟨h1, h2, h3⟩ := word_small he
    rw [if_pos he] at *
    by_cases h4 : 400 < (written l).length
    · rw [if_pos h4] at h; simp at h
    · rw [if_neg h4]
      unfold readOf
      rw [if_neg h4, cut_written h3]
      simp only
      rw [if_neg (by simp; omega)]
      simp [Function.comp_def, mk_self]
  · rw [if_neg he] at h; exact absurd h he

theorem put_step {l x : List UInt8} {k : Nat} (h : stepR l = some (x, k)) : put (mk x) = l.take k ∧ isSym (mk x) = true := by
  have hp := stepR_pos h
  have hsym : isSym (mk x) = true := by rw [isSym_symL, mk_data]; exact hp.2.2.2
  refine ⟨?_, hsym⟩
  have hz : (mk x).size = x.length := by have := congrArg List.length (mk_data x); simpa using this
  cases l with
  | nil => simp [stepR] at h
  | cons c r =>
    simp only [stepR] at h
    split at h
    · simp at h; obtain ⟨rfl, rfl⟩ := h
      rw [put_one (by rw [hz]; rfl), mk_data]; simp
    · split at h
      · next hc =>
        split at h
        · simp at h
        · next hne =>
          split at h
          · simp at h
          · next h3 =>
            split at h
            · simp only [Option.some.injEq, Prod.mk.injEq] at h
              obtain ⟨rfl, rfl⟩ := h
              subst hc
              generalize he : (60 :: r : List UInt8).findIdx (· == 62) = e at *
              have hle := List.findIdx_le_length (p := (· == (62 : UInt8))) (xs := 60 :: r)
              rw [he] at hle
              have hlt : e < (60 :: r : List UInt8).length := by omega
              have hv : (60 :: r : List UInt8)[e] = 62 := by
                have := List.findIdx_getElem (p := (· == (62 : UInt8))) (xs := 60 :: r) (w := by rw [he]; exact hlt)
                simp only [he] at this
                simpa using this
              have hl : ((60 :: r : List UInt8).take e).drop 1 = ((60 :: r : List UInt8).take e).tail := by simp
              have hlen : (((60 :: r : List UInt8).take e).drop 1).length = e - 1 := by simp at hlt ⊢; omega
              rw [put_more (by rw [hz, hlen]; omega), mk_data]
              rw [List.take_succ_eq_append_getElem hlt, hv]
              cases e with
              | zero => omega
              | succ e => simp
            · simp at h
      · simp at h
theorem written_cut : ∀ (f : Nat) (l : List UInt8) (ys : List (List UInt8)), cutR f l = some ys → written (ys.map mk) = l ∧ allSym (ys.map mk) = true
  | 0, _, _, h => by simp [cutR] at h
  | f + 1, l, ys, h => by
    simp only [cutR] at h
    by_cases hl : l = []
    · rw [if_pos hl] at h
      simp at h
      subst h hl
      exact ⟨rfl, rfl⟩
    · rw [if_neg hl] at h
      cases hs : stepR l with
      | none => rw [hs] at h; simp at h
      | some p =>
        obtain ⟨x, k⟩ := p
        rw [hs] at h
        simp only at h
        cases hr : cutR f (l.drop k) with
        | none => rw [hr] at h; simp at h
        | some zs =>
          rw [hr] at h
          simp at h
          subst h
          obtain ⟨h1, h2⟩ := written_cut f _ _ hr
          obtain ⟨h3, h4⟩ := put_step hs
          have e : written ((x :: zs).map mk) = put (mk x) ++ written (zs.map mk) := by simp [written]
          refine ⟨by rw [e, h1, h3, List.take_append_drop], ?_⟩
          simp only [List.map_cons, allSym, List.all_cons, h4, Bool.true_and]
          exact h2
theorem sym_small {s : ByteArray} (h : isSym s = true) : s.size ≤ 16 := by
  simp only [isSym, Bool.and_eq_true, decide_eq_true_eq] at h
  exact h.1.2
theorem errWord_ok {l : List ByteArray} (h : allSym l = true) (hl : l.length ≤ 60) : errWord l = 0 := by
  unfold errWord
  rw [if_neg, if_pos h]
  intro hh
  cases hh with
  | inl hh => omega
  | inr hh =>
    unfold anyLong at hh
    rw [List.any_eq_true] at hh
    obtain ⟨s, hs, hb⟩ := hh
    unfold allSym at h
    rw [List.all_eq_true] at h
    have := sym_small (h s hs)
    simp at hb
    omega
theorem text_read {l : List UInt8} (h : (readOf l).2 = 0) : textOf (readOf l).1 = (l, 0) := by
  unfold readOf at *
  by_cases h4 : 400 < l.length
  · rw [if_pos h4] at h; simp at h
  · rw [if_neg h4] at *
    cases hc : cut l with
    | none => rw [hc] at h; simp at h
    | some ys =>
      rw [hc] at h
      simp only at h ⊢
      by_cases h6 : 60 < ys.length
      · rw [if_pos h6] at h; simp at h
      · rw [if_neg h6]
        obtain ⟨h1, h2⟩ := written_cut _ _ _ hc
        simp only
        unfold textOf
        rw [if_pos (errWord_ok h2 (by simp; omega)), h1, if_neg h4]

end Sp
end Go.Proofs.Ytimjgjhdkinhoaa
