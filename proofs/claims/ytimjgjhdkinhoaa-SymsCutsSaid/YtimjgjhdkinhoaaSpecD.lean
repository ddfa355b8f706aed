/-
  What Split and Cuts say of one another, plainly.
-/
import Derived.Test.YtimjgjhdkinhoaaSpecC
set_option linter.unusedVariables false
namespace Go.Proofs.Ytimjgjhdkinhoaa
namespace Sp

theorem splitOf_err {l : List UInt8} {sig : List ByteArray} (h : (splitOf l sig).2.2 = 0) : errAlpha sig = 0 ∧ l.length ≤ 400 ∧ ∃ xs, splitR sig (l.length + 1) l 0 [] = (xs, none) ∧ xs.length ≤ 60 ∧ splitOf l sig = (xs, 0, 0) := by
  unfold splitOf at h ⊢
  by_cases he : errAlpha sig = 0
  · rw [if_pos he] at h ⊢
    by_cases h4 : 400 < l.length
    · rw [if_pos h4] at h; simp at h
    · rw [if_neg h4] at h ⊢
      refine ⟨he, by omega, ?_⟩
      cases hr : splitR sig (l.length + 1) l 0 [] with
      | mk a o =>
        rw [hr] at h
        cases o with
        | some k => simp at h
        | none =>
          simp only at h ⊢
          by_cases h6 : 60 < a.length
          · rw [if_pos h6] at h; simp at h
          · exact ⟨a, rfl, by omega, by rw [if_neg h6]⟩
  · rw [if_neg he] at h
    exact absurd h he
theorem fold_ge {l : List UInt8} {t : List Int} (ht : ∀ v ∈ t, 0 ≤ v ∧ v ≤ 1000000000) : ∀ (sig : List ByteArray) (acc : Int), 0 ≤ acc → acc ≤ 1000000000 → acc ≤ sig.foldl (cut1 l t) acc
  | [], acc, _, _ => Int.le_refl _
  | x :: r, acc, h0, h1 => by
    simp only [List.foldl_cons]
    have hd := getD_bd ht (x.size - 1)
    have h2 : acc ≤ cut1 l t acc x ∧ cut1 l t acc x ≤ 1000000000 := by
      unfold cut1
      split
      · unfold cap1; split <;> omega
      · omega
    exact Int.le_trans h2.1 (fold_ge ht r _ (by omega) h2.2)
theorem fold_one {l : List UInt8} {t : List Int} (ht : ∀ v ∈ t, 0 ≤ v ∧ v ≤ 1000000000) {x : ByteArray} (hp : pre l x = true) (hv : 1 ≤ t.getD (x.size - 1) 0) : ∀ (sig : List ByteArray) (acc : Int), x ∈ sig → 0 ≤ acc → acc ≤ 1000000000 → 1 ≤ sig.foldl (cut1 l t) acc
  | [], _, h, _, _ => by cases h
  | y :: r, acc, h, h0, h1 => by
    simp only [List.foldl_cons]
    have hd := getD_bd ht (y.size - 1)
    have h2 : 0 ≤ cut1 l t acc y ∧ cut1 l t acc y ≤ 1000000000 := by
      unfold cut1
      split
      · exact ⟨cap1_ge (by omega), cap1_le _⟩
      · omega
    by_cases e : x = y
    · subst e
      refine Int.le_trans ?_ (fold_ge ht r _ h2.1 h2.2)
      unfold cut1
      rw [if_pos hp]
      unfold cap1; split <;> omega
    · exact fold_one ht hp hv r _ (by cases h with | head => exact absurd rfl e | tail _ h => exact h) h2.1 h2.2
/-- A text that is cut has a way. -/
theorem ways_pos {sig : List ByteArray} (hs : ∀ x ∈ sig, 1 ≤ x.size) : ∀ (f : Nat) (l : List UInt8) (k : Nat) (acc xs : List ByteArray), splitR sig f l k acc = (xs, none) → l.length < f → 1 ≤ (ways sig l).getD 0 0
  | 0, _, _, _, _, _, h => by omega
  | f + 1, l, k, acc, xs, h, hf => by
    simp only [splitR] at h
    cases l with
    | nil => simp [ways]
    | cons c r =>
      rw [if_neg (by simp)] at h
      by_cases h0 : (longF (c :: r) sig).size = 0
      · rw [if_pos h0] at h; simp at h
      · rw [if_neg h0] at h
        have hm := longF_mem h0
        have hle := pre_le hm.2
        have ih := ways_pos hs f _ _ _ _ h (by simp only [List.length_drop]; omega)
        generalize longF (c :: r) sig = x at *
        have hx := hs x hm.1
        have e : (c :: r).drop x.size = r.drop (x.size - 1) := by
          rw [show x.size = (x.size - 1) + 1 by omega]; simp
        rw [e, ← ways_getD _ _ _ (by simp at hle ⊢; omega)] at ih
        simp only [ways]
        simpa using fold_one (ways_bd sig r) hm.2 ih sig 0 hm.1 (by omega) (by omega)
theorem splitR_parts {sig : List ByteArray} : ∀ (f : Nat) (l : List UInt8) (k : Nat) (acc xs : List ByteArray), splitR sig f l k acc = (xs, none) → l.length < f → joined xs = joined acc ++ l ∧ ∀ x ∈ xs, x ∈ acc ∨ x ∈ sig
  | 0, _, _, _, _, _, h => by omega
  | f + 1, l, k, acc, xs, h, hf => by
    simp only [splitR] at h
    by_cases hl : l = []
    · rw [if_pos hl] at h
      simp at h
      subst h hl
      exact ⟨by simp, fun x hx => Or.inl hx⟩
    · rw [if_neg hl] at h
      by_cases h0 : (longF l sig).size = 0
      · rw [if_pos h0] at h; simp at h
      · rw [if_neg h0] at h
        have hm := longF_mem h0
        have hle := pre_le hm.2
        obtain ⟨h1, h2⟩ := splitR_parts f _ _ _ _ h (by simp; omega)
        refine ⟨?_, fun x hx => ?_⟩
        · rw [h1, joined_snoc, List.append_assoc, pre_take hm.2, List.take_append_drop]
        · rcases h2 x hx with h | h
          · rw [List.mem_append] at h
            cases h with
            | inl h => exact Or.inl h
            | inr h => simp at h; rw [h]; exact Or.inr hm.1
          · exact Or.inr h
theorem split_raw {l : List UInt8} {sig : List ByteArray} (h : (splitOf l sig).2.2 = 0) : rawOf (splitOf l sig).1 = (l, 0) ∧ (∀ x ∈ (splitOf l sig).1, x ∈ sig) ∧ (cutsOf l sig).2 = 0 ∧ 1 ≤ (cutsOf l sig).1 := by
  obtain ⟨he, h4, xs, hr, h6, hs⟩ := splitOf_err h
  obtain ⟨h40, hsm, hsy, _⟩ := alpha_small he
  obtain ⟨hj, hmem⟩ := splitR_parts _ _ _ _ _ hr (by omega)
  have hin : ∀ x ∈ xs, x ∈ sig := fun x hx => by
    rcases hmem x hx with h | h
    · cases h
    · exact h
  rw [hs]
  have hall : allSym xs = true := by
    unfold allSym at hsy ⊢
    rw [List.all_eq_true] at hsy ⊢
    exact fun x hx => hsy x (hin x hx)
  have hw : errWord xs = 0 := by
    unfold errWord
    rw [if_neg, if_pos hall]
    intro hh
    cases hh with
    | inl hh => omega
    | inr hh =>
      unfold anyLong at hh
      rw [List.any_eq_true] at hh
      obtain ⟨s, hs, hb⟩ := hh
      have := hsm s (hin s hs)
      simp at hb; omega
  have h1 : ∀ x ∈ sig, 1 ≤ x.size := fun x hx => by
    unfold allSym at hsy
    rw [List.all_eq_true] at hsy
    have := hsy x hx
    simp only [isSym, Bool.and_eq_true, decide_eq_true_eq] at this
    exact this.1.1
  refine ⟨?_, hin, ?_, ?_⟩
  · unfold rawOf; rw [if_pos hw]; simp only [hj]; simp [joined]
  · unfold cutsOf; rw [if_pos he, if_neg (by omega)]
  · unfold cutsOf; rw [if_pos he, if_neg (by omega)]
    simpa [wayAt] using ways_pos h1 _ _ _ _ _ hr (by omega)

/-- Symbols of one byte each. -/
theorem pre_one {c : UInt8} {r : List UInt8} {x : ByteArray} (hx : x.size = 1) : pre (c :: r) x = true ↔ x.data.toList = [c] := by
  have hl : x.data.toList.length = 1 := by simpa using hx
  constructor
  · intro h
    have := pre_take h
    rw [hx] at this
    simpa using this
  · intro h
    unfold pre Lib.hasPrefix
    rw [h]; simp
theorem fold_none {l : List UInt8} {t : List Int} : ∀ (sig : List ByteArray) (acc : Int), (∀ x ∈ sig, pre l x = false) → sig.foldl (cut1 l t) acc = acc
  | [], _, _ => rfl
  | x :: r, acc, h => by
    simp only [List.foldl_cons, cut1_no (h x List.mem_cons_self)]
    exact fold_none r acc (fun y hy => h y (List.mem_cons_of_mem _ hy))
theorem fold_just {c : UInt8} {r : List UInt8} {t : List Int} (h1 : ∀ v ∈ t, 0 ≤ v ∧ v ≤ 1000000000) : ∀ (sig : List ByteArray), sig.Nodup → (∀ x ∈ sig, x.size = 1) → (∃ x ∈ sig, pre (c :: r) x = true) → sig.foldl (cut1 (c :: r) t) 0 = t.getD 0 0
  | [], _, _, h => by obtain ⟨x, hx, _⟩ := h; cases hx
  | y :: sig, hn, hs, h => by
    simp only [List.foldl_cons]
    by_cases hp : pre (c :: r) y = true
    · have hy := (pre_one (hs y List.mem_cons_self)).1 hp
      have e : cut1 (c :: r) t 0 y = t.getD 0 0 := by
        have hb := getD_bd h1 0
        unfold cut1
        rw [if_pos hp, hs y List.mem_cons_self]
        unfold cap1
        simp only [Nat.sub_self, Int.zero_add]
        rw [if_pos hb.2]
      rw [e]
      refine fold_none sig _ fun x hx => ?_
      cases hh : pre (c :: r) x with
      | false => rfl
      | true =>
        have hx1 := (pre_one (hs x (List.mem_cons_of_mem _ hx))).1 hh
        have : x = y := by rw [← mk_self' x, ← mk_self' y, hx1, hy]
        subst this
        exact absurd hx (List.nodup_cons.1 hn).1
    · have hp' : pre (c :: r) y = false := by simpa using hp
      rw [cut1_no hp']
      refine fold_just h1 sig (List.nodup_cons.1 hn).2 (fun x hx => hs x (List.mem_cons_of_mem _ hx)) ?_
      obtain ⟨x, hx, hpx⟩ := h
      cases hx with
      | head => exact absurd hpx hp
      | tail _ hx => exact ⟨x, hx, hpx⟩
where
  mk_self' (s : ByteArray) : mk s.data.toList = s := (mk_eq rfl).symm

theorem isSet_pairwise : ∀ {l : List ByteArray}, isSet l = true → l.Pairwise fun a b => less a b = true
  | [], _ => List.Pairwise.nil
  | [a], _ => List.pairwise_singleton _ _
  | a :: b :: r, h => by
    simp only [isSet, Bool.and_eq_true] at h
    have ih := isSet_pairwise h.2
    refine List.Pairwise.cons (fun x hx => ?_) ih
    cases hx with
    | head => exact h.1
    | tail _ hx => exact less_trans h.1 ((List.pairwise_cons.1 ih).1 x hx)
theorem isSet_nodup {l : List ByteArray} (h : isSet l = true) : l.Nodup :=
  (isSet_pairwise h).imp fun hab e => by subst e; rw [less_irrefl] at hab; simp at hab
theorem longF_one {c : UInt8} {r : List UInt8} {sig : List ByteArray} (hs : ∀ x ∈ sig, x.size = 1) (h : ∃ x ∈ sig, pre (c :: r) x = true) : (longF (c :: r) sig).size = 1 := by
  have hne : (longF (c :: r) sig).size ≠ 0 := by
    obtain ⟨x, hx, hp⟩ := h
    have : ∀ (sig : List ByteArray) (b : ByteArray), x ∈ sig ∨ 1 ≤ b.size → (∀ y ∈ sig, y.size = 1) → 1 ≤ (sig.foldl (best1 (c :: r)) b).size := by
      intro sig
      induction sig with
      | nil => intro b hb _; cases hb with
        | inl h => cases h
        | inr h => exact h
      | cons y sig ih =>
        intro b hb hy
        simp only [List.foldl_cons]
        refine ih _ ?_ (fun z hz => hy z (List.mem_cons_of_mem _ hz))
        by_cases e : x ∈ sig
        · exact Or.inl e
        · right
          by_cases hb0 : 1 ≤ b.size
          · unfold best1; split
            · have := hy y List.mem_cons_self; omega
            · exact hb0
          · have hxy : x = y := by
              cases hb with
              | inl h => cases h with
                | head => rfl
                | tail _ h => exact absurd h e
              | inr h => omega
            subst hxy
            have hx1 := hy x List.mem_cons_self
            rw [best1_yes (by omega) hp, hx1]
            exact Nat.le_refl 1
    have := this sig ⟨#[]⟩ (Or.inl hx) hs
    unfold longF; omega
  exact hs _ (longF_mem hne).1
/-- Symbols of one byte: one way or none, and none just if no symbol fits at some place. -/
theorem single {sig : List ByteArray} (hs : ∀ x ∈ sig, x.size = 1) (hn : sig.Nodup) : ∀ (l : List UInt8) (f k : Nat) (acc : List ByteArray), l.length < f →
    ((ways sig l).getD 0 0 = 1 ∧ ∃ a, splitR sig f l k acc = (a, none)) ∨ ((ways sig l).getD 0 0 = 0 ∧ ∃ k', splitR sig f l k acc = ([], some k'))
  | [], 0, _, _, h => by simp at h
  | [], f + 1, k, acc, _ => Or.inl ⟨by simp [ways], acc, by simp [splitR]⟩
  | c :: r, 0, _, _, h => by simp at h
  | c :: r, f + 1, k, acc, h => by
    by_cases hx : ∃ x ∈ sig, pre (c :: r) x = true
    · have h1 := longF_one hs hx
      have hw : (ways sig (c :: r)).getD 0 0 = (ways sig r).getD 0 0 := by
        simp only [ways, List.getD_cons_zero]
        exact fold_just (ways_bd sig r) sig hn hs hx
      have e : splitR sig (f + 1) (c :: r) k acc = splitR sig f r (k + 1) (acc ++ [longF (c :: r) sig]) := by
        rw [splitR, if_neg (by simp), h1, if_neg (by omega)]
        simp
      rw [hw, e]
      exact single hs hn r f _ _ (by simp at h; omega)
    · right
      have hno : ∀ x ∈ sig, pre (c :: r) x = false := fun x hx2 => by
        cases hh : pre (c :: r) x with
        | false => rfl
        | true => exact absurd ⟨x, hx2, hh⟩ hx
      refine ⟨?_, k, ?_⟩
      · simp only [ways, List.getD_cons_zero]
        exact fold_none sig 0 hno
      · rw [splitR, if_neg (by simp), if_pos]
        by_cases h0 : (longF (c :: r) sig).size = 0
        · exact h0
        · have hm := longF_mem h0
          rw [hno _ hm.1] at hm
          exact absurd hm.2 (by simp)
theorem cuts_single {l : List UInt8} {sig : List ByteArray} (hc : (cutsOf l sig).2 = 0) (hs : ∀ x ∈ sig, x.size = 1) : (cutsOf l sig).1 = 1 ∨ ((cutsOf l sig).1 = 0 ∧ (splitOf l sig).2.2 = 4) := by
  unfold cutsOf at hc ⊢
  by_cases he : errAlpha sig = 0
  · rw [if_pos he] at hc ⊢
    by_cases h4 : 400 < l.length
    · rw [if_pos h4] at hc; simp at hc
    · rw [if_neg h4]
      obtain ⟨_, _, _, hset⟩ := alpha_small he
      have e : wayAt sig l 0 = (ways sig l).getD 0 0 := by simp [wayAt]
      simp only [e]
      rcases single hs (isSet_nodup hset) l (l.length + 1) 0 [] (by omega) with ⟨h1, _⟩ | ⟨h1, k', h2⟩
      · exact Or.inl h1
      · exact Or.inr ⟨h1, by rw [splitOf_bad he h4 h2]⟩
  · rw [if_neg he] at hc; exact absurd hc he

end Sp
end Go.Proofs.Ytimjgjhdkinhoaa
