/-
  The errors of a net and a word, plainly.
-/
import Derived.Test.YtnaojfhhjknejaaMgReRowReMem
import Derived.Test.YtnaojfhhjknejaaMgAuZAuZaAuKnAuLa
import Derived.Test.YtnaojfhhjknejaaMgSpecOSpecE
import Derived.Test.YtnaojfhhjknejaaMgTeP
import Derived.Test.YtnaojfhhjknejaaMgReTurn
import Derived.Test.YtnaojfhhjknejaaMgCtCCtP
set_option linter.unusedVariables false
set_option linter.unusedSimpArgs false
namespace Go.Proofs.Ytnaojfhhjknejaa
open Go.RowKit
namespace Nf
/-- The error of a net and a word. -/
noncomputable def errCk (n : Net) (W : List ByteArray) : Int := if errNet n ≠ 0 then errNet n else Sp.errWord W
noncomputable def accSpec (n : Net) (W : List ByteArray) : Bool × Int := if errCk n W ≠ 0 then (false, errCk n W) else (bl (Acc (netGr n) W), 0)
def AccPost (n : Net) (W : List ByteArray) (w : World) (e : Ending) (w' : World) : Prop := e = .returned (.tuple #[.bool (accSpec n W).1, .int .i64 (accSpec n W).2]) ∧ RowKit.Below w.heap.size w w'
theorem errCk_zero {n : Net} {W : List ByteArray} (h : errCk n W = 0) : errNet n = 0 ∧ Sp.errWord W = 0 := by
  unfold errCk at h
  by_cases he : errNet n = 0
  · rw [if_neg (by simpa using he)] at h; exact ⟨he, h⟩
  · rw [if_pos he] at h; exact absurd h he
theorem word_full {W : List ByteArray} (h : Sp.errWord W = 0) : ∀ s ∈ W, s.size ≠ 0 := by
  intro s hs
  have := (Sp.word_small h).2.2
  unfold Sp.allSym at this
  rw [List.all_eq_true] at this
  have := this s hs
  unfold Sp.isSym at this
  simp only [Bool.and_eq_true, decide_eq_true_eq] at this
  omega
theorem word_ne {W : List ByteArray} (h : Sp.errWord W = 0) : ∀ s ∈ W, s ≠ eps := fun s hs e => word_full h s hs (by rw [e]; rfl)
end Nf
end Go.Proofs.Ytnaojfhhjknejaa

/-
  A net that is one is a graph whose states, symbols and ends are good.
-/
set_option linter.unusedVariables false
namespace Go.Proofs.Ytnaojfhhjknejaa
open Go.RowKit
namespace Nf
theorem netGr_ok {w : World} {n : Net} (h : NetAt w n) (he : errNet n = 0) : Ok (netGr n) := by
  have hp := (errNet_pre h he).2.2
  have hne : ∀ s ∈ n.sig, s ≠ eps := fun s hs e => by have h1 := hp.hfull s hs; rw [e] at h1; exact absurd h1 (by decide)
  refine ⟨by show 0 < n.st.toNat; have := hp.hpos; omega, ?_, ?_, ?_, ?_, (Sp.isSet_iff n.sig).2 hp.hasc, hne⟩
  · intro a ha
    obtain ⟨b, hb, rfl⟩ := List.mem_map.1 ha
    have := hp.hf b hb; show b.f.toNat < n.st.toNat; omega
  · intro a ha
    obtain ⟨b, hb, rfl⟩ := List.mem_map.1 ha
    have := hp.ht b hb; show b.t.toNat < n.st.toNat; omega
  · intro a ha
    obtain ⟨b, hb, rfl⟩ := List.mem_map.1 ha
    rcases hp.hsy b hb with h | h
    · exact .inl (size_eps.1 h)
    · exact .inr h
  · intro q hq
    obtain ⟨d, hd, rfl⟩ := List.mem_map.1 hq
    have := hp.hd d hd; show d.s.toNat < n.st.toNat; omega
end Nf
end Go.Proofs.Ytnaojfhhjknejaa

/-
  AutoAgrees, plainly: live states and words; what is longer than there are states goes round; what the lists tell of each other.
-/
set_option linter.unusedVariables false
namespace Go.Proofs.Ytnaojfhhjknejaa
open Go.RowKit
namespace Nf
variable {g : Gr}
theorem live_ex {p f : Nat} (h : Star (Any g) p f) (hf : f ∈ g.ends) : ∃ k, Ex g k p := by
  induction h with
  | refl a => exact ⟨0, a, hf, .refl a⟩
  | step h1 _ ih =>
    obtain ⟨k, hk⟩ := ih hf
    obtain ⟨s, hs⟩ := h1
    by_cases e : s = eps
    · subst e; exact ⟨k, Ex.back hk (.one hs)⟩
    · exact ⟨k + 1, _, _, .refl _, ⟨s, e, hs⟩, hk⟩
theorem ex_lg : ∀ (k q : Nat), Ex g k q → Lg g k q
  | 0, q, ⟨f, h1, h2⟩ => ⟨f, h1, h2.mono fun a b h => ⟨eps, h⟩⟩
  | k + 1, q, ⟨p, r, h1, h2, h3⟩ => ⟨p, r, h1, h2, ex_lg k r h3⟩
theorem lg_down : ∀ (k q : Nat), Lg g (k + 1) q → Lg g k q
  | 0, q, ⟨p, r, h1, ⟨s, _, h2⟩, f, h3, h4⟩ => ⟨f, h3, (h1.mono fun a b h => ⟨eps, h⟩).trans (.step ⟨s, h2⟩ h4)⟩
  | k + 1, q, ⟨p, r, h1, h2, h3⟩ => ⟨p, r, h1, h2, lg_down k r h3⟩
theorem lg_le {j k q : Nat} (h : j ≤ k) (hk : Lg g k q) : Lg g j q := by
  induction k with
  | zero => have : j = 0 := by omega
            subst this; exact hk
  | succ k ih =>
    by_cases e : j = k + 1
    · subst e; exact hk
    · exact ih (by omega) (lg_down k q hk)
theorem ex_word (ok : Ok g) : ∀ (k : Nat) (S : Nat → Prop), (∀ p q, S p → Star (E g) p q → S q) → (∃ p, S p ∧ Ex g k p) → ∃ v : List ByteArray, v.length = k ∧ (∀ s ∈ v, s ∈ g.sig) ∧ ∃ q, Lead g v S q ∧ q ∈ g.ends
  | 0, S, hc, ⟨p, hp, f, hf, hs⟩ => ⟨[], rfl, by simp, f, hc p f hp hs, hf⟩
  | k + 1, S, hc, ⟨p, hp, a, r, h1, ⟨s, hs, h2⟩, h3⟩ => by
    obtain ⟨v, e1, e2, q, e3, e4⟩ := ex_word ok k (StepTo g S s) (fun x y ⟨m, n, k1, k2, k3⟩ hxy => ⟨m, n, k1, k2, k3.trans hxy⟩) ⟨r, ⟨a, r, hc p a hp h1, h2, .refl r⟩, h3⟩
    refine ⟨s :: v, by simp [e1], fun t ht => ?_, q, e3, e4⟩
    rcases List.mem_cons.1 ht with rfl | ht
    · exact (ok.sym _ h2).resolve_left hs
    · exact e2 t ht
theorem ex_W (ok : Ok g) {k : Nat} (h : Ex g k 0) : ∃ v, v ∈ W g k := by
  obtain ⟨v, h1, h2, q, h3, h4⟩ := ex_word ok k (Beg g) beg_closed ⟨0, ⟨0, rfl, .refl 0⟩, h⟩
  exact ⟨v, (W_mem ok k v).2 ⟨h1, h2, q, h4, h3⟩⟩
theorem W_ex {k : Nat} {v : List ByteArray} (h : v ∈ W g k) : Ex g k 0 := by
  unfold W at h
  split at h
  · assumption
  · simp at h
theorem upto_ex {k : Nat} {v : List ByteArray} (h : v ∈ upto g k) : ∃ j, j < k ∧ v ∈ W g j := by
  unfold upto at h
  obtain ⟨j, hj, h⟩ := List.mem_flatMap.1 h
  exact ⟨j, List.mem_range.1 hj, h⟩
/-- No words up to a length, and none longer. -/
theorem none_live (ok : Ok g) (K : Nat) (h : upto g K = []) (hl : ¬ Lg g K 0) : ¬ Live g 0 := by
  rintro ⟨f, hf, hs⟩
  obtain ⟨k, hk⟩ := live_ex hs hf
  by_cases e : k < K
  · obtain ⟨v, hv⟩ := ex_W ok hk
    have : v ∈ upto g K := by unfold upto; exact List.mem_flatMap.2 ⟨k, List.mem_range.2 e, hv⟩
    rw [h] at this
    simp at this
  · exact hl (lg_le (by omega) (ex_lg k 0 hk))
theorem some_live {K : Nat} {v : List ByteArray} (h : v ∈ upto g K) : Live g 0 := by
  obtain ⟨j, _, hj⟩ := upto_ex h
  exact lg_le (Nat.zero_le j) (ex_lg j 0 (W_ex hj))
/-- As many states as a way has steps: it goes round. -/
theorem lg_round (ok : Ok g) (h : Lg g g.N 0) (k : Nat) : Lg g k 0 := by
  let A := fun k => (List.range g.N).filter fun q => bl (Lg g k q)
  have key : ∀ m, (∃ k, k < m ∧ ∀ q, q < g.N → Lg g k q → Lg g (k + 1) q) ∨ (A m).length + m ≤ g.N := by
    intro m
    induction m with
    | zero => right; have := List.length_filter_le (fun q => bl (Lg g 0 q)) (List.range g.N); rw [List.length_range] at this; exact this
    | succ m ih =>
      rcases ih with ⟨k, hk, h⟩ | ih
      · exact .inl ⟨k, by omega, h⟩
      · by_cases hs : ∀ q, q < g.N → Lg g m q → Lg g (m + 1) q
        · exact .inl ⟨m, by omega, hs⟩
        · right
          have e : A (m + 1) = (A m).filter fun q => bl (Lg g (m + 1) q) := by
            show (List.range g.N).filter _ = ((List.range g.N).filter _).filter _
            rw [List.filter_filter]
            refine List.filter_congr fun q _ => ?_
            by_cases hq : Lg g (m + 1) q
            · rw [bl_true hq, bl_true (lg_down m q hq)]; rfl
            · rw [bl_false hq]; rfl
          have hlt : (A (m + 1)).length < (A m).length := by
            refine Nat.lt_of_le_of_ne (by rw [e]; exact List.length_filter_le _ _) fun hl => hs fun q hq h1 => ?_
            have h2 : q ∈ A m := List.mem_filter.2 ⟨List.mem_range.2 hq, bl_true h1⟩
            have h3 : A (m + 1) = A m := (by rw [e]; exact List.filter_sublist : (A (m + 1)).Sublist (A m)).eq_of_length hl
            rw [← h3] at h2
            exact bl_iff.1 (List.mem_filter.1 h2).2
          omega
  rcases key (g.N + 1) with ⟨m, hm, hs⟩ | hc
  · have up : ∀ j, m ≤ j → ∀ q, q < g.N → Lg g j q → Lg g (j + 1) q := by
      intro j hj
      induction j with
      | zero => have : m = 0 := by omega
                subst this; exact hs
      | succ j ih =>
        by_cases e : m = j + 1
        · subst e; exact hs
        · rintro q hq ⟨p, r, h1, ⟨s, h2, h3⟩, h4⟩
          exact ⟨p, r, h1, ⟨s, h2, h3⟩, ih (by omega) r (ok.to_ _ h3) h4⟩
    have all : ∀ j, Lg g (g.N + j) 0 := by
      intro j
      induction j with
      | zero => exact h
      | succ j ih => exact up (g.N + j) (by omega) 0 ok.pos ih
    by_cases e : k ≤ g.N
    · exact lg_le e h
    · have := all (k - g.N)
      rwa [show g.N + (k - g.N) = k by omega] at this
  · omega
/-- How many of a list have a length. -/
def many (L : List (List ByteArray)) (k : Nat) : Nat := (L.filter fun v => v.length == k).length
theorem many_W (K j : Nat) : many (W g j) K = if j = K then (W g j).length else 0 := by
  unfold many
  by_cases e : j = K
  · rw [if_pos e, List.filter_eq_self.2 fun v hv => by rw [W_len hv]; simpa using e]
  · rw [if_neg e, List.filter_eq_nil_iff.2 fun v hv => by rw [W_len hv]; simpa using e]; rfl
theorem many_upto (K : Nat) : ∀ k, many (upto g k) K = if K < k then (W g K).length else 0
  | 0 => by simp [upto, many]
  | k + 1 => by
    have e : many (upto g (k + 1)) K = many (upto g k) K + many (W g k) K := by rw [upto_succ]; unfold many; rw [List.filter_append, List.length_append]
    rw [e, many_upto K k, many_W]
    by_cases h1 : K < k
    · rw [if_pos h1, if_neg (by omega), if_pos (by omega)]; omega
    · by_cases h2 : k = K
      · subst h2; rw [if_neg h1, if_pos rfl, if_pos (by omega)]; omega
      · rw [if_neg h1, if_neg h2, if_neg (by omega)]
/-- What is told of a net in several ways: the words listed, the first one, whether they are finitely many. -/
theorem agree_empty {L : List (List ByteArray)} {more : Bool} (ok : Ok g) (h : (L, more, (0 : Int)) = firstSpec g 200) : L = [] ↔ ¬ Live g 0 := by
  unfold firstSpec at h
  by_cases c1 : 200 < (upto g 61).length
  · rw [if_pos c1] at h
    simp only [Prod.mk.injEq] at h
    obtain ⟨rfl, _, _⟩ := h
    constructor
    · intro e
      have := congrArg List.length e
      rw [List.length_take, List.length_nil] at this
      omega
    · intro hn
      obtain ⟨v, hv⟩ : ∃ v, v ∈ upto g 61 := List.exists_mem_of_length_pos (by omega)
      exact absurd (some_live hv) hn
  · rw [if_neg c1] at h
    by_cases c2 : Lg g 61 0 ∧ (upto g 61).length < 200
    · rw [if_pos c2] at h; simp at h
    · rw [if_neg c2] at h
      simp only [Prod.mk.injEq] at h
      obtain ⟨rfl, _, _⟩ := h
      constructor
      · intro e
        exact none_live ok 61 e fun hl => c2 ⟨hl, by rw [e]; decide⟩
      · intro hn
        cases hU : upto g 61 with
        | nil => rfl
        | cons v r => exact absurd (some_live (g := g) (K := 61) (v := v) (by rw [hU]; simp)) hn
theorem agree_first {L L1 : List (List ByteArray)} {more more1 : Bool} (h : (L, more, (0 : Int)) = firstSpec g 200) (h1 : (L1, more1, (0 : Int)) = firstSpec g 1) : L1[0]? = L[0]? := by
  have take0 : ∀ (U : List (List ByteArray)) (k : Nat), 0 < k → (U.take k)[0]? = U[0]? := fun U k hk => by rw [List.getElem?_take, if_pos hk]
  have key : ∀ (m : Nat) (M : List (List ByteArray)) (b : Bool), 0 < m → (M, b, (0 : Int)) = firstSpec g m → M[0]? = (upto g 61)[0]? := by
    intro m M b hm h
    unfold firstSpec at h
    split at h
    · simp only [Prod.mk.injEq] at h; rw [h.1, take0 _ _ hm]
    · split at h
      · simp at h
      · simp only [Prod.mk.injEq] at h; rw [h.1]
  rw [key 200 L more (by decide) h, key 1 L1 more1 (by decide) h1]
theorem agree_done {L : List (List ByteArray)} (ok : Ok g) (h : (L, false, (0 : Int)) = firstSpec g 200) : ¬ Lg g g.N 0 ∧ L.length ≤ 200 ∧ (∀ v ∈ L, v.length ≤ 60) ∧ ∀ k, k ≤ 60 → cutC (W g k).length = many L k := by
  unfold firstSpec at h
  by_cases c1 : 200 < (upto g 61).length
  · rw [if_pos c1] at h; simp at h
  · rw [if_neg c1] at h
    by_cases c2 : Lg g 61 0 ∧ (upto g 61).length < 200
    · rw [if_pos c2] at h; simp at h
    · rw [if_neg c2] at h
      simp only [Prod.mk.injEq] at h
      obtain ⟨rfl, h2, _⟩ := h
      refine ⟨fun hl => ?_, by omega, fun v hv => ?_, fun k hk => ?_⟩
      · rw [bl_true (lg_round ok hl 61)] at h2
        cases h2
      · obtain ⟨j, hj, hm⟩ := upto_ex hv
        have := W_len hm
        omega
      · have e := many_upto (g := g) k 61
        rw [if_pos (by omega)] at e
        rw [e]
        have : many (upto g 61) k ≤ (upto g 61).length := List.length_filter_le _ _
        unfold cutC
        omega
end Nf
end Go.Proofs.Ytnaojfhhjknejaa
