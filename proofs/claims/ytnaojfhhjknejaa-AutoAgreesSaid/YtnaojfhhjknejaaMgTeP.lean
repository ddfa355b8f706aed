/-
  The words listed, plainly: they are the accepted ones, in shortlex order.
-/
import Derived.Test.YtnaojfhhjknejaaMgReRowReMem
import Derived.Test.YtnaojfhhjknejaaMgAuY
import Derived.Test.YtnaojfhhjknejaaMgSpecOSpecE
set_option linter.unusedVariables false
namespace Go.Proofs.Ytnaojfhhjknejaa
namespace Nf
variable {g : Gr}
theorem lead_ex : ∀ (v : List ByteArray) (S : Nat → Prop) (q : Nat), (∀ s ∈ v, s ≠ eps) → Lead g v S q → Fin0 g q → ∃ p, S p ∧ Ex g v.length p
  | [], S, q, _, h, k => ⟨q, h, k⟩
  | s :: v, S, q, hs, h, k => by
    obtain ⟨r, ⟨p, a, h1, h2, h3⟩, h4⟩ := lead_ex v (StepTo g S s) q (fun t ht => hs t (by simp [ht])) h k
    exact ⟨p, h1, p, a, .refl p, ⟨s, hs s (by simp), h2⟩, Ex.back h4 h3⟩
theorem lead_closed : ∀ (v : List ByteArray) (S : Nat → Prop), (∀ p q, S p → Star (E g) p q → S q) → ∀ p q, Lead g v S p → Star (E g) p q → Lead g v S q
  | [], S, hc, p, q, h, k => hc p q h k
  | s :: v, S, hc, p, q, h, k => lead_closed v (StepTo g S s) (fun a b ⟨x, y, h1, h2, h3⟩ hs => ⟨x, y, h1, h2, h3.trans hs⟩) p q h k
theorem lead_sig (ok : Ok g) : ∀ (v : List ByteArray) (S : Nat → Prop) (q : Nat), (∀ s ∈ v, s ≠ eps) → Lead g v S q → ∀ s ∈ v, s ∈ g.sig
  | [], S, q, _, _, s, hs => by simp at hs
  | t :: v, S, q, hne, h, s, hs => by
    have hv : ∀ x ∈ v, x ≠ eps := fun x hx => hne x (by simp [hx])
    rcases List.mem_cons.1 hs with rfl | hs
    · have h' : ∃ p, StepTo g S s p := by
        clear hs
        have key : ∀ (u : List ByteArray) (T : Nat → Prop) (q : Nat), Lead g u T q → ∃ p, T p := by
          intro u
          induction u with
          | nil => intro T q h; exact ⟨q, h⟩
          | cons x u ih =>
            intro T q h
            obtain ⟨p, a, b, h1, _, _⟩ := ih (StepTo g T x) q h
            exact ⟨a, h1⟩
        exact key v (StepTo g S s) q h
      obtain ⟨p, a, b, _, h2, _⟩ := h'
      exact (ok.sym _ h2).resolve_left (hne s (by simp))
    · exact lead_sig ok v (StepTo g S t) q hv h s hs
theorem F_mem (hf : ∀ s ∈ g.sig, s ≠ eps) : ∀ (k : Nat) (S : Nat → Prop) (v : List ByteArray), (∃ q, S q ∧ Ex g k q) → (v ∈ F g k S ↔ v.length = k ∧ (∀ s ∈ v, s ∈ g.sig) ∧ ∃ q, Lead g v S q ∧ Fin0 g q)
  | 0, S, v, hx => by
    simp only [F, List.mem_singleton]
    constructor
    · rintro rfl
      obtain ⟨q, h1, h2⟩ := hx
      exact ⟨rfl, by simp, q, h1, h2⟩
    · rintro ⟨h, _⟩
      exact List.length_eq_zero_iff.1 h
  | k + 1, S, v, hx => by
    simp only [F, List.mem_flatMap]
    constructor
    · rintro ⟨s, hs, h⟩
      split at h
      · rename_i hc
        rw [F_cut hf] at h
        obtain ⟨u, hu, rfl⟩ := List.mem_map.1 h
        obtain ⟨h1, h2, h3⟩ := (F_mem hf k (StepTo g S s) u hc).1 hu
        refine ⟨by simp [h1], fun t ht => ?_, h3⟩
        rcases List.mem_cons.1 ht with rfl | ht
        · exact hs
        · exact h2 t ht
      · simp at h
    · rintro ⟨h1, h2, q, h3, h4⟩
      match v, h1, h2, h3 with
      | s :: u, h1, h2, h3 =>
        have hl : u.length = k := by simpa using h1
        have hs : s ∈ g.sig := h2 s (by simp)
        have hu : ∀ t ∈ u, t ∈ g.sig := fun t ht => h2 t (by simp [ht])
        have hc : ∃ q, StepTo g S s q ∧ Ex g k q := by
          rw [← hl]
          exact lead_ex u (StepTo g S s) q (fun t ht => hf t (hu t ht)) h3 h4
        refine ⟨s, hs, ?_⟩
        rw [if_pos hc, F_cut hf]
        exact List.mem_map.2 ⟨u, (F_mem hf k (StepTo g S s) u hc).2 ⟨hl, hu, q, h3, h4⟩, rfl⟩
theorem W_mem (ok : Ok g) (k : Nat) (v : List ByteArray) : v ∈ W g k ↔ v.length = k ∧ (∀ s ∈ v, s ∈ g.sig) ∧ Acc g v := by
  have hf := ok.full
  have hacc : ∀ v : List ByteArray, Acc g v ↔ ∃ q, Lead g v (Beg g) q ∧ Fin0 g q := fun v => by
    constructor
    · rintro ⟨q, h1, h2⟩; exact ⟨q, h2, q, h1, .refl q⟩
    · rintro ⟨q, h1, f, h2, h3⟩; exact ⟨f, h2, lead_closed v _ beg_closed q f h1 h3⟩
  unfold W
  by_cases hx : Ex g k 0
  · rw [if_pos hx, F_mem hf k (Beg g) v ⟨0, ⟨0, rfl, .refl 0⟩, hx⟩, hacc]
  · rw [if_neg hx]
    constructor
    · intro h; simp at h
    · rintro ⟨h1, h2, h3⟩
      obtain ⟨q, h4, h5⟩ := (hacc v).1 h3
      obtain ⟨p, ⟨a, rfl, hb⟩, h6⟩ := lead_ex v (Beg g) q (fun s hs => hf s (h2 s hs)) h4 h5
      rw [h1] at h6
      exact absurd (Ex.back h6 hb) hx
theorem upto_mem (ok : Ok g) (k : Nat) (v : List ByteArray) : v ∈ upto g k ↔ v.length < k ∧ (∀ s ∈ v, s ∈ g.sig) ∧ Acc g v := by
  unfold upto
  rw [List.mem_flatMap]
  constructor
  · rintro ⟨j, hj, h⟩
    obtain ⟨h1, h2, h3⟩ := (W_mem ok j v).1 h
    exact ⟨by have := List.mem_range.1 hj; omega, h2, h3⟩
  · rintro ⟨h1, h2, h3⟩
    exact ⟨v.length, List.mem_range.2 h1, (W_mem ok _ v).2 ⟨rfl, h2, h3⟩⟩
theorem F_asc (ha : Sp.Asc g.sig) : ∀ (k : Nat) (S : Nat → Prop), (F g k S).Pairwise fun a b => Sp.ord a b = -1
  | 0, S => by simp [F]
  | k + 1, S => by
    simp only [F]
    rw [List.pairwise_flatMap]
    constructor
    · intro s _
      split
      · rw [List.pairwise_map]
        exact (F_asc ha k _).imp fun {a b} h => by rw [show s :: a = [s] ++ a from rfl, show s :: b = [s] ++ b from rfl, Sp.ord_pre]; exact h
      · exact List.Pairwise.nil
    · refine List.Pairwise.imp (fun {s t} hst x hx y hy => ?_) ha
      split at hx
      · split at hy
        · obtain ⟨u, _, rfl⟩ := List.mem_map.1 hx
          obtain ⟨z, _, rfl⟩ := List.mem_map.1 hy
          exact Sp.ord_lt (k := 0) rfl rfl rfl hst
        · simp at hy
      · simp at hx
theorem W_len {k : Nat} {v : List ByteArray} (h : v ∈ W g k) : v.length = k := by
  unfold W at h
  split at h
  · exact F_mem_len h
  · simp at h
theorem upto_asc (ha : Sp.Asc g.sig) (k : Nat) : (upto g k).Pairwise fun a b => Sp.cmp a b = -1 := by
  unfold upto
  rw [List.pairwise_flatMap]
  constructor
  · intro j _
    have h : (W g j).Pairwise fun a b => Sp.ord a b = -1 := by
      unfold W
      split
      · exact F_asc ha j _
      · exact List.Pairwise.nil
    refine List.Pairwise.imp_of_mem (fun {a b} h1 h2 h => ?_) h
    unfold Sp.cmp
    rw [W_len h1, W_len h2, if_neg (by omega), if_neg (by omega)]
    exact h
  · refine List.Pairwise.imp (fun {i j} hij x hx y hy => ?_) List.pairwise_lt_range
    unfold Sp.cmp
    rw [W_len hx, W_len hy, if_pos hij]
end Nf
end Go.Proofs.Ytnaojfhhjknejaa
