/-
  The words listed, plainly: they are the accepted ones, in shortlex order.
-/
import Derived.Test.YtnkpgcmjnbgodaaMgReRowReMem
import Derived.Test.YtnkpgcmjnbgodaaMgAuY
import Derived.Test.YtnkpgcmjnbgodaaMgSpecOSpecE
import Derived.Test.YtnkpgcmjnbgodaaMgReAcc
import Derived.Test.YtnkpgcmjnbgodaaMgReTurnReClMReSortReNg
set_option linter.unusedVariables false
namespace Go.Proofs.Ytnkpgcmjnbgodaa
namespace Nf
variable {g : Gr}
theorem lead_ex : ∀ (v : List ByteArray) (S : Nat → Prop) (q : Nat), (∀ s ∈ v, s ≠ eps) → Lead g v S q → Fin0 g q → ∃ p, S p ∧ Ex g v.length p
  | [], S, q, _, h, k => ⟨q, h, k⟩
  | s :: v, S, q, hs, h, k => by
    obtain ⟨r, ⟨p, a, h1, h2, h3⟩, h4⟩ := lead_ex v (StepTo g S s) q (fun t ht => hs t (by simp [ht])) h k
    exact ⟨p, h1, p, a, .refl p, ⟨s, hs s (by simp), h2⟩, Ex.back h4 h3⟩
theorem lead_closed : ∀ (v : List ByteArray) (S : Nat → Prop), (∀ p q, S p → Star (E g) p q → S q) → ∀ p q, Lead g v S p → Star (E g) p q → Lead g v S q
  | [], S, hc, p, q, h, k => hc p q h k
  | s :: v, S, hc, p, q, h, k => lead_closed v (StepTo g S s) (fun a b ⟨x, y, h1, h2, h3⟩ hs => ⟨x, y, h1, h2, h3.trans hs⟩) p q h k
theorem lead_sig (ok : Ok g) : ∀ (v : List ByteArray) (S : Nat → Prop) (q : Nat), (∀ s ∈ v, s ≠ eps) → Lead g v S q → ∀ s ∈ v, s ∈ g.sig
  | [], S, q, _, _, s, hs => by simp at hs
  | t :: v, S, q, hne, h, s, hs => by
    have hv : ∀ x ∈ v, x ≠ eps := fun x hx => hne x (by simp [hx])
    rcases List.mem_cons.1 hs with rfl | hs
    · have h' : ∃ p, StepTo g S s p := by
        clear hs
        have key : ∀ (u : List ByteArray) (T : Nat → Prop) (q : Nat), Lead g u T q → ∃ p, T p := by
          intro u
          induction u with
          | nil => intro T q h; exact ⟨q, h⟩
          | cons x u ih =>
            intro T q h
            obtain ⟨p, a, b, h1, _, _⟩ := ih (StepTo g T x) q h
            exact ⟨a, h1⟩
        exact key v (StepTo g S s) q h
      obtain ⟨p, a, b, _, h2, _⟩ := h'
      exact (ok.sym _ h2).resolve_left (hne s (by simp))
    · exact lead_sig ok v (StepTo g S t) q hv h s hs
theorem F_mem (hf : ∀ s ∈ g.sig, s ≠ eps) : ∀ (k : Nat) (S : Nat → Prop) (v : List ByteArray), (∃ q, S q ∧ Ex g k q) → (v ∈ F g k S ↔ v.length = k ∧ (∀ s ∈ v, s ∈ g.sig) ∧ ∃ q, Lead g v S q ∧ Fin0 g q)
  | 0, S, v, hx => by
    simp only [F, List.mem_singleton]
    constructor
    · rintro rfl
      obtain ⟨q, h1, h2⟩ := hx
      exact ⟨rfl, by simp, q, h1, h2⟩
    · rintro ⟨h, _⟩
      exact List.length_eq_zero_iff.1 h
  | k + 1, S, v, hx => by
    simp only [F, List.mem_flatMap]
    constructor
    · rintro ⟨s, hs, h⟩
      split at h
      · rename_i hc
        rw [F_cut hf] at h
        obtain ⟨u, hu, rfl⟩ := List.mem_map.1 h
        obtain ⟨h1, h2, h3⟩ := (F_mem hf k (StepTo g S s) u hc).1 hu
        refine ⟨by simp [h1], fun t ht => ?_, h3⟩
        rcases List.mem_cons.1 ht with rfl | ht
        · exact hs
        · exact h2 t ht
      · simp at h
    · rintro ⟨h1, h2, q, h3, h4⟩
      match v, h1, h2, h3 with
      | s :: u, h1, h2, h3 =>
        have hl : u.length = k := by simpa using h1
        have hs : s ∈ g.sig := h2 s (by simp)
        have hu : ∀ t ∈ u, t ∈ g.sig := fun t ht => h2 t (by simp [ht])
        have hc : ∃ q, StepTo g S s q ∧ Ex g k q := by
          rw [← hl]
          exact lead_ex u (StepTo g S s) q (fun t ht => hf t (hu t ht)) h3 h4
        refine ⟨s, hs, ?_⟩
        rw [if_pos hc, F_cut hf]
        exact List.mem_map.2 ⟨u, (F_mem hf k (StepTo g S s) u hc).2 ⟨hl, hu, q, h3, h4⟩, rfl⟩
theorem W_mem (ok : Ok g) (k : Nat) (v : List ByteArray) : v ∈ W g k ↔ v.length = k ∧ (∀ s ∈ v, s ∈ g.sig) ∧ Acc g v := by
  have hf := ok.full
  have hacc : ∀ v : List ByteArray, Acc g v ↔ ∃ q, Lead g v (Beg g) q ∧ Fin0 g q := fun v => by
    constructor
    · rintro ⟨q, h1, h2⟩; exact ⟨q, h2, q, h1, .refl q⟩
    · rintro ⟨q, h1, f, h2, h3⟩; exact ⟨f, h2, lead_closed v _ beg_closed q f h1 h3⟩
  unfold W
  by_cases hx : Ex g k 0
  · rw [if_pos hx, F_mem hf k (Beg g) v ⟨0, ⟨0, rfl, .refl 0⟩, hx⟩, hacc]
  · rw [if_neg hx]
    constructor
    · intro h; simp at h
    · rintro ⟨h1, h2, h3⟩
      obtain ⟨q, h4, h5⟩ := (hacc v).1 h3
      obtain ⟨p, ⟨a, rfl, hb⟩, h6⟩ := lead_ex v (Beg g) q (fun s hs => hf s (h2 s hs)) h4 h5
      rw [h1] at h6
      exact absurd (Ex.back h6 hb) hx
theorem upto_mem (ok : Ok g) (k : Nat) (v : List ByteArray) : v ∈ upto g k ↔ v.length < k ∧ (∀ s ∈ v, s ∈ g.sig) ∧ Acc g v := by
  unfold upto
  rw [List.mem_flatMap]
  constructor
  · rintro ⟨j, hj, h⟩
    obtain ⟨h1, h2, h3⟩ := (W_mem ok j v).1 h
    exact ⟨by have := List.mem_range.1 hj; omega, h2, h3⟩
  · rintro ⟨h1, h2, h3⟩
    exact ⟨v.length, List.mem_range.2 h1, (W_mem ok _ v).2 ⟨rfl, h2, h3⟩⟩
theorem F_asc (ha : Sp.Asc g.sig) : ∀ (k : Nat) (S : Nat → Prop), (F g k S).Pairwise fun a b => Sp.ord a b = -1
  | 0, S => by simp [F]
  | k + 1, S => by
    simp only [F]
    rw [List.pairwise_flatMap]
    constructor
    · intro s _
      split
      · rw [List.pairwise_map]
        exact (F_asc ha k _).imp fun {a b} h => by rw [show s :: a = [s] ++ a from rfl, show s :: b = [s] ++ b from rfl, Sp.ord_pre]; exact h
      · exact List.Pairwise.nil
    · refine List.Pairwise.imp (fun {s t} hst x hx y hy => ?_) ha
      split at hx
      · split at hy
        · obtain ⟨u, _, rfl⟩ := List.mem_map.1 hx
          obtain ⟨z, _, rfl⟩ := List.mem_map.1 hy
          exact Sp.ord_lt (k := 0) rfl rfl rfl hst
        · simp at hy
      · simp at hx
theorem W_len {k : Nat} {v : List ByteArray} (h : v ∈ W g k) : v.length = k := by
  unfold W at h
  split at h
  · exact F_mem_len h
  · simp at h
theorem upto_asc (ha : Sp.Asc g.sig) (k : Nat) : (upto g k).Pairwise fun a b => Sp.cmp a b = -1 := by
  unfold upto
  rw [List.pairwise_flatMap]
  constructor
  · intro j _
    have h : (W g j).Pairwise fun a b => Sp.ord a b = -1 := by
      unfold W
      split
      · exact F_asc ha j _
      · exact List.Pairwise.nil
    refine List.Pairwise.imp_of_mem (fun {a b} h1 h2 h => ?_) h
    unfold Sp.cmp
    rw [W_len h1, W_len h2, if_neg (by omega), if_neg (by omega)]
    exact h
  · refine List.Pairwise.imp (fun {i j} hij x hx y hy => ?_) List.pairwise_lt_range
    unfold Sp.cmp
    rw [W_len hx, W_len hy, if_pos hij]
end Nf
end Go.Proofs.Ytnkpgcmjnbgodaa

/-
  AutoTells, plainly: the words that are listed are accepted, ascending, and no accepted word that is ahead of the last one is left out.
-/
set_option linter.unusedVariables false
namespace Go.Proofs.Ytnkpgcmjnbgodaa
open Go.RowKit
namespace Nf
theorem netGr_ok {w : World} {n : Net} (h : NetAt w n) (he : errNet n = 0) : Ok (netGr n) := by
  have hp := (errNet_pre h he).2.2
  have hne : ∀ s ∈ n.sig, s ≠ eps := fun s hs e => by have h1 := hp.hfull s hs; rw [e] at h1; exact absurd h1 (by decide)
  refine ⟨by show 0 < n.st.toNat; have := hp.hpos; omega, ?_, ?_, ?_, ?_, (Sp.isSet_iff n.sig).2 hp.hasc, hne⟩
  · intro a ha
    obtain ⟨b, hb, rfl⟩ := List.mem_map.1 ha
    have := hp.hf b hb; show b.f.toNat < n.st.toNat; omega
  · intro a ha
    obtain ⟨b, hb, rfl⟩ := List.mem_map.1 ha
    have := hp.ht b hb; show b.t.toNat < n.st.toNat; omega
  · intro a ha
    obtain ⟨b, hb, rfl⟩ := List.mem_map.1 ha
    rcases hp.hsy b hb with h | h
    · exact .inl (size_eps.1 h)
    · exact .inr h
  · intro q hq
    obtain ⟨d, hd, rfl⟩ := List.mem_map.1 hq
    have := hp.hd d hd; show d.s.toNat < n.st.toNat; omega
theorem errWord_sig {sig v : List ByteArray} (ha : Sp.errAlpha sig = 0) (hl : v.length ≤ 60) (hv : ∀ s ∈ v, s ∈ sig) : Sp.errWord v = 0 := by
  obtain ⟨_, h2, h3, _⟩ := Sp.errAlpha_zero.1 ha
  have h4 : Sp.anyLong v = false := by
    unfold Sp.anyLong at *
    rw [List.any_eq_false] at *
    exact fun s hs => h2 s (hv s hs)
  have h5 : Sp.allSym v = true := by
    unfold Sp.allSym at *
    rw [List.all_eq_true] at *
    exact fun s hs => h3 s (hv s hs)
  unfold Sp.errWord
  rw [if_neg (by rw [h4]; simp; omega), if_pos h5]
/-- The spec of what is told. -/
structure Tell (n : Net) (most : Int) (L : List (List ByteArray)) (more : Bool) : Prop where
  acc : ∀ v ∈ L, accSpec n v = (true, 0)
  asc : L.Pairwise fun a b => Sp.cmp a b = -1
  len : (L.length : Int) ≤ most
  full : more = true → (L.length : Int) = most
  rest : ∀ v, accSpec n v = (true, 0) → v ∉ L → more = true ∧ ∀ u ∈ L, Sp.cmp v u = 1
theorem wordsSpec_err {n : Net} {most : Int} {L : List (List ByteArray)} {more : Bool} {er : Int} (h : (L, more, er) = wordsSpec n most) (he : er ≠ 0) : L = [] ∧ more = false := by
  unfold wordsSpec at h
  split at h
  · simp only [Prod.mk.injEq] at h; exact ⟨h.1, h.2.1⟩
  · split at h
    · simp only [Prod.mk.injEq] at h; exact ⟨h.1, h.2.1⟩
    · unfold firstSpec at h
      split at h
      · simp only [Prod.mk.injEq] at h; exact absurd h.2.2 he
      · split at h
        · simp only [Prod.mk.injEq] at h; exact ⟨h.1, h.2.1⟩
        · simp only [Prod.mk.injEq] at h; exact absurd h.2.2 he
theorem tell_of {w : World} {n : Net} {most : Int} {L : List (List ByteArray)} {more : Bool} (hn : NetAt w n) (h : (L, more, (0 : Int)) = wordsSpec n most) : Tell n most L more := by
  unfold wordsSpec at h
  by_cases he : errNet n = 0
  · rw [if_neg (by simpa using he)] at h
    by_cases hm : most < 1 ∨ 200 < most
    · rw [if_pos hm] at h; simp at h
    · rw [if_neg hm] at h
      have hmm : (most.toNat : Int) = most := by omega
      have ok := netGr_ok hn he
      have ha := (err_parts he).2.2.2.1
      have hasc := upto_asc (g := netGr n) (Sp.asc_of_alpha ha) 61
      have hin : ∀ v ∈ upto (netGr n) 61, accSpec n v = (true, 0) := fun v hv => by
        obtain ⟨h1, h2, h3⟩ := (upto_mem ok 61 v).1 hv
        have hw := errWord_sig ha (by omega) h2
        unfold accSpec
        have hck : errCk n v = 0 := by unfold errCk; rw [if_neg (by simpa using he)]; exact hw
        rw [hck, if_neg (by simp), bl_true h3]
      have hout : ∀ v, accSpec n v = (true, 0) → v ∈ upto (netGr n) 61 := fun v hv => by
        unfold accSpec at hv
        by_cases hck : errCk n v = 0
        · rw [if_neg (by simpa using hck)] at hv
          simp only [Prod.mk.injEq] at hv
          have hacc := bl_iff.1 hv.1
          obtain ⟨_, hw⟩ := errCk_zero hck
          have hne := word_ne hw
          have hl := (Sp.word_small hw).1
          obtain ⟨q, _, hq⟩ := hacc
          exact (upto_mem ok 61 v).2 ⟨by omega, lead_sig ok v _ q hne hq, bl_iff.1 hv.1⟩
        · rw [if_pos hck] at hv
          simp at hv
      unfold firstSpec at h
      by_cases c1 : most.toNat < (upto (netGr n) 61).length
      · rw [if_pos c1] at h
        simp only [Prod.mk.injEq] at h
        obtain ⟨rfl, rfl, _⟩ := h
        have hlen : ((upto (netGr n) 61).take most.toNat).length = most.toNat := by rw [List.length_take]; omega
        refine ⟨fun v hv => hin v (List.mem_of_mem_take hv), hasc.sublist (List.take_sublist _ _), by rw [hlen]; omega, fun _ => by rw [hlen]; omega, fun v hv hnot => ⟨rfl, fun u hu => ?_⟩⟩
        have hv2 := hout v hv
        have hsplit := List.take_append_drop most.toNat (upto (netGr n) 61)
        rw [← hsplit] at hv2 hasc
        rcases List.mem_append.1 hv2 with hv2 | hv2
        · exact absurd hv2 hnot
        · have := (List.pairwise_append.1 hasc).2.2 u hu v hv2
          rw [Sp.cmp_neg u v, this]; rfl
      · rw [if_neg c1] at h
        by_cases c2 : Lg (netGr n) 61 0 ∧ (upto (netGr n) 61).length < most.toNat
        · rw [if_pos c2] at h; simp at h
        · rw [if_neg c2] at h
          simp only [Prod.mk.injEq] at h
          obtain ⟨rfl, rfl, _⟩ := h
          refine ⟨hin, hasc, by omega, fun hmr => ?_, fun v hv hnot => absurd (hout v hv) hnot⟩
          have hlg := bl_iff.1 hmr
          have : ¬ (upto (netGr n) 61).length < most.toNat := fun hc => c2 ⟨hlg, hc⟩
          omega
  · rw [if_pos he] at h
    simp only [Prod.mk.injEq] at h
    exact absurd h.2.2.symm he
end Nf
end Go.Proofs.Ytnkpgcmjnbgodaa
