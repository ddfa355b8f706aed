/-
  The words listed, plainly: they are the accepted ones, in shortlex order.
-/
import Derived.Test.YtpoblcmjfcpiaaaGreatMgReRowReMem
import Derived.Test.YtpoblcmjfcpiaaaGreatMgAuY
import Derived.Test.YtpoblcmjfcpiaaaGreatMgSpecOSpecE
import Derived.Test.YtpoblcmjfcpiaaaGreatMgAuRvReCk
import Derived.Test.YtpoblcmjfcpiaaaGreatMgReTurnReClMReSortReNg
import Derived.Test.YtpoblcmjfcpiaaaGreatMgSpecL
set_option linter.unusedVariables false
namespace Go.Proofs.YtpoblcmjfcpiaaaGreat
namespace Nf
variable {g : Gr}
theorem lead_ex : ∀ (v : List ByteArray) (S : Nat → Prop) (q : Nat), (∀ s ∈ v, s ≠ eps) → Lead g v S q → Fin0 g q → ∃ p, S p ∧ Ex g v.length p
  | [], S, q, _, h, k => ⟨q, h, k⟩
  | s :: v, S, q, hs, h, k => by
    obtain ⟨r, ⟨p, a, h1, h2, h3⟩, h4⟩ := lead_ex v (StepTo g S s) q (fun t ht => hs t (by simp [ht])) h k
    exact ⟨p, h1, p, a, .refl p, ⟨s, hs s (by simp), h2⟩, Ex.back h4 h3⟩
theorem lead_closed : ∀ (v : List ByteArray) (S : Nat → Prop), (∀ p q, S p → Star (E g) p q → S q) → ∀ p q, Lead g v S p → Star (E g) p q → Lead g v S q
  | [], S, hc, p, q, h, k => hc p q h k
  | s :: v, S, hc, p, q, h, k => lead_closed v (StepTo g S s) (fun a b ⟨x, y, h1, h2, h3⟩ hs => ⟨x, y, h1, h2, h3.trans hs⟩) p q h k
theorem lead_sig (ok : Ok g) : ∀ (v : List ByteArray) (S : Nat → Prop) (q : Nat), (∀ s ∈ v, s ≠ eps) → Lead g v S q → ∀ s ∈ v, s ∈ g.sig
  | [], S, q, _, _, s, hs => by simp at hs
  | t :: v, S, q, hne, h, s, hs => by
    have hv : ∀ x ∈ v, x ≠ eps := fun x hx => hne x (by simp [hx])
    rcases List.mem_cons.1 hs with rfl | hs
    · have h' : ∃ p, StepTo g S s p := by
        clear hs
        have key : ∀ (u : List ByteArray) (T : Nat → Prop) (q : Nat), Lead g u T q → ∃ p, T p := by
          intro u
          induction u with
          | nil => intro T q h; exact ⟨q, h⟩
          | cons x u ih =>
            intro T q h
            obtain ⟨p, a, b, h1, _, _⟩ := ih (StepTo g T x) q h
            exact ⟨a, h1⟩
        exact key v (StepTo g S s) q h
      obtain ⟨p, a, b, _, h2, _⟩ := h'
      exact (ok.sym _ h2).resolve_left (hne s (by simp))
    · exact lead_sig ok v (StepTo g S t) q hv h s hs
theorem F_mem (hf : ∀ s ∈ g.sig, s ≠ eps) : ∀ (k : Nat) (S : Nat → Prop) (v : List ByteArray), (∃ q, S q ∧ Ex g k q) → (v ∈ F g k S ↔ v.length = k ∧ (∀ s ∈ v, s ∈ g.sig) ∧ ∃ q, Lead g v S q ∧ Fin0 g q)
  | 0, S, v, hx => by
    simp only [F, List.mem_singleton]
    constructor
    · rintro rfl
      obtain ⟨q, h1, h2⟩ := hx
      exact ⟨rfl, by simp, q, h1, h2⟩
    · rintro ⟨h, _⟩
      exact List.length_eq_zero_iff.1 h
  | k + 1, S, v, hx => by
    simp only [F, List.mem_flatMap]
    constructor
    · rintro ⟨s, hs, h⟩
      split at h
      · rename_i hc
        rw [F_cut hf] at h
        obtain ⟨u, hu, rfl⟩ := List.mem_map.1 h
        obtain ⟨h1, h2, h3⟩ := (F_mem hf k (StepTo g S s) u hc).1 hu
        refine ⟨by simp [h1], fun t ht => ?_, h3⟩
        rcases List.mem_cons.1 ht with rfl | ht
        · exact hs
        · exact h2 t ht
      · simp at h
    · rintro ⟨h1, h2, q, h3, h4⟩
      match v, h1, h2, h3 with
      | s :: u, h1, h2, h3 =>
        have hl : u.length = k := by simpa using h1
        have hs : s ∈ g.sig := h2 s (by simp)
        have hu : ∀ t ∈ u, t ∈ g.sig := fun t ht => h2 t (by simp [ht])
        have hc : ∃ q, StepTo g S s q ∧ Ex g k q := by
          rw [← hl]
          exact lead_ex u (StepTo g S s) q (fun t ht => hf t (hu t ht)) h3 h4
        refine ⟨s, hs, ?_⟩
        rw [if_pos hc, F_cut hf]
        exact List.mem_map.2 ⟨u, (F_mem hf k (StepTo g S s) u hc).2 ⟨hl, hu, q, h3, h4⟩, rfl⟩
theorem W_mem (ok : Ok g) (k : Nat) (v : List ByteArray) : v ∈ W g k ↔ v.length = k ∧ (∀ s ∈ v, s ∈ g.sig) ∧ Acc g v := by
  have hf := ok.full
  have hacc : ∀ v : List ByteArray, Acc g v ↔ ∃ q, Lead g v (Beg g) q ∧ Fin0 g q := fun v => by
    constructor
    · rintro ⟨q, h1, h2⟩; exact ⟨q, h2, q, h1, .refl q⟩
    · rintro ⟨q, h1, f, h2, h3⟩; exact ⟨f, h2, lead_closed v _ beg_closed q f h1 h3⟩
  unfold W
  by_cases hx : Ex g k 0
  · rw [if_pos hx, F_mem hf k (Beg g) v ⟨0, ⟨0, rfl, .refl 0⟩, hx⟩, hacc]
  · rw [if_neg hx]
    constructor
    · intro h; simp at h
    · rintro ⟨h1, h2, h3⟩
      obtain ⟨q, h4, h5⟩ := (hacc v).1 h3
      obtain ⟨p, ⟨a, rfl, hb⟩, h6⟩ := lead_ex v (Beg g) q (fun s hs => hf s (h2 s hs)) h4 h5
      rw [h1] at h6
      exact absurd (Ex.back h6 hb) hx
theorem upto_mem (ok : Ok g) (k : Nat) (v : List ByteArray) : v ∈ upto g k ↔ v.length < k ∧ (∀ s ∈ v, s ∈ g.sig) ∧ Acc g v := by
  unfold upto
  rw [List.mem_flatMap]
  constructor
  · rintro ⟨j, hj, h⟩
    obtain ⟨h1, h2, h3⟩ := (W_mem ok j v).1 h
    exact ⟨by have := List.mem_range.1 hj; omega, h2, h3⟩
  · rintro ⟨h1, h2, h3⟩
    exact ⟨v.length, List.mem_range.2 h1, (W_mem ok _ v).2 ⟨rfl, h2, h3⟩⟩
theorem F_asc (ha : Sp.Asc g.sig) : ∀ (k : Nat) (S : Nat → Prop), (F g k S).Pairwise fun a b => Sp.ord a b = -1
  | 0, S => by simp [F]
  | k + 1, S => by
    simp only [F]
    rw [List.pairwise_flatMap]
    constructor
    · intro s _
      split
      · rw [List.pairwise_map]
        exact (F_asc ha k _).imp fun {a b} h => by rw [show s :: a = [s] ++ a from rfl, show s :: b = [s] ++ b from rfl, Sp.ord_pre]; exact h
      · exact List.Pairwise.nil
    · refine List.Pairwise.imp (fun {s t} hst x hx y hy => ?_) ha
      split at hx
      · split at hy
        · obtain ⟨u, _, rfl⟩ := List.mem_map.1 hx
          obtain ⟨z, _, rfl⟩ := List.mem_map.1 hy
          exact Sp.ord_lt (k := 0) rfl rfl rfl hst
        · simp at hy
      · simp at hx
theorem W_len {k : Nat} {v : List ByteArray} (h : v ∈ W g k) : v.length = k := by
  unfold W at h
  split at h
  · exact F_mem_len h
  · simp at h
theorem upto_asc (ha : Sp.Asc g.sig) (k : Nat) : (upto g k).Pairwise fun a b => Sp.cmp a b = -1 := by
  unfold upto
  rw [List.pairwise_flatMap]
  constructor
  · intro j _
    have h : (W g j).Pairwise fun a b => Sp.ord a b = -1 := by
      unfold W
      split
      · exact F_asc ha j _
      · exact List.Pairwise.nil
    refine List.Pairwise.imp_of_mem (fun {a b} h1 h2 h => ?_) h
    unfold Sp.cmp
    rw [W_len h1, W_len h2, if_neg (by omega), if_neg (by omega)]
    exact h
  · refine List.Pairwise.imp (fun {i j} hij x hx y hy => ?_) List.pairwise_lt_range
    unfold Sp.cmp
    rw [W_len hx, W_len hy, if_pos hij]
end Nf
end Go.Proofs.YtpoblcmjfcpiaaaGreat

/-
  AutoTells, plainly: the words that are listed are accepted, ascending, and no accepted word that is ahead of the last one is left out.
-/
set_option linter.unusedVariables false
namespace Go.Proofs.YtpoblcmjfcpiaaaGreat
open Go.RowKit
namespace Nf
theorem netGr_ok {w : World} {n : Net} (h : NetAt w n) (he : errNet n = 0) : Ok (netGr n) := by
  have hp := (errNet_pre h he).2.2
  have hne : ∀ s ∈ n.sig, s ≠ eps := fun s hs e => by have h1 := hp.hfull s hs; rw [e] at h1; exact absurd h1 (by decide)
  refine ⟨by show 0 < n.st.toNat; have := hp.hpos; omega, ?_, ?_, ?_, ?_, (Sp.isSet_iff n.sig).2 hp.hasc, hne⟩
  · intro a ha
    obtain ⟨b, hb, rfl⟩ := List.mem_map.1 ha
    have := hp.hf b hb; show b.f.toNat < n.st.toNat; omega
  · intro a ha
    obtain ⟨b, hb, rfl⟩ := List.mem_map.1 ha
    have := hp.ht b hb; show b.t.toNat < n.st.toNat; omega
  · intro a ha
    obtain ⟨b, hb, rfl⟩ := List.mem_map.1 ha
    rcases hp.hsy b hb with h | h
    · exact .inl (size_eps.1 h)
    · exact .inr h
  · intro q hq
    obtain ⟨d, hd, rfl⟩ := List.mem_map.1 hq
    have := hp.hd d hd; show d.s.toNat < n.st.toNat; omega
theorem errWord_sig {sig v : List ByteArray} (ha : Sp.errAlpha sig = 0) (hl : v.length ≤ 60) (hv : ∀ s ∈ v, s ∈ sig) : Sp.errWord v = 0 := by
  obtain ⟨_, h2, h3, _⟩ := Sp.errAlpha_zero.1 ha
  have h4 : Sp.anyLong v = false := by
    unfold Sp.anyLong at *
    rw [List.any_eq_false] at *
    exact fun s hs => h2 s (hv s hs)
  have h5 : Sp.allSym v = true := by
    unfold Sp.allSym at *
    rw [List.all_eq_true] at *
    exact fun s hs => h3 s (hv s hs)
  unfold Sp.errWord
  rw [if_neg (by rw [h4]; simp; omega), if_pos h5]
/-- The spec of what is told. -/
structure Tell (n : Net) (most : Int) (L : List (List ByteArray)) (more : Bool) : Prop where
  acc : ∀ v ∈ L, accSpec n v = (true, 0)
  asc : L.Pairwise fun a b => Sp.cmp a b = -1
  len : (L.length : Int) ≤ most
  full : more = true → (L.length : Int) = most
  rest : ∀ v, accSpec n v = (true, 0) → v ∉ L → more = true ∧ ∀ u ∈ L, Sp.cmp v u = 1
theorem wordsSpec_err {n : Net} {most : Int} {L : List (List ByteArray)} {more : Bool} {er : Int} (h : (L, more, er) = wordsSpec n most) (he : er ≠ 0) : L = [] ∧ more = false := by
  unfold wordsSpec at h
  split at h
  · simp only [Prod.mk.injEq] at h; exact ⟨h.1, h.2.1⟩
  · split at h
    · simp only [Prod.mk.injEq] at h; exact ⟨h.1, h.2.1⟩
    · unfold firstSpec at h
      split at h
      · simp only [Prod.mk.injEq] at h; exact absurd h.2.2 he
      · split at h
        · simp only [Prod.mk.injEq] at h; exact ⟨h.1, h.2.1⟩
        · simp only [Prod.mk.injEq] at h; exact absurd h.2.2 he
theorem tell_of {w : World} {n : Net} {most : Int} {L : List (List ByteArray)} {more : Bool} (hn : NetAt w n) (h : (L, more, (0 : Int)) = wordsSpec n most) : Tell n most L more := by
  unfold wordsSpec at h
  by_cases he : errNet n = 0
  · rw [if_neg (by simpa using he)] at h
    by_cases hm : most < 1 ∨ 200 < most
    · rw [if_pos hm] at h; simp at h
    · rw [if_neg hm] at h
      have hmm : (most.toNat : Int) = most := by omega
      have ok := netGr_ok hn he
      have ha := (err_parts he).2.2.2.1
      have hasc := upto_asc (g := netGr n) (Sp.asc_of_alpha ha) 61
      have hin : ∀ v ∈ upto (netGr n) 61, accSpec n v = (true, 0) := fun v hv => by
        obtain ⟨h1, h2, h3⟩ := (upto_mem ok 61 v).1 hv
        have hw := errWord_sig ha (by omega) h2
        unfold accSpec
        have hck : errCk n v = 0 := by unfold errCk; rw [if_neg (by simpa using he)]; exact hw
        rw [hck, if_neg (by simp), bl_true h3]
      have hout : ∀ v, accSpec n v = (true, 0) → v ∈ upto (netGr n) 61 := fun v hv => by
        unfold accSpec at hv
        by_cases hck : errCk n v = 0
        · rw [if_neg (by simpa using hck)] at hv
          simp only [Prod.mk.injEq] at hv
          have hacc := bl_iff.1 hv.1
          obtain ⟨_, hw⟩ := errCk_zero hck
          have hne := word_ne hw
          have hl := (Sp.word_small hw).1
          obtain ⟨q, _, hq⟩ := hacc
          exact (upto_mem ok 61 v).2 ⟨by omega, lead_sig ok v _ q hne hq, bl_iff.1 hv.1⟩
        · rw [if_pos hck] at hv
          simp at hv
      unfold firstSpec at h
      by_cases c1 : most.toNat < (upto (netGr n) 61).length
      · rw [if_pos c1] at h
        simp only [Prod.mk.injEq] at h
        obtain ⟨rfl, rfl, _⟩ := h
        have hlen : ((upto (netGr n) 61).take most.toNat).length = most.toNat := by rw [List.length_take]; omega
        refine ⟨fun v hv => hin v (List.mem_of_mem_take hv), hasc.sublist (List.take_sublist _ _), by rw [hlen]; omega, fun _ => by rw [hlen]; omega, fun v hv hnot => ⟨rfl, fun u hu => ?_⟩⟩
        have hv2 := hout v hv
        have hsplit := List.take_append_drop most.toNat (upto (netGr n) 61)
        rw [← hsplit] at hv2 hasc
        rcases List.mem_append.1 hv2 with hv2 | hv2
        · exact absurd hv2 hnot
        · have := (List.pairwise_append.1 hasc).2.2 u hu v hv2
          rw [Sp.cmp_neg u v, this]; rfl
      · rw [if_neg c1] at h
        by_cases c2 : Lg (netGr n) 61 0 ∧ (upto (netGr n) 61).length < most.toNat
        · rw [if_pos c2] at h; simp at h
        · rw [if_neg c2] at h
          simp only [Prod.mk.injEq] at h
          obtain ⟨rfl, rfl, _⟩ := h
          refine ⟨hin, hasc, by omega, fun hmr => ?_, fun v hv hnot => absurd (hout v hv) hnot⟩
          have hlg := bl_iff.1 hmr
          have : ¬ (upto (netGr n) 61).length < most.toNat := fun hc => c2 ⟨hlg, hc⟩
          omega
  · rw [if_pos he] at h
    simp only [Prod.mk.injEq] at h
    exact absurd h.2.2.symm he
end Nf
end Go.Proofs.YtpoblcmjfcpiaaaGreat

/-
  The tree of the beginnings of words, plainly: how it grows word by word, and that just these words lead from its root to an end.
-/
set_option linter.unusedVariables false
namespace Go.Proofs.YtpoblcmjfcpiaaaGreat
namespace Nf
abbrev TrA := List (Nat × ByteArray × Nat)
/-- Where a symbol leads from a state. -/
def trFind : TrA → Nat → ByteArray → Option Nat
  | [], _, _ => none
  | a :: r, q, s => if a.1 = q ∧ a.2.1 = s then some a.2.2 else trFind r q s
def trStep (A : TrA) (q : Nat) (s : ByteArray) : TrA × Nat :=
  match trFind A q s with
  | some t => (A, t)
  | none => (A ++ [(q, s, A.length + 1)], A.length + 1)
def trWord (A : TrA) (q : Nat) (v : List ByteArray) : TrA × Nat := v.foldl (fun p s => trStep p.1 p.2 s) (A, q)
def trAll (A : TrA) (E : List Nat) (L : List (List ByteArray)) : TrA × List Nat := L.foldl (fun p v => ((trWord p.1 0 v).1, p.2 ++ [(trWord p.1 0 v).2])) (A, E)
theorem trWord_nil (A : TrA) (q : Nat) : trWord A q [] = (A, q) := rfl
theorem trWord_snoc (A : TrA) (q : Nat) (v : List ByteArray) (s : ByteArray) : trWord A q (v ++ [s]) = trStep (trWord A q v).1 (trWord A q v).2 s := by
  unfold trWord; rw [List.foldl_append]; rfl
theorem trAll_snoc (A : TrA) (E : List Nat) (L : List (List ByteArray)) (v : List ByteArray) :
    trAll A E (L ++ [v]) = ((trWord (trAll A E L).1 0 v).1, (trAll A E L).2 ++ [(trWord (trAll A E L).1 0 v).2]) := by
  unfold trAll; rw [List.foldl_append]; rfl
theorem trFind_some : ∀ {A : TrA} {q : Nat} {s : ByteArray} {t : Nat}, trFind A q s = some t → (q, s, t) ∈ A
  | [], q, s, t, h => by cases h
  | a :: r, q, s, t, h => by
    unfold trFind at h
    split at h
    · rename_i hc
      obtain ⟨h1, h2⟩ := hc
      obtain ⟨x, y, z⟩ := a
      simp at h1 h2 h
      subst h1 h2 h
      simp
    · exact List.mem_cons_of_mem _ (trFind_some h)
theorem trFind_none : ∀ {A : TrA} {q : Nat} {s : ByteArray}, trFind A q s = none → ∀ t, (q, s, t) ∉ A
  | [], q, s, h, t => by simp
  | a :: r, q, s, h, t => by
    unfold trFind at h
    split at h
    · cases h
    · rename_i hc
      intro hm
      rcases List.mem_cons.1 hm with e | hm
      · subst e; exact hc ⟨rfl, rfl⟩
      · exact trFind_none h t hm
structure TrOk (A : TrA) : Prop where
  num : ∀ i a, A[i]? = some a → a.2.2 = i + 1 ∧ a.1 ≤ i
  uniq : ∀ a b, a ∈ A → b ∈ A → a.1 = b.1 → a.2.1 = b.2.1 → a = b
theorem TrOk.nil : TrOk [] := ⟨by simp, by simp⟩
theorem TrOk.mem {A : TrA} (h : TrOk A) {q : Nat} {s : ByteArray} {t : Nat} (hm : (q, s, t) ∈ A) : 0 < t ∧ t ≤ A.length ∧ q < t ∧ A[t - 1]? = some (q, s, t) := by
  obtain ⟨i, hi⟩ := List.getElem?_of_mem hm
  obtain ⟨h1, h2⟩ := h.num i _ hi
  have hl := (List.getElem?_eq_some_iff.1 hi).1
  simp only at h1 h2
  subst h1
  exact ⟨by omega, by omega, by omega, by simpa using hi⟩
theorem TrOk.find {A : TrA} (h : TrOk A) {q : Nat} {s : ByteArray} {t : Nat} (hm : (q, s, t) ∈ A) : trFind A q s = some t := by
  cases hf : trFind A q s with
  | none => exact absurd hm (trFind_none hf t)
  | some u =>
    have := h.uniq _ _ (trFind_some hf) hm rfl rfl
    simp at this
    rw [this]
/-- From the root a word leads to a state. -/
inductive TrP (A : TrA) : List ByteArray → Nat → Prop
  | nil : TrP A [] 0
  | snoc {v : List ByteArray} {p : Nat} {s : ByteArray} {t : Nat} : TrP A v p → (p, s, t) ∈ A → TrP A (v ++ [s]) t
theorem TrP.mono {A B : TrA} (hs : ∀ a, a ∈ A → a ∈ B) {v : List ByteArray} {q : Nat} (h : TrP A v q) : TrP B v q := by
  induction h with
  | nil => exact .nil
  | snoc _ hm ih => exact .snoc ih (hs _ hm)
theorem TrP.inj {A : TrA} (hA : TrOk A) {v : List ByteArray} {q : Nat} (h : TrP A v q) : ∀ {u : List ByteArray}, TrP A u q → v = u := by
  induction h with
  | nil =>
    intro u hu
    generalize h0 : (0 : Nat) = z at hu
    cases hu with
    | nil => rfl
    | snoc _ hm => have := (hA.mem hm).1; omega
  | snoc h1 hm ih =>
    rename_i v p s t
    intro u hu
    cases hu with
    | nil => have := (hA.mem hm).1; omega
    | snoc h2 hm2 =>
      have e1 := (hA.mem hm).2.2.2
      have e2 := (hA.mem hm2).2.2.2
      rw [e1] at e2
      simp at e2
      obtain ⟨rfl, rfl⟩ := e2
      rw [ih h2]
theorem TrP.lt {A : TrA} (hA : TrOk A) {v : List ByteArray} {q : Nat} (h : TrP A v q) : q ≤ A.length := by
  cases h with
  | nil => omega
  | snoc _ hm => exact (hA.mem hm).2.1
theorem trStep_sub (A : TrA) (q : Nat) (s : ByteArray) : ∀ a, a ∈ A → a ∈ (trStep A q s).1 := by
  intro a h
  unfold trStep
  split
  · exact h
  · exact List.mem_append_left _ h
theorem trStep_mem (A : TrA) (q : Nat) (s : ByteArray) : (q, s, (trStep A q s).2) ∈ (trStep A q s).1 := by
  unfold trStep
  split
  · rename_i t h; exact trFind_some h
  · simp
theorem trStep_len (A : TrA) (q : Nat) (s : ByteArray) : A.length ≤ (trStep A q s).1.length ∧ (trStep A q s).1.length ≤ A.length + 1 := by
  unfold trStep
  split <;> simp
theorem trStep_ok {A : TrA} (h : TrOk A) {q : Nat} (hq : q ≤ A.length) (s : ByteArray) : TrOk (trStep A q s).1 := by
  unfold trStep
  split
  · exact h
  · rename_i hf
    show TrOk (A ++ [(q, s, A.length + 1)])
    refine ⟨fun i a hi => ?_, fun a b ha hb h1 h2 => ?_⟩
    · rw [List.getElem?_append] at hi
      split at hi
      · exact h.num i a hi
      · rename_i hl
        have hl2 := (List.getElem?_eq_some_iff.1 hi).1
        simp at hl2
        have e : i = A.length := by omega
        subst e
        simp at hi
        subst hi
        exact ⟨rfl, hq⟩
    · rcases List.mem_append.1 ha with ha' | ha'
      · rcases List.mem_append.1 hb with hb' | hb'
        · exact h.uniq a b ha' hb' h1 h2
        · rw [List.mem_singleton] at hb'
          rw [hb'] at h1 h2
          simp only at h1 h2
          refine absurd ?_ (trFind_none hf a.2.2)
          rw [← h1, ← h2]
          exact ha'
      · rw [List.mem_singleton] at ha'
        rcases List.mem_append.1 hb with hb' | hb'
        · rw [ha'] at h1 h2
          simp only at h1 h2
          refine absurd ?_ (trFind_none hf b.2.2)
          rw [h1, h2]
          exact hb'
        · rw [List.mem_singleton] at hb'
          rw [ha', hb']
/-- What one word leaves. -/
structure TrW (A : TrA) (v : List ByteArray) (r : TrA × Nat) : Prop where
  sub : ∀ a, a ∈ A → a ∈ r.1
  ok : TrOk r.1
  way : TrP r.1 v r.2
  lo : A.length ≤ r.1.length
  hi : r.1.length ≤ A.length + v.length
  sym : ∀ a, a ∈ r.1 → a ∈ A ∨ a.2.1 ∈ v
theorem trWord_ok {A : TrA} (h : TrOk A) (v : List ByteArray) : TrW A v (trWord A 0 v) := by
  have key : ∀ k, k ≤ v.length → TrW A (v.take k) (trWord A 0 (v.take k)) := by
    intro k
    induction k with
    | zero => intro _; exact ⟨fun a h => h, h, .nil, Nat.le_refl _, by simp [trWord_nil], fun a h => .inl h⟩
    | succ k ih =>
      intro hk
      have i := ih (by omega)
      rw [List.take_succ_eq_append_getElem (by omega : k < v.length), trWord_snoc]
      have hlt := i.way.lt i.ok
      have hstep := trStep_len (trWord A 0 (v.take k)).1 (trWord A 0 (v.take k)).2 v[k]
      refine ⟨fun a ha => trStep_sub _ _ _ _ (i.sub a ha), trStep_ok i.ok hlt _, .snoc (i.way.mono (trStep_sub _ _ _)) (trStep_mem _ _ _), Nat.le_trans i.lo hstep.1, ?_, fun a ha => ?_⟩
      · have := i.hi
        simp at *
        omega
      · unfold trStep at ha
        split at ha
        · rcases i.sym a ha with h | h
          · exact .inl h
          · exact .inr (List.mem_append_left _ h)
        · rcases List.mem_append.1 ha with ha | ha
          · rcases i.sym a ha with h | h
            · exact .inl h
            · exact .inr (List.mem_append_left _ h)
          · simp at ha
            subst ha
            exact .inr (List.mem_append_right _ (by simp))
  have := key v.length (Nat.le_refl _)
  rwa [List.take_length] at this
/-- What all words leave. -/
structure TrL (L : List (List ByteArray)) (r : TrA × List Nat) : Prop where
  ok : TrOk r.1
  all : ∀ v, v ∈ L → ∃ q, q ∈ r.2 ∧ TrP r.1 v q
  only : ∀ q, q ∈ r.2 → ∃ v, v ∈ L ∧ TrP r.1 v q
  sym : ∀ a, a ∈ r.1 → ∃ v, v ∈ L ∧ a.2.1 ∈ v
  len : r.2.length = L.length
theorem trAll_ok (L : List (List ByteArray)) : TrL L (trAll [] [] L) := by
  have key : ∀ k, k ≤ L.length → TrL (L.take k) (trAll [] [] (L.take k)) := by
    intro k
    induction k with
    | zero => intro _; exact ⟨.nil, by simp, by simp [trAll], by simp [trAll], by simp [trAll]⟩
    | succ k ih =>
      intro hk
      have i := ih (by omega)
      rw [List.take_succ_eq_append_getElem (by omega : k < L.length), trAll_snoc]
      have hw := trWord_ok i.ok L[k]
      refine ⟨hw.ok, fun v hv => ?_, fun q hq => ?_, fun a ha => ?_, ?_⟩
      · rcases List.mem_append.1 hv with hv | hv
        · obtain ⟨q, h1, h2⟩ := i.all v hv
          exact ⟨q, List.mem_append_left _ h1, h2.mono hw.sub⟩
        · simp at hv
          subst hv
          exact ⟨_, List.mem_append_right _ (by simp), hw.way⟩
      · rcases List.mem_append.1 hq with hq | hq
        · obtain ⟨v, h1, h2⟩ := i.only q hq
          exact ⟨v, List.mem_append_left _ h1, h2.mono hw.sub⟩
        · simp at hq
          subst hq
          exact ⟨_, List.mem_append_right _ (by simp), hw.way⟩
      · rcases hw.sym a ha with h | h
        · obtain ⟨v, h1, h2⟩ := i.sym a h
          exact ⟨v, List.mem_append_left _ h1, h2⟩
        · exact ⟨_, List.mem_append_right _ (by simp), h⟩
      · have := i.len
        simp at *
        omega
  have := key L.length (Nat.le_refl _)
  rwa [List.take_length] at this
theorem trAll_len (L : List (List ByteArray)) (h : ∀ v, v ∈ L → v.length ≤ 60) : (trAll [] [] L).1.length ≤ 60 * L.length := by
  have key : ∀ k, k ≤ L.length → (trAll [] [] (L.take k)).1.length ≤ 60 * k := by
    intro k
    induction k with
    | zero => intro _; simp [trAll]
    | succ k ih =>
      intro hk
      have i := ih (by omega)
      rw [List.take_succ_eq_append_getElem (by omega : k < L.length), trAll_snoc]
      have hw := (trWord_ok (trAll_ok (L.take k)).ok L[k]).hi
      have := h L[k] (List.getElem_mem _)
      simp only at *
      omega
  have := key L.length (Nat.le_refl _)
  rwa [List.take_length] at this

/-- A net whose arcs are those of a tree. -/
structure TrG (g : Gr) (L : List (List ByteArray)) (r : TrA × List Nat) : Prop where
  arcs : g.arcs = r.1
  ends : g.ends = r.2
theorem tr_lead {g : Gr} {L : List (List ByteArray)} {r : TrA × List Nat} (hg : TrG g L r) (hne : ∀ a, a ∈ r.1 → a.2.1 ≠ eps) (v : List ByteArray) (q : Nat) : Lead g v (Beg g) q ↔ TrP r.1 v q := by
  have hst : ∀ a b, Star (E g) a b ↔ a = b := fun a b => by
    constructor
    · intro h
      cases h with
      | refl => rfl
      | step h1 _ =>
        unfold E at h1
        rw [hg.arcs] at h1
        exact absurd rfl (hne _ h1)
    · rintro rfl; exact .refl a
  have key : ∀ k, k ≤ v.length → ∀ q, Lead g (v.take k) (Beg g) q ↔ TrP r.1 (v.take k) q := by
    intro k
    induction k with
    | zero =>
      intro _ q
      show Beg g q ↔ _
      constructor
      · rintro ⟨p, rfl, h⟩
        rw [← (hst _ _).1 h]
        exact .nil
      · intro h
        have : q = 0 := by
          generalize e : (List.take 0 v) = u at h
          cases h with
          | nil => rfl
          | snoc => simp at e
        subst this
        exact ⟨0, rfl, .refl 0⟩
    | succ k ih =>
      intro hk q
      rw [List.take_succ_eq_append_getElem (by omega : k < v.length), lead_snoc]
      constructor
      · rintro ⟨p, a, h1, h2, h3⟩
        rw [← (hst _ _).1 h3]
        rw [hg.arcs] at h2
        exact .snoc ((ih (by omega) p).1 h1) h2
      · intro h
        generalize e : v.take k ++ [v[k]] = u at h
        cases h with
        | nil => exact absurd (congrArg List.length e) (by rw [List.length_append]; simp)
        | snoc h1 h2 =>
          obtain ⟨e1, e2⟩ := List.append_inj' e rfl
          simp at e2
          subst e1 e2
          exact ⟨_, q, (ih (by omega) _).2 h1, by rw [hg.arcs]; exact h2, .refl q⟩
  have := key v.length (Nat.le_refl _) q
  rwa [List.take_length] at this
/-- Just the words of the list are accepted. -/
theorem tr_acc {g : Gr} {L : List (List ByteArray)} (hg : TrG g L (trAll [] [] L)) (hne : ∀ v, v ∈ L → ∀ s, s ∈ v → s ≠ eps) (v : List ByteArray) : Acc g v ↔ v ∈ L := by
  have ok := trAll_ok L
  have hn : ∀ a, a ∈ (trAll [] [] L).1 → a.2.1 ≠ eps := fun a ha => by
    obtain ⟨u, h1, h2⟩ := ok.sym a ha
    exact hne u h1 _ h2
  constructor
  · rintro ⟨q, h1, h2⟩
    rw [hg.ends] at h1
    obtain ⟨u, h3, h4⟩ := ok.only q h1
    rw [((tr_lead hg hn v q).1 h2).inj ok.ok h4]
    exact h3
  · intro h
    obtain ⟨q, h1, h2⟩ := ok.all v h
    exact ⟨q, by rw [hg.ends]; exact h1, (tr_lead hg hn v q).2 h2⟩
end Nf
end Go.Proofs.YtpoblcmjfcpiaaaGreat
