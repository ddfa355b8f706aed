/-
  Acceptors, plainly: their states as numbers, what leads where, from where an end is reached by so many symbols, and the words in their order. Nothing of the program.
-/
import Derived.Test.YthpnipkihpoooaaSpec
set_option linter.unusedVariables false
namespace Go.Proofs.Ythpnipkihpoooaa
namespace Nf

inductive Star {α : Type} (R : α → α → Prop) : α → α → Prop
  | refl (a : α) : Star R a a
  | step {a b c : α} : R a b → Star R b c → Star R a c

theorem Star.one {α : Type} {R : α → α → Prop} {a b : α} (h : R a b) : Star R a b := .step h (.refl b)
theorem Star.trans {α : Type} {R : α → α → Prop} {a b c : α} (h : Star R a b) (k : Star R b c) : Star R a c := by
  induction h with
  | refl a => exact k
  | step h1 _ ih => exact .step h1 (ih k)
theorem Star.snoc {α : Type} {R : α → α → Prop} {a b c : α} (h : Star R a b) (k : R b c) : Star R a c := h.trans (.one k)
theorem Star.mono {α : Type} {R T : α → α → Prop} (hr : ∀ a b, R a b → T a b) {a b : α} (h : Star R a b) : Star T a b := by
  induction h with
  | refl a => exact .refl a
  | step h1 _ ih => exact .step (hr _ _ h1) ih
theorem Star.rev {α : Type} {R T : α → α → Prop} (hr : ∀ a b, R a b → T b a) {a b : α} (h : Star R a b) : Star T b a := by
  induction h with
  | refl a => exact .refl a
  | step h1 _ ih => exact ih.snoc (hr _ _ h1)
theorem Star.keeps {α : Type} {R : α → α → Prop} {P : α → Prop} (hr : ∀ a b, R a b → P a → P b) {a b : α} (h : Star R a b) (ha : P a) : P b := by
  induction h with
  | refl a => exact ha
  | step h1 _ ih => exact ih (hr _ _ h1 ha)

noncomputable def bl (p : Prop) : Bool := @decide p (Classical.propDecidable p)
theorem bl_true {p : Prop} (h : p) : bl p = true := by unfold bl; simpa using h
theorem bl_false {p : Prop} (h : ¬ p) : bl p = false := by unfold bl; simpa using h
theorem bl_iff {p : Prop} : bl p = true ↔ p := by unfold bl; simp
theorem bl_congr {p q : Prop} (h : p ↔ q) : bl p = bl q := by rw [propext h]
theorem bl_decide {p : Prop} [d : Decidable p] : decide p = bl p := by
  unfold bl; congr

/-- The empty text. -/
def eps : ByteArray := ⟨#[]⟩

/-- A net's states from 0 on, its symbols, its arcs, its ends. -/
structure Gr where
  N : Nat
  sig : List ByteArray
  arcs : List (Nat × ByteArray × Nat)
  ends : List Nat

variable (g : Gr)
def E (p q : Nat) : Prop := (p, eps, q) ∈ g.arcs
def M (p q : Nat) : Prop := ∃ s, s ≠ eps ∧ (p, s, q) ∈ g.arcs
def Any (p q : Nat) : Prop := ∃ s, (p, s, q) ∈ g.arcs
def Live (q : Nat) : Prop := ∃ f, f ∈ g.ends ∧ Star (Any g) q f
def Fin0 (q : Nat) : Prop := ∃ f, f ∈ g.ends ∧ Star (E g) q f
def Before (S : Nat → Prop) (q : Nat) : Prop := ∃ p r, Star (E g) q p ∧ M g p r ∧ S r
/-- An end is reached by just so many symbols. -/
def Ex : Nat → Nat → Prop
  | 0 => Fin0 g
  | k + 1 => Before g (Ex k)
/-- .. by at least so many. -/
def Lg : Nat → Nat → Prop
  | 0 => Live g
  | k + 1 => Before g (Lg k)
def Cl (S : Nat → Prop) (q : Nat) : Prop := ∃ p, S p ∧ Star (E g) p q
def Beg : Nat → Prop := Cl g (· = 0)
def StepTo (S : Nat → Prop) (s : ByteArray) (q : Nat) : Prop := ∃ p r, S p ∧ (p, s, r) ∈ g.arcs ∧ Star (E g) r q
def Lead : List ByteArray → (Nat → Prop) → Nat → Prop
  | [], S => S
  | s :: r, S => Lead r (StepTo g S s)

open Classical in
/-- The words of so many symbols that lead from a set to an end. -/
noncomputable def F : Nat → (Nat → Prop) → List (List ByteArray)
  | 0, _ => [[]]
  | k + 1, S => g.sig.flatMap fun s => if ∃ q, StepTo g S s q ∧ Ex g k q then (F k fun q => StepTo g S s q ∧ Ex g k q).map (s :: ·) else []

open Classical in
noncomputable def W (k : Nat) : List (List ByteArray) := if Ex g k 0 then F g k (Beg g) else []
noncomputable def upto (k : Nat) : List (List ByteArray) := (List.range k).flatMap (W g)
theorem upto_succ (k : Nat) : upto g (k + 1) = upto g k ++ W g k := by simp [upto, List.range_succ]

/-- All symbols of arcs are empty or of the alphabet, and all states are below N. -/
structure Ok : Prop where
  pos : 0 < g.N
  from_ : ∀ a ∈ g.arcs, a.1 < g.N
  to_ : ∀ a ∈ g.arcs, a.2.2 < g.N
  sym : ∀ a ∈ g.arcs, a.2.1 = eps ∨ a.2.1 ∈ g.sig
  end_ : ∀ q ∈ g.ends, q < g.N
  asc : Sp.isSet g.sig = true
  full : ∀ s ∈ g.sig, s ≠ eps

variable {g}
theorem Ex.back {k p q : Nat} (h : Ex g k q) (e : Star (E g) p q) : Ex g k p := by
  cases k with
  | zero => obtain ⟨f, h1, h2⟩ := h; exact ⟨f, h1, e.trans h2⟩
  | succ k => obtain ⟨a, b, h1, h2, h3⟩ := h; exact ⟨a, b, e.trans h1, h2, h3⟩
theorem Lg.back {k p q : Nat} (h : Lg g k q) (e : Star (E g) p q) : Lg g k p := by
  cases k with
  | zero => obtain ⟨f, h1, h2⟩ := h; exact ⟨f, h1, (e.mono fun a b h => ⟨eps, h⟩).trans h2⟩
  | succ k => obtain ⟨a, b, h1, h2, h3⟩ := h; exact ⟨a, b, e.trans h1, h2, h3⟩
theorem F_mem_len {k : Nat} : ∀ {S : Nat → Prop} {w : List ByteArray}, w ∈ F g k S → w.length = k := by
  induction k with
  | zero => intro S w h; simp [F] at h; simp [h]
  | succ k ih =>
    intro S w h
    simp only [F, List.mem_flatMap] at h
    obtain ⟨s, _, h⟩ := h
    split at h
    · obtain ⟨v, hv, rfl⟩ := List.mem_map.1 h
      simp [ih hv]
    · simp at h
theorem F_congr {k : Nat} {S T : Nat → Prop} (h : ∀ q, S q ↔ T q) : F g k S = F g k T := by
  have : S = T := funext fun q => propext (h q)
  rw [this]
/-- The set may be cut to what leads on. -/
theorem F_cut {k : Nat} (hf : ∀ s ∈ g.sig, s ≠ eps) (S : Nat → Prop) : F g k (fun q => S q ∧ Ex g k q) = F g k S := by
  cases k with
  | zero => rfl
  | succ k =>
    have key : ∀ s, s ∈ g.sig → (fun q => StepTo g (fun q => S q ∧ Ex g (k + 1) q) s q ∧ Ex g k q) = (fun q => StepTo g S s q ∧ Ex g k q) := by
      intro s hs
      funext q
      apply propext
      constructor
      · rintro ⟨⟨p, r, ⟨h1, _⟩, h2, h3⟩, h4⟩; exact ⟨⟨p, r, h1, h2, h3⟩, h4⟩
      · rintro ⟨⟨p, r, h1, h2, h3⟩, h4⟩
        exact ⟨⟨p, r, ⟨h1, p, r, .refl p, ⟨s, hf s hs, h2⟩, Ex.back h4 h3⟩, h2, h3⟩, h4⟩
    have key2 : ∀ s, s ∈ g.sig → ((∃ q, StepTo g (fun q => S q ∧ Ex g (k + 1) q) s q ∧ Ex g k q) ↔ ∃ q, StepTo g S s q ∧ Ex g k q) := by
      intro s hs
      have := key s hs
      constructor
      · rintro ⟨q, h⟩; exact ⟨q, by rw [← congrFun this q]; exact h⟩
      · rintro ⟨q, h⟩; exact ⟨q, by rw [congrFun this q]; exact h⟩
    simp only [F]
    rw [List.flatMap_def, List.flatMap_def]
    congr 1
    apply List.map_congr_left
    intro s hs
    rw [key s hs]

end Nf
end Go.Proofs.Ythpnipkihpoooaa
