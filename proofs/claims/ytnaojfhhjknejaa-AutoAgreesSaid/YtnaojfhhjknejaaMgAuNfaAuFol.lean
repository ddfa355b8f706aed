/-
  Acceptors, plainly: their states as numbers, what leads where, from where an end is reached by so many symbols, and the words in their order. Nothing of the program.
-/
import Derived.Test.YtnaojfhhjknejaaMgSpec
set_option linter.unusedVariables false
namespace Go.Proofs.Ytnaojfhhjknejaa
namespace Nf

inductive Star {α : Type} (R : α → α → Prop) : α → α → Prop
  | refl (a : α) : Star R a a
  | step {a b c : α} : R a b → Star R b c → Star R a c

theorem Star.one {α : Type} {R : α → α → Prop} {a b : α} (h : R a b) : Star R a b := .step h (.refl b)
theorem Star.trans {α : Type} {R : α → α → Prop} {a b c : α} (h : Star R a b) (k : Star R b c) : Star R a c := by
  induction h with
  | refl a => exact k
  | step h1 _ ih => exact .step h1 (ih k)
theorem Star.snoc {α : Type} {R : α → α → Prop} {a b c : α} (h : Star R a b) (k : R b c) : Star R a c := h.trans (.one k)
theorem Star.mono {α : Type} {R T : α → α → Prop} (hr : ∀ a b, R a b → T a b) {a b : α} (h : Star R a b) : Star T a b := by
  induction h with
  | refl a => exact .refl a
  | step h1 _ ih => exact .step (hr _ _ h1) ih
theorem Star.rev {α : Type} {R T : α → α → Prop} (hr : ∀ a b, R a b → T b a) {a b : α} (h : Star R a b) : Star T b a := by
  induction h with
  | refl a => exact .refl a
  | step h1 _ ih => exact ih.snoc (hr _ _ h1)
theorem Star.keeps {α : Type} {R : α → α → Prop} {P : α → Prop} (hr : ∀ a b, R a b → P a → P b) {a b : α} (h : Star R a b) (ha : P a) : P b := by
  induction h with
  | refl a => exact ha
  | step h1 _ ih => exact ih (hr _ _ h1 ha)

noncomputable def bl (p : Prop) : Bool := @decide p (Classical.propDecidable p)
theorem bl_true {p : Prop} (h : p) : bl p = true := by unfold bl; simpa using h
theorem bl_false {p : Prop} (h : ¬ p) : bl p = false := by unfold bl; simpa using h
theorem bl_iff {p : Prop} : bl p = true ↔ p := by unfold bl; simp
theorem bl_congr {p q : Prop} (h : p ↔ q) : bl p = bl q := by rw [propext h]
theorem bl_decide {p : Prop} [d : Decidable p] : decide p = bl p := by
  unfold bl; congr

/-- The empty text. -/
def eps : ByteArray := ⟨#[]⟩

/-- A net's states from 0 on, its symbols, its arcs, its ends. -/
structure Gr where
  N : Nat
  sig : List ByteArray
  arcs : List (Nat × ByteArray × Nat)
  ends : List Nat

variable (g : Gr)
def E (p q : Nat) : Prop := (p, eps, q) ∈ g.arcs
def M (p q : Nat) : Prop := ∃ s, s ≠ eps ∧ (p, s, q) ∈ g.arcs
def Any (p q : Nat) : Prop := ∃ s, (p, s, q) ∈ g.arcs
def Live (q : Nat) : Prop := ∃ f, f ∈ g.ends ∧ Star (Any g) q f
def Fin0 (q : Nat) : Prop := ∃ f, f ∈ g.ends ∧ Star (E g) q f
def Before (S : Nat → Prop) (q : Nat) : Prop := ∃ p r, Star (E g) q p ∧ M g p r ∧ S r
/-- An end is reached by just so many symbols. -/
def Ex : Nat → Nat → Prop
  | 0 => Fin0 g
  | k + 1 => Before g (Ex k)
/-- .. by at least so many. -/
def Lg : Nat → Nat → Prop
  | 0 => Live g
  | k + 1 => Before g (Lg k)
def Cl (S : Nat → Prop) (q : Nat) : Prop := ∃ p, S p ∧ Star (E g) p q
def Beg : Nat → Prop := Cl g (· = 0)
def StepTo (S : Nat → Prop) (s : ByteArray) (q : Nat) : Prop := ∃ p r, S p ∧ (p, s, r) ∈ g.arcs ∧ Star (E g) r q
def Lead : List ByteArray → (Nat → Prop) → Nat → Prop
  | [], S => S
  | s :: r, S => Lead r (StepTo g S s)

open Classical in
/-- The words of so many symbols that lead from a set to an end. -/
noncomputable def F : Nat → (Nat → Prop) → List (List ByteArray)
  | 0, _ => [[]]
  | k + 1, S => g.sig.flatMap fun s => if ∃ q, StepTo g S s q ∧ Ex g k q then (F k fun q => StepTo g S s q ∧ Ex g k q).map (s :: ·) else []

open Classical in
noncomputable def W (k : Nat) : List (List ByteArray) := if Ex g k 0 then F g k (Beg g) else []
noncomputable def upto (k : Nat) : List (List ByteArray) := (List.range k).flatMap (W g)
theorem upto_succ (k : Nat) : upto g (k + 1) = upto g k ++ W g k := by simp [upto, List.range_succ]

/-- All symbols of arcs are empty or of the alphabet, and all states are below N. -/
structure Ok : Prop where
  pos : 0 < g.N
  from_ : ∀ a ∈ g.arcs, a.1 < g.N
  to_ : ∀ a ∈ g.arcs, a.2.2 < g.N
  sym : ∀ a ∈ g.arcs, a.2.1 = eps ∨ a.2.1 ∈ g.sig
  end_ : ∀ q ∈ g.ends, q < g.N
  asc : Sp.isSet g.sig = true
  full : ∀ s ∈ g.sig, s ≠ eps

variable {g}
theorem Ex.back {k p q : Nat} (h : Ex g k q) (e : Star (E g) p q) : Ex g k p := by
  cases k with
  | zero => obtain ⟨f, h1, h2⟩ := h; exact ⟨f, h1, e.trans h2⟩
  | succ k => obtain ⟨a, b, h1, h2, h3⟩ := h; exact ⟨a, b, e.trans h1, h2, h3⟩
theorem Lg.back {k p q : Nat} (h : Lg g k q) (e : Star (E g) p q) : Lg g k p := by
  cases k with
  | zero => obtain ⟨f, h1, h2⟩ := h; exact ⟨f, h1, (e.mono fun a b h => ⟨eps, h⟩).trans h2⟩
  | succ k => obtain ⟨a, b, h1, h2, h3⟩ := h; exact ⟨a, b, e.trans h1, h2, h3⟩
theorem F_mem_len {k : Nat} : ∀ {S : Nat → Prop} {w : List ByteArray}, w ∈ F g k S → w.length = k := by
  induction k with
  | zero => intro S w h; simp [F] at h; simp [h]
  | succ k ih =>
    intro S w h
    simp only [F, List.mem_flatMap] at h
    obtain ⟨s, _, h⟩ := h
    split at h
    · obtain ⟨v, hv, rfl⟩ := List.mem_map.1 h
      simp [ih hv]
    · simp at h
theorem F_congr {k : Nat} {S T : Nat → Prop} (h : ∀ q, S q ↔ T q) : F g k S = F g k T := by
  have : S = T := funext fun q => propext (h q)
  rw [this]
/-- The set may be cut to what leads on. -/
theorem F_cut {k : Nat} (hf : ∀ s ∈ g.sig, s ≠ eps) (S : Nat → Prop) : F g k (fun q => S q ∧ Ex g k q) = F g k S := by
  cases k with
  | zero => rfl
  | succ k =>
    have key : ∀ s, s ∈ g.sig → (fun q => StepTo g (fun q => S q ∧ Ex g (k + 1) q) s q ∧ Ex g k q) = (fun q => StepTo g S s q ∧ Ex g k q) := by
      intro s hs
      funext q
      apply propext
      constructor
      · rintro ⟨⟨p, r, ⟨h1, _⟩, h2, h3⟩, h4⟩; exact ⟨⟨p, r, h1, h2, h3⟩, h4⟩
      · rintro ⟨⟨p, r, h1, h2, h3⟩, h4⟩
        exact ⟨⟨p, r, ⟨h1, p, r, .refl p, ⟨s, hf s hs, h2⟩, Ex.back h4 h3⟩, h2, h3⟩, h4⟩
    have key2 : ∀ s, s ∈ g.sig → ((∃ q, StepTo g (fun q => S q ∧ Ex g (k + 1) q) s q ∧ Ex g k q) ↔ ∃ q, StepTo g S s q ∧ Ex g k q) := by
      intro s hs
      have := key s hs
      constructor
      · rintro ⟨q, h⟩; exact ⟨q, by rw [← congrFun this q]; exact h⟩
      · rintro ⟨q, h⟩; exact ⟨q, by rw [congrFun this q]; exact h⟩
    simp only [F]
    rw [List.flatMap_def, List.flatMap_def]
    congr 1
    apply List.map_congr_left
    intro s hs
    rw [key s hs]

end Nf
end Go.Proofs.Ytnaojfhhjknejaa

/-
  A pool of numbers that grows until it is closed, plainly.
-/
set_option linter.unusedVariables false
namespace Go.Proofs.Ytnaojfhhjknejaa
namespace Nf

theorem nodup_le : ∀ (N : Nat) (L : List Nat), L.Nodup → (∀ q ∈ L, q < N) → L.length ≤ N
  | 0, L, _, h => by
    cases L with
    | nil => simp
    | cons a r => have := h a (by simp); omega
  | N + 1, L, hn, h => by
    have h1 := nodup_le N (L.filter fun q => decide (q ≠ N)) (List.Pairwise.filter _ hn) (fun q hq => by
      simp only [List.mem_filter, decide_eq_true_eq] at hq
      have := h q hq.1
      omega)
    have h2 : ∀ (L : List Nat), L.Nodup → L.length ≤ (L.filter fun q => decide (q ≠ N)).length + 1 := by
      intro L
      induction L with
      | nil => intro _; simp
      | cons a r ih =>
        intro hn
        rw [List.nodup_cons] at hn
        by_cases e : a = N
        · subst e
          have : r.filter (fun q => decide (q ≠ a)) = r := by
            rw [List.filter_eq_self]
            intro b hb
            simp only [decide_eq_true_eq]
            rintro rfl
            exact hn.1 hb
          rw [List.filter_cons_of_neg (by simp), this]; simp
        · rw [List.filter_cons_of_pos (by simpa using e)]
          have := ih hn.2
          simp only [List.length_cons]; omega
    have := h2 L hn
    omega

/-- Add a number, once. -/
def ins (L : List Nat) (q : Nat) : List Nat := if q ∈ L then L else L ++ [q]
theorem ins_old {L : List Nat} {q : Nat} (h : q ∈ L) : ins L q = L := if_pos h
theorem ins_new {L : List Nat} {q : Nat} (h : q ∉ L) : ins L q = L ++ [q] := if_neg h
theorem mem_ins {L : List Nat} {q x : Nat} : x ∈ ins L q ↔ x ∈ L ∨ x = q := by
  unfold ins; split
  · rename_i h
    exact ⟨.inl, fun k => k.elim id (fun e => e ▸ h)⟩
  · simp
theorem ins_pre (L : List Nat) (q : Nat) : L <+: ins L q := by
  unfold ins; split
  · exact List.prefix_refl _
  · exact List.prefix_append _ _
theorem ins_nodup {L : List Nat} {q : Nat} (h : L.Nodup) : (ins L q).Nodup := by
  unfold ins; split
  · exact h
  · rename_i hq
    unfold List.Nodup at *
    rw [List.pairwise_append]
    exact ⟨h, by simp, fun a ha b hb => by simp at hb; subst hb; rintro rfl; exact hq ha⟩
theorem pre_get {l L : List Nat} (h : l <+: L) {j x : Nat} (hj : l[j]? = some x) : L[j]? = some x := by
  obtain ⟨r, rfl⟩ := h
  have := (List.getElem?_eq_some_iff.1 hj).1
  rw [List.getElem?_append_left this]; exact hj
theorem pre_mem {l L : List Nat} (h : l <+: L) {x : Nat} (hx : x ∈ l) : x ∈ L := by
  obtain ⟨r, rfl⟩ := h
  exact List.mem_append_left _ hx
theorem pre_len {l L : List Nat} (h : l <+: L) : l.length ≤ L.length := by
  obtain ⟨r, rfl⟩ := h
  simp

/-- A pool: each number once, all below N. -/
structure Pool (N : Nat) (L : List Nat) : Prop where
  nodup : L.Nodup
  lt : ∀ q ∈ L, q < N
theorem Pool.len {N : Nat} {L : List Nat} (h : Pool N L) : L.length ≤ N := nodup_le N L h.nodup h.lt
theorem Pool.ins {N : Nat} {L : List Nat} (h : Pool N L) {q : Nat} (hq : q < N) : Pool N (ins L q) :=
  ⟨ins_nodup h.nodup, fun x hx => by rcases mem_ins.1 hx with h1 | rfl; exact h.lt x h1; exact hq⟩
theorem Pool.nil (N : Nat) : Pool N [] := ⟨by simp, by simp⟩

def Rel (tabs : List (Nat → List Nat)) (p q : Nat) : Prop := ∃ R, R ∈ tabs ∧ q ∈ R p

/-- The pool L has grown from l; what its first i numbers lead to is in it. -/
structure Fol (tabs : List (Nat → List Nat)) (N : Nat) (l : List Nat) (i : Nat) (L : List Nat) : Prop where
  pool : Pool N L
  pre : l <+: L
  le : i ≤ L.length
  done : ∀ j p, j < i → L[j]? = some p → ∀ q, Rel tabs p q → q ∈ L
  sound : ∀ q ∈ L, ∃ p, p ∈ l ∧ Star (Rel tabs) p q
/-- .. and of what the i-th one leads to, what the first t tables say, and of the next one the first m. -/
structure FolIn (tabs : List (Nat → List Nat)) (N : Nat) (l : List Nat) (i p t m : Nat) (L : List Nat) : Prop where
  fol : Fol tabs N l i L
  at_ : L[i]? = some p
  tabs_ : ∀ R, R ∈ tabs.take t → ∀ q ∈ R p, q ∈ L
  part : ∀ R, tabs[t]? = some R → ∀ q ∈ (R p).take m, q ∈ L

variable {tabs : List (Nat → List Nat)} {N i : Nat} {l L : List Nat}
theorem Fol.start (h : Pool N l) : Fol tabs N l 0 l := ⟨h, List.prefix_refl _, Nat.zero_le _, fun j p hj => absurd hj (by omega), fun q hq => ⟨q, hq, .refl q⟩⟩
theorem Fol.at_ (h : Fol tabs N l i L) {p : Nat} (hp : L[i]? = some p) : FolIn tabs N l i p 0 0 L := ⟨h, hp, by simp, by simp⟩
theorem FolIn.add {p t m q : Nat} {R : Nat → List Nat} (h : FolIn tabs N l i p t m L) (hR : tabs[t]? = some R) (hq : (R p)[m]? = some q) (hN : q < N) : FolIn tabs N l i p t (m + 1) (ins L q) := by
  have hpre := ins_pre L q
  refine ⟨⟨h.fol.pool.ins hN, h.fol.pre.trans hpre, Nat.le_trans h.fol.le (pre_len hpre), fun j x hj hx y hy => ?_, fun x hx => ?_⟩, pre_get hpre h.at_, fun T hT x hx => pre_mem hpre (h.tabs_ T hT x hx), fun T hT x hx => ?_⟩
  · have hjl : j < L.length := Nat.lt_of_lt_of_le hj h.fol.le
    have : L[j]? = some L[j] := List.getElem?_eq_getElem hjl
    have e := pre_get hpre this
    rw [hx] at e
    cases e
    exact pre_mem hpre (h.fol.done j _ hj this y hy)
  · rcases mem_ins.1 hx with h1 | rfl
    · exact h.fol.sound x h1
    · obtain ⟨a, ha, hs⟩ := h.fol.sound p (List.mem_of_getElem? h.at_)
      exact ⟨a, ha, hs.snoc ⟨R, List.mem_of_getElem? hR, List.mem_of_getElem? hq⟩⟩
  · rw [hR] at hT
    cases hT
    have e : (R p).take (m + 1) = (R p).take m ++ [q] := by
      obtain ⟨h1, h2⟩ := List.getElem?_eq_some_iff.1 hq
      rw [List.take_succ_eq_append_getElem h1, h2]
    rw [e] at hx
    rcases List.mem_append.1 hx with hx | hx
    · exact pre_mem hpre (h.part R hR x hx)
    · simp at hx; subst hx; exact mem_ins.2 (.inr rfl)
theorem FolIn.next {p t m : Nat} {R : Nat → List Nat} (h : FolIn tabs N l i p t m L) (hR : tabs[t]? = some R) (hm : (R p).length ≤ m) : FolIn tabs N l i p (t + 1) 0 L := by
  refine ⟨h.fol, h.at_, fun T hT x hx => ?_, by simp⟩
  have e : tabs.take (t + 1) = tabs.take t ++ [R] := by
    obtain ⟨h1, h2⟩ := List.getElem?_eq_some_iff.1 hR
    rw [List.take_succ_eq_append_getElem h1, h2]
  rw [e] at hT
  rcases List.mem_append.1 hT with hT | hT
  · exact h.tabs_ T hT x hx
  · simp at hT; subst hT
    exact h.part T hR x (by rw [List.take_of_length_le hm]; exact hx)
theorem FolIn.round {p t m : Nat} (h : FolIn tabs N l i p t m L) (ht : tabs.length ≤ t) : Fol tabs N l (i + 1) L := by
  have hi := (List.getElem?_eq_some_iff.1 h.at_).1
  refine ⟨h.fol.pool, h.fol.pre, hi, fun j x hj hx y hy => ?_, h.fol.sound⟩
  by_cases e : j = i
  · subst e
    rw [h.at_] at hx
    cases hx
    obtain ⟨R, hR, hy⟩ := hy
    exact h.tabs_ R (by rw [List.take_of_length_le ht]; exact hR) y hy
  · exact h.fol.done j x (by omega) hx y hy
/-- Closed. -/
theorem Fol.mem (h : Fol tabs N l i L) (hi : L.length ≤ i) (q : Nat) : q ∈ L ↔ ∃ p, p ∈ l ∧ Star (Rel tabs) p q := by
  constructor
  · exact h.sound q
  · rintro ⟨p, hp, hs⟩
    refine Star.keeps (P := fun x => x ∈ L) (fun a b hab ha => ?_) hs (pre_mem h.pre hp)
    obtain ⟨j, hj, e⟩ := List.mem_iff_getElem.1 ha
    exact h.done j a (by omega) (by rw [List.getElem?_eq_getElem hj, e]) b hab

end Nf
end Go.Proofs.Ytnaojfhhjknejaa
