/-
  An acceptor turned round, plainly: it accepts a word read from its end just if the acceptor accepts the word.
-/
import Derived.Test.YtnaojfhhjknejaaMgReRowReMem
import Derived.Test.YtnaojfhhjknejaaMgAuZAuZaAuKnAuLa
set_option linter.unusedVariables false
namespace Go.Proofs.Ytnaojfhhjknejaa
open Go.RowKit
namespace Nf

/-- r is g turned round: a new begin, from which empty arcs lead to all that were ends. -/
structure Turned (g r : Gr) : Prop where
  zero : ∀ s q, (0, s, q) ∈ r.arcs ↔ s = eps ∧ ∃ d, d ∈ g.ends ∧ q = d + 1
  succ : ∀ p s q, (p + 1, s, q) ∈ r.arcs ↔ ∃ f, q = f + 1 ∧ (f, s, p) ∈ g.arcs
  ends : ∀ q, q ∈ r.ends ↔ q = 1
variable {g r : Gr}
theorem Turned.fwd (h : Turned g r) {p q : Nat} {v : List ByteArray} (k : Way g p v q) : Way r (q + 1) v.reverse (p + 1) := by
  induction k with
  | nil p => exact .nil _
  | eps h1 _ ih =>
    have := Way.append ih (.eps ((h.succ _ eps _).2 ⟨_, rfl, h1⟩) (.nil _))
    simpa using this
  | sym h0 h1 _ ih =>
    have := Way.append ih (.sym h0 ((h.succ _ _ _).2 ⟨_, rfl, h1⟩) (.nil _))
    simpa using this
theorem Turned.back (h : Turned g r) {a b : Nat} {u : List ByteArray} (k : Way r a u b) : ∀ q, a = q + 1 → ∃ p, b = p + 1 ∧ Way g p u.reverse q := by
  induction k with
  | nil p => intro q e; exact ⟨q, e, .nil q⟩
  | eps h1 _ ih =>
    intro q e
    subst e
    obtain ⟨f, rfl, hf⟩ := (h.succ _ _ _).1 h1
    obtain ⟨p, e, hp⟩ := ih f rfl
    exact ⟨p, e, by have := Way.append hp (.eps hf (.nil q)); simpa using this⟩
  | sym h0 h1 _ ih =>
    intro q e
    subst e
    obtain ⟨f, rfl, hf⟩ := (h.succ _ _ _).1 h1
    obtain ⟨p, e, hp⟩ := ih f rfl
    exact ⟨p, e, by have := Way.append hp (.sym h0 hf (.nil q)); simpa using this⟩
theorem Turned.acc (h : Turned g r) {v : List ByteArray} (hs : ∀ s ∈ v, s ≠ eps) : Acc r v.reverse ↔ Acc g v := by
  rw [acc_way (g := g) hs, acc_way (g := r) (fun s hm => hs s (List.mem_reverse.1 hm))]
  constructor
  · rintro ⟨q, hq, k⟩
    rw [h.ends] at hq
    subst hq
    generalize ha : 0 = a at k
    generalize hb : 1 = b at k
    generalize hu : v.reverse = u at k
    cases k with
    | nil p => omega
    | eps h1 h2 =>
      subst ha
      obtain ⟨_, d, hd, rfl⟩ := (h.zero _ _).1 h1
      obtain ⟨p, e, hp⟩ := h.back h2 d rfl
      have : p = 0 := by omega
      subst this
      exact ⟨d, hd, by rw [← hu] at hp; simpa using hp⟩
    | sym h0 h1 _ =>
      subst ha
      exact absurd ((h.zero _ _).1 h1).1 h0
  · rintro ⟨d, hd, k⟩
    exact ⟨1, (h.ends 1).2 rfl, .eps ((h.zero _ _).2 ⟨rfl, d, hd, rfl⟩) (h.fwd k)⟩

/-- The parts of the turned net. -/
def turnArcs (n : Net) : List ArcV := (n.ends.map fun d => ⟨0, eps, eps, d.s + 1, 0⟩) ++ n.arcs.map fun a => ⟨a.t + 1, a.i, a.o, a.f + 1, 0⟩
structure IsTurn (n m : Net) : Prop where
  sig : m.sig = n.sig
  st : m.st = n.st + 1
  arcs : m.arcs = turnArcs n
  ends : m.ends = [⟨1, 0⟩]
theorem err_parts {n : Net} (h : errNet n = 0) : n.st ≤ 3000 ∧ n.arcs.length ≤ 60000 ∧ n.ends.length ≤ 60000 ∧ Sp.errAlpha n.sig = 0 ∧ netOk n = true ∧ accOk n = true := by
  unfold errNet at h
  by_cases c : 3000 < n.st ∨ 60000 < n.arcs.length ∨ 60000 < n.ends.length
  · rw [if_pos c] at h; cases h
  · rw [if_neg c] at h
    by_cases c2 : Sp.errAlpha n.sig ≠ 0
    · rw [if_pos c2] at h; exact absurd h c2
    · rw [if_neg c2] at h
      by_cases c3 : netOk n = false
      · rw [if_pos c3] at h; cases h
      · rw [if_neg c3] at h
        by_cases c4 : accOk n = false
        · rw [if_pos c4] at h; cases h
        · exact ⟨by omega, by omega, by omega, Classical.byContradiction c2, by simpa using c3, by simpa using c4⟩
theorem err_zero {n : Net} (h1 : n.st ≤ 3000) (h2 : n.arcs.length ≤ 60000) (h3 : n.ends.length ≤ 60000) (h4 : Sp.errAlpha n.sig = 0) (h5 : netOk n = true) (h6 : accOk n = true) : errNet n = 0 := by
  unfold errNet
  rw [if_neg (by omega), if_neg (by simpa using h4), if_neg (by simp [h5]), if_neg (by simp [h6])]
theorem ok_parts {n : Net} (h : netOk n = true) : 1 ≤ n.st ∧ (∀ a ∈ n.arcs, (0 ≤ a.f ∧ a.f < n.st) ∧ (0 ≤ a.t ∧ a.t < n.st) ∧ syOk n a.i = true ∧ syOk n a.o = true) ∧ ∀ d ∈ n.ends, 0 ≤ d.s ∧ d.s < n.st := by
  unfold netOk at h
  simp only [Bool.and_eq_true, decide_eq_true_eq, List.all_eq_true] at h
  refine ⟨h.1.1, fun a ha => ?_, fun d hd => ?_⟩
  · have := h.1.2 a ha
    simp only [arcOk, stOk, Bool.and_eq_true, decide_eq_true_eq] at this
    exact ⟨this.1.1.1, this.1.1.2, this.1.2, this.2⟩
  · have := h.2 d hd
    simpa only [stOk, Bool.and_eq_true, decide_eq_true_eq] using this
theorem IsTurn.err {n m : Net} (h : IsTurn n m) (he : errNet n = 0) (h1 : n.st ≠ 3000) (h2 : n.arcs.length + n.ends.length ≤ 60000) : errNet m = 0 := by
  obtain ⟨p1, p2, p3, p4, p5, p6⟩ := err_parts he
  obtain ⟨q1, q2, q3⟩ := ok_parts p5
  have hsy : ∀ s, syOk m s = syOk n s := fun s => by unfold syOk; rw [h.sig]
  refine err_zero (by rw [h.st]; omega) (by rw [h.arcs]; simp [turnArcs]; omega) (by rw [h.ends]; simp) (by rw [h.sig]; exact p4) ?_ ?_
  · unfold netOk
    simp only [Bool.and_eq_true, decide_eq_true_eq, List.all_eq_true]
    refine ⟨⟨by rw [h.st]; omega, fun a ha => ?_⟩, fun d hd => ?_⟩
    · rw [h.arcs] at ha
      simp only [arcOk, stOk, Bool.and_eq_true, decide_eq_true_eq, hsy, h.st]
      rcases List.mem_append.1 ha with ha | ha
      · obtain ⟨d, hd, rfl⟩ := List.mem_map.1 ha
        have := q3 d hd
        have e : syOk n eps = true := by simp [syOk, show eps.size = 0 from rfl]
        exact ⟨⟨⟨⟨by show (0 : Int) ≤ 0; omega, by show (0 : Int) < _; omega⟩, by show (0 : Int) ≤ d.s + 1; omega, by show d.s + 1 < _; omega⟩, e⟩, e⟩
      · obtain ⟨b, hb, rfl⟩ := List.mem_map.1 ha
        obtain ⟨x1, x2, x3, x4⟩ := q2 b hb
        exact ⟨⟨⟨⟨by show (0 : Int) ≤ b.t + 1; omega, by show b.t + 1 < _; omega⟩, by show (0 : Int) ≤ b.f + 1; omega, by show b.f + 1 < _; omega⟩, x3⟩, x4⟩
    · rw [h.ends] at hd
      simp at hd; subst hd
      simp only [stOk, Bool.and_eq_true, decide_eq_true_eq, h.st]
      exact ⟨by show (0 : Int) ≤ 1; omega, by show (1 : Int) < _; omega⟩
  · unfold accOk at p6 ⊢
    simp only [Bool.and_eq_true, List.all_eq_true] at p6 ⊢
    refine ⟨fun a ha => ?_, fun d hd => ?_⟩
    · rw [h.arcs] at ha
      rcases List.mem_append.1 ha with ha | ha
      · obtain ⟨d, hd, rfl⟩ := List.mem_map.1 ha
        simp [arcFree, bl_true]
      · obtain ⟨b, hb, rfl⟩ := List.mem_map.1 ha
        have := p6.1 b hb
        simp only [arcFree, Bool.and_eq_true] at this ⊢
        exact ⟨this.1, rfl⟩
    · rw [h.ends] at hd
      simp at hd; subst hd
      rfl
theorem IsTurn.turned {n m : Net} (h : IsTurn n m) (he : errNet n = 0) : Turned (netGr n) (netGr m) := by
  obtain ⟨p1, p2, p3, p4, p5, p6⟩ := err_parts he
  obtain ⟨q1, q2, q3⟩ := ok_parts p5
  have hm : ∀ p s q, (p, s, q) ∈ (netGr m).arcs ↔ ∃ a, a ∈ turnArcs n ∧ a.f.toNat = p ∧ a.i = s ∧ a.t.toNat = q := by
    intro p s q
    show (p, s, q) ∈ m.arcs.map _ ↔ _
    rw [h.arcs, List.mem_map]
    simp only [Prod.mk.injEq]
  have hg : ∀ p s q, (p, s, q) ∈ (netGr n).arcs ↔ ∃ a, a ∈ n.arcs ∧ a.f.toNat = p ∧ a.i = s ∧ a.t.toNat = q := by
    intro p s q
    show (p, s, q) ∈ n.arcs.map _ ↔ _
    rw [List.mem_map]
    simp only [Prod.mk.injEq]
  have hd : ∀ q, q ∈ (netGr n).ends ↔ ∃ d, d ∈ n.ends ∧ d.s.toNat = q := by
    intro q
    show q ∈ n.ends.map _ ↔ _
    rw [List.mem_map]
  refine ⟨fun s q => ?_, fun p s q => ?_, fun q => ?_⟩
  · rw [hm]
    constructor
    · rintro ⟨a, ha, h1, h2, h3⟩
      rcases List.mem_append.1 ha with ha | ha
      · obtain ⟨d, hdd, rfl⟩ := List.mem_map.1 ha
        have := q3 d hdd
        refine ⟨h2.symm, d.s.toNat, (hd _).2 ⟨d, hdd, rfl⟩, ?_⟩
        have h3 : (d.s + 1).toNat = q := h3
        omega
      · obtain ⟨b, hb, rfl⟩ := List.mem_map.1 ha
        have := q2 b hb
        have h1 : (b.t + 1).toNat = 0 := h1
        omega
    · rintro ⟨rfl, d, hdd, rfl⟩
      obtain ⟨e, he', rfl⟩ := (hd d).1 hdd
      have := q3 e he'
      exact ⟨_, List.mem_append_left _ (List.mem_map.2 ⟨e, he', rfl⟩), rfl, rfl, by show (e.s + 1).toNat = _; omega⟩
  · rw [hm]
    constructor
    · rintro ⟨a, ha, h1, h2, h3⟩
      rcases List.mem_append.1 ha with ha | ha
      · obtain ⟨d, hdd, rfl⟩ := List.mem_map.1 ha
        have h1 : (0 : Int).toNat = p + 1 := h1
        simp at h1
      · obtain ⟨b, hb, rfl⟩ := List.mem_map.1 ha
        have := q2 b hb
        have h1 : (b.t + 1).toNat = p + 1 := h1
        have h3 : (b.f + 1).toNat = q := h3
        exact ⟨b.f.toNat, by omega, (hg _ _ _).2 ⟨b, hb, rfl, h2, by omega⟩⟩
    · rintro ⟨f, rfl, hf⟩
      obtain ⟨b, hb, h1, h2, h3⟩ := (hg _ _ _).1 hf
      have := q2 b hb
      exact ⟨_, List.mem_append_right _ (List.mem_map.2 ⟨b, hb, rfl⟩), by show (b.t + 1).toNat = _; omega, h2, by show (b.f + 1).toNat = _; omega⟩
  · show q ∈ m.ends.map _ ↔ _
    rw [h.ends]
    simp
end Nf
end Go.Proofs.Ytnaojfhhjknejaa
