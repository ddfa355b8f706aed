/-
  A pool of numbers that grows until it is closed, plainly.
-/
import Derived.Test.YthpnipkihpoooaaAuNfa
set_option linter.unusedVariables false
namespace Go.Proofs.Ythpnipkihpoooaa
namespace Nf

theorem nodup_le : ∀ (N : Nat) (L : List Nat), L.Nodup → (∀ q ∈ L, q < N) → L.length ≤ N
  | 0, L, _, h => by
    cases L with
    | nil => simp
    | cons a r => have := h a (by simp); omega
  | N + 1, L, hn, h => by
    have h1 := nodup_le N (L.filter fun q => decide (q ≠ N)) (List.Pairwise.filter _ hn) (fun q hq => by
      simp only [List.mem_filter, decide_eq_true_eq] at hq
      have := h q hq.1
      omega)
    have h2 : ∀ (L : List Nat), L.Nodup → L.length ≤ (L.filter fun q => decide (q ≠ N)).length + 1 := by
      intro L
      induction L with
      | nil => intro _; simp
      | cons a r ih =>
        intro hn
        rw [List.nodup_cons] at hn
        by_cases e : a = N
        · subst e
          have : r.filter (fun q => decide (q ≠ a)) = r := by
            rw [List.filter_eq_self]
            intro b hb
            simp only [decide_eq_true_eq]
            rintro rfl
            exact hn.1 hb
          rw [List.filter_cons_of_neg (by simp), this]; simp
        · rw [List.filter_cons_of_pos (by simpa using e)]
          have := ih hn.2
          simp only [List.length_cons]; omega
    have := h2 L hn
    omega

/-- Add a number, once. -/
def ins (L : List Nat) (q : Nat) : List Nat := if q ∈ L then L else L ++ [q]
theorem ins_old {L : List Nat} {q : Nat} (h : q ∈ L) : ins L q = L := if_pos h
theorem ins_new {L : List Nat} {q : Nat} (h : q ∉ L) : ins L q = L ++ [q] := if_neg h
theorem mem_ins {L : List Nat} {q x : Nat} : x ∈ ins L q ↔ x ∈ L ∨ x = q := by
  unfold ins; split
  · rename_i h
    exact ⟨.inl, fun k => k.elim id (fun e => e ▸ h)⟩
  · simp
theorem ins_pre (L : List Nat) (q : Nat) : L <+: ins L q := by
  unfold ins; split
  · exact List.prefix_refl _
  · exact List.prefix_append _ _
theorem ins_nodup {L : List Nat} {q : Nat} (h : L.Nodup) : (ins L q).Nodup := by
  unfold ins; split
  · exact h
  · rename_i hq
    unfold List.Nodup at *
    rw [List.pairwise_append]
    exact ⟨h, by simp, fun a ha b hb => by simp at hb; subst hb; rintro rfl; exact hq ha⟩
theorem pre_get {l L : List Nat} (h : l <+: L) {j x : Nat} (hj : l[j]? = some x) : L[j]? = some x := by
  obtain ⟨r, rfl⟩ := h
  have := (List.getElem?_eq_some_iff.1 hj).1
  rw [List.getElem?_append_left this]; exact hj
theorem pre_mem {l L : List Nat} (h : l <+: L) {x : Nat} (hx : x ∈ l) : x ∈ L := by
  obtain ⟨r, rfl⟩ := h
  exact List.mem_append_left _ hx
theorem pre_len {l L : List Nat} (h : l <+: L) : l.length ≤ L.length := by
  obtain ⟨r, rfl⟩ := h
  simp

/-- A pool: each number once, all below N. -/
structure Pool (N : Nat) (L : List Nat) : Prop where
  nodup : L.Nodup
  lt : ∀ q ∈ L, q < N
theorem Pool.len {N : Nat} {L : List Nat} (h : Pool N L) : L.length ≤ N := nodup_le N L h.nodup h.lt
theorem Pool.ins {N : Nat} {L : List Nat} (h : Pool N L) {q : Nat} (hq : q < N) : Pool N (ins L q) :=
  ⟨ins_nodup h.nodup, fun x hx => by rcases mem_ins.1 hx with h1 | rfl; exact h.lt x h1; exact hq⟩
theorem Pool.nil (N : Nat) : Pool N [] := ⟨by simp, by simp⟩

def Rel (tabs : List (Nat → List Nat)) (p q : Nat) : Prop := ∃ R, R ∈ tabs ∧ q ∈ R p

/-- The pool L has grown from l; what its first i numbers lead to is in it. -/
structure Fol (tabs : List (Nat → List Nat)) (N : Nat) (l : List Nat) (i : Nat) (L : List Nat) : Prop where
  pool : Pool N L
  pre : l <+: L
  le : i ≤ L.length
  done : ∀ j p, j < i → L[j]? = some p → ∀ q, Rel tabs p q → q ∈ L
  sound : ∀ q ∈ L, ∃ p, p ∈ l ∧ Star (Rel tabs) p q
/-- .. and of what the i-th one leads to, what the first t tables say, and of the next one the first m. -/
structure FolIn (tabs : List (Nat → List Nat)) (N : Nat) (l : List Nat) (i p t m : Nat) (L : List Nat) : Prop where
  fol : Fol tabs N l i L
  at_ : L[i]? = some p
  tabs_ : ∀ R, R ∈ tabs.take t → ∀ q ∈ R p, q ∈ L
  part : ∀ R, tabs[t]? = some R → ∀ q ∈ (R p).take m, q ∈ L

variable {tabs : List (Nat → List Nat)} {N i : Nat} {l L : List Nat}
theorem Fol.start (h : Pool N l) : Fol tabs N l 0 l := ⟨h, List.prefix_refl _, Nat.zero_le _, fun j p hj => absurd hj (by omega), fun q hq => ⟨q, hq, .refl q⟩⟩
theorem Fol.at_ (h : Fol tabs N l i L) {p : Nat} (hp : L[i]? = some p) : FolIn tabs N l i p 0 0 L := ⟨h, hp, by simp, by simp⟩
theorem FolIn.add {p t m q : Nat} {R : Nat → List Nat} (h : FolIn tabs N l i p t m L) (hR : tabs[t]? = some R) (hq : (R p)[m]? = some q) (hN : q < N) : FolIn tabs N l i p t (m + 1) (ins L q) := by
  have hpre := ins_pre L q
  refine ⟨⟨h.fol.pool.ins hN, h.fol.pre.trans hpre, Nat.le_trans h.fol.le (pre_len hpre), fun j x hj hx y hy => ?_, fun x hx => ?_⟩, pre_get hpre h.at_, fun T hT x hx => pre_mem hpre (h.tabs_ T hT x hx), fun T hT x hx => ?_⟩
  · have hjl : j < L.length := Nat.lt_of_lt_of_le hj h.fol.le
    have : L[j]? = some L[j] := List.getElem?_eq_getElem hjl
    have e := pre_get hpre this
    rw [hx] at e
    cases e
    exact pre_mem hpre (h.fol.done j _ hj this y hy)
  · rcases mem_ins.1 hx with h1 | rfl
    · exact h.fol.sound x h1
    · obtain ⟨a, ha, hs⟩ := h.fol.sound p (List.mem_of_getElem? h.at_)
      exact ⟨a, ha, hs.snoc ⟨R, List.mem_of_getElem? hR, List.mem_of_getElem? hq⟩⟩
  · rw [hR] at hT
    cases hT
    have e : (R p).take (m + 1) = (R p).take m ++ [q] := by
      obtain ⟨h1, h2⟩ := List.getElem?_eq_some_iff.1 hq
      rw [List.take_succ_eq_append_getElem h1, h2]
    rw [e] at hx
    rcases List.mem_append.1 hx with hx | hx
    · exact pre_mem hpre (h.part R hR x hx)
    · simp at hx; subst hx; exact mem_ins.2 (.inr rfl)
theorem FolIn.next {p t m : Nat} {R : Nat → List Nat} (h : FolIn tabs N l i p t m L) (hR : tabs[t]? = some R) (hm : (R p).length ≤ m) : FolIn tabs N l i p (t + 1) 0 L := by
  refine ⟨h.fol, h.at_, fun T hT x hx => ?_, by simp⟩
  have e : tabs.take (t + 1) = tabs.take t ++ [R] := by
    obtain ⟨h1, h2⟩ := List.getElem?_eq_some_iff.1 hR
    rw [List.take_succ_eq_append_getElem h1, h2]
  rw [e] at hT
  rcases List.mem_append.1 hT with hT | hT
  · exact h.tabs_ T hT x hx
  · simp at hT; subst hT
    exact h.part T hR x (by rw [List.take_of_length_le hm]; exact hx)
theorem FolIn.round {p t m : Nat} (h : FolIn tabs N l i p t m L) (ht : tabs.length ≤ t) : Fol tabs N l (i + 1) L := by
  have hi := (List.getElem?_eq_some_iff.1 h.at_).1
  refine ⟨h.fol.pool, h.fol.pre, hi, fun j x hj hx y hy => ?_, h.fol.sound⟩
  by_cases e : j = i
  · subst e
    rw [h.at_] at hx
    cases hx
    obtain ⟨R, hR, hy⟩ := hy
    exact h.tabs_ R (by rw [List.take_of_length_le ht]; exact hR) y hy
  · exact h.fol.done j x (by omega) hx y hy
/-- Closed. -/
theorem Fol.mem (h : Fol tabs N l i L) (hi : L.length ≤ i) (q : Nat) : q ∈ L ↔ ∃ p, p ∈ l ∧ Star (Rel tabs) p q := by
  constructor
  · exact h.sound q
  · rintro ⟨p, hp, hs⟩
    refine Star.keeps (P := fun x => x ∈ L) (fun a b hab ha => ?_) hs (pre_mem h.pre hp)
    obtain ⟨j, hj, e⟩ := List.mem_iff_getElem.1 ha
    exact h.done j a (by omega) (by rw [List.getElem?_eq_getElem hj, e]) b hab

end Nf
end Go.Proofs.Ythpnipkihpoooaa
