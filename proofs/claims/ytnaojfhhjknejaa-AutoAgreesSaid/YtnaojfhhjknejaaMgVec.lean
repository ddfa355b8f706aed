/-
  Rows of one-cell elements in a block of the call's own: read, written, sorted; and what compaction leaves of a list, plainly.
-/
import Derived.WalkKit
import Derived.Sort.Grow
import Derived.Shelf.GgSortFunc.Insertion
set_option linter.unusedVariables false
namespace Go.Proofs.Ytnaojfhhjknejaa
open Go.RowKit

/-- Block g has 'cap' cells of type e; the first n hold what A says. -/
def Vec {α : Type} (en : α → Value) (w : World) (g : Nat) (e : TypeId) (cap n : Nat) (A : Nat → α) : Prop :=
  ∃ cur, w.heap[g]? = some (.cells cur e (0, 0)) ∧ cur.size = cap ∧ n ≤ cap ∧ cap ≤ maxLen ∧ ∀ i, i < n → cur[i]? = some (en (A i))

section
variable {α : Type} {en : α → Value} {w : World} {g : Nat} {e : TypeId} {cap n : Nat} {A : Nat → α}

theorem Vec.cell (h : Vec en w g e cap n A) {i : Nat} (hi : i < n) : w.cell? ⟨g, i, none⟩ = some (en (A i)) := by
  obtain ⟨cur, h1, _, _, _, h3⟩ := h
  simp [World.cell?, h1, h3 i hi]
theorem Vec.free (h : Vec en w g e cap n A) (i : Nat) : w.frozen? ⟨g, i, none⟩ = false := by
  obtain ⟨cur, h1, _⟩ := h
  simp [World.frozen?, h1]
theorem Vec.lt (h : Vec en w g e cap n A) : g < w.heap.size := by
  obtain ⟨cur, h1, _⟩ := h
  exact (Array.getElem?_eq_some_iff.1 h1).1
theorem Vec.le (h : Vec en w g e cap n A) : n ≤ cap ∧ cap ≤ 9223372036854775807 := by
  obtain ⟨cur, _, _, h1, h2, _⟩ := h
  unfold maxLen at h2
  exact ⟨h1, h2⟩
theorem Vec.congr {B : Nat → α} (h : Vec en w g e cap n A) (hab : ∀ i, i < n → A i = B i) : Vec en w g e cap n B := by
  obtain ⟨cur, h1, h2, h3, h4, h5⟩ := h
  exact ⟨cur, h1, h2, h3, h4, fun i hi => by rw [h5 i hi, hab i hi]⟩
theorem Vec.cut {m : Nat} (h : Vec en w g e cap n A) (hm : m ≤ n) : Vec en w g e cap m A := by
  obtain ⟨cur, h1, h2, h3, h4, h5⟩ := h
  exact ⟨cur, h1, h2, by omega, h4, fun i hi => h5 i (by omega)⟩
theorem Vec.set (h : Vec en w g e cap n A) {i : Nat} (x : α) : Vec en (w.setCell ⟨g, i, none⟩ (en x)) g e cap n (fun j => if j = i then x else A j) := by
  obtain ⟨cur, h1, h2, h3, h4, h5⟩ := h
  refine ⟨cur.setIfInBounds i (en x), by simp [World.setCell, Array.getElem?_modify, h1], by simpa using h2, h3, h4, fun j hj => ?_⟩
  rw [Array.getElem?_setIfInBounds]
  by_cases e : i = j
  · subst e; simp; omega
  · rw [if_neg e]
    show cur[j]? = some (en (if j = i then x else A j))
    rw [if_neg (fun h => e h.symm)]; exact h5 j hj
theorem Vec.past (h : Vec en w g e cap n A) {i : Nat} (hi : n ≤ i) (v : Value) : Vec en (w.setCell ⟨g, i, none⟩ v) g e cap n A := by
  obtain ⟨cur, h1, h2, h3, h4, h5⟩ := h
  refine ⟨cur.setIfInBounds i v, by simp [World.setCell, Array.getElem?_modify, h1], by simpa using h2, h3, h4, fun j hj => ?_⟩
  rw [Array.getElem?_setIfInBounds, if_neg (by omega)]; exact h5 j hj
theorem Vec.grown {w' : World} {row : Option Nat} (h : Vec en w g e cap n A) (hg : w.grownBy w' row) (hne : some g ≠ row) : Vec en w' g e cap n A := by
  have hl := h.lt
  obtain ⟨cur, h1, h2⟩ := h
  exact ⟨cur, by rw [hg.block g hl hne]; exact h1, h2⟩
theorem Vec.own {base : Nat} (h : Vec en w g e cap n A) (hb : base ≤ g) : w.ownsRow base e 1 (.slice (some ⟨g, 0, none⟩) n cap) n ((List.range n).map fun i => en (A i)) := by
  obtain ⟨cur, h1, h2, h3, h4, h5⟩ := h
  refine ⟨by simp, .inr ⟨g, cap, cur, rfl, hb, h1, h3, h4, by omega, ?_⟩⟩
  apply List.ext_getElem?
  intro i
  rw [Nat.mul_one]
  by_cases hi : i < n
  · rw [List.getElem?_take_of_lt hi, Array.getElem?_toList, h5 i hi]
    simp [hi]
  · rw [List.getElem?_eq_none (by simp; omega), List.getElem?_eq_none (by simp; omega)]
theorem Vec.of_own [Inhabited α] {base : Nat} {xs : List α} (h : w.ownsRow base e 1 (.slice (some ⟨g, 0, none⟩) xs.length cap) xs.length (xs.map en)) : Vec en w g e cap xs.length (fun i => xs.getD i default) ∧ base ≤ g := by
  rcases h.2 with ⟨h0, _⟩ | ⟨g', cap', cur, hv, hb, hg, hc, hm, hs, ht⟩
  · cases h0
  · injection hv with h1 h2 h3
    injection h1 with h1
    injection h1 with h1
    subst h1 h3
    refine ⟨⟨cur, hg, by omega, hc, hm, fun i hi => ?_⟩, hb⟩
    have : (xs.map en)[i]? = some (en (xs.getD i default)) := by simp [List.getD, hi]
    rw [← ht, List.getElem?_take, Nat.mul_one, if_pos hi, Array.getElem?_toList] at this
    exact this
theorem grownBy_set (i : Nat) (v : Value) : w.grownBy (w.setCell ⟨g, i, none⟩ v) (some g) :=
  ⟨rfl, rfl, rfl, by simp [World.setCell], fun k hk hne => Below.heap_setCell _ _ _ _ (fun e => hne (by rw [e]))⟩
theorem grownBy_trans {a b c : World} {row : Option Nat} (h : a.grownBy b row) (k : b.grownBy c row) : a.grownBy c row :=
  ⟨k.os.trans h.os, k.tape.trans h.tape, k.output.trans h.output, Nat.le_trans h.size k.size, fun i hi hne => (k.block i (Nat.lt_of_lt_of_le hi h.size) hne).trans (h.block i hi hne)⟩
theorem grownBy_refl (a : World) (row : Option Nat) : a.grownBy a row := ⟨rfl, rfl, rfl, Nat.le_refl _, fun _ _ _ => rfl⟩
theorem grownBy_drew {a b : World} {row : Option Nat} (h : a.grownBy b row) : a.grownBy b.drew row := ⟨h.os, h.tape, h.output, h.size, h.block⟩
theorem Vec.drew (h : Vec en w g e cap n A) : Vec en w.drew g e cap n A := h

/-- A run of stores behind the first n cells. -/
theorem Vec.pasts : ∀ (vs : List Value) {w : World} (i : Nat), n ≤ i → Vec en w g e cap n A → Vec en (w.setCells g i vs) g e cap n A ∧ w.grownBy (w.setCells g i vs) (some g)
  | [], w, i, _, h => ⟨h, grownBy_refl _ _⟩
  | v :: vs, w, i, hi, h => by
    have := Vec.pasts vs (w := w.setCell ⟨g, i, none⟩ v) (i + 1) (by omega) (h.past hi v)
    exact ⟨this.1, grownBy_trans (grownBy_set i v) this.2⟩

/-- Behind a sort of the first n cells. -/
theorem Vec.sorted [Inhabited α] (h : Vec en w g e cap n A) (m : Nat) (d : Array α) (os : Array Obj) (hd : d.size = n) :
    Vec en (sortWorld en w g 0 m d os) g e cap n (fun i => d.getD i default) ∧ w.grownBy (sortWorld en w g 0 m d os) (some g) := by
  have hg := h.lt
  obtain ⟨cur, h1, h2, h3, h4, h5⟩ := h
  have hp : (sortWorld en w g 0 m d os).heap[g]? = some (.cells (Sort.putCells en 0 d cur) e (0, 0)) := by
    unfold sortWorld Sort.grow
    show ((Sort.putRow en (Sort.ahead w m) g 0 d).heap ++ os)[g]? = _
    rw [Array.getElem?_append_left (by simp [Sort.putRow, Sort.mapBlock, Sort.ahead]; exact hg)]
    simp [Sort.putRow, Sort.mapBlock, Sort.ahead, Array.getElem?_modify, h1, Sort.onCells]
  refine ⟨⟨_, hp, by simp [Sort.putCells, h2], h3, h4, fun i hi => ?_⟩, ⟨rfl, rfl, rfl, ?_, fun k hk hne => ?_⟩⟩
  · have hic : i < cur.size := by omega
    have hid : i < d.size := by omega
    simp [Sort.putCells, hic, hid]
  · simp [sortWorld, Sort.grow, Sort.putRow, Sort.mapBlock, Sort.ahead]
  · unfold sortWorld Sort.grow
    show ((Sort.putRow en (Sort.ahead w m) g 0 d).heap ++ os)[k]? = _
    rw [Array.getElem?_append_left (by simp [Sort.putRow, Sort.mapBlock, Sort.ahead]; exact hk)]
    have hne' : g ≠ k := fun e => hne (by rw [e])
    simp [Sort.putRow, Sort.mapBlock, Sort.ahead, Array.getElem?_modify, hne']
end

/-- What compaction leaves: of neighbours that are equal the first one ('eq' is asked of the later one and the earlier one). -/
def compactFrom {α : Type} (eq : α → α → Bool) : α → List α → List α
  | _, [] => []
  | a, b :: r => if eq b a = true then compactFrom eq b r else b :: compactFrom eq b r
def compactOf {α : Type} (eq : α → α → Bool) : List α → List α
  | [] => []
  | a :: r => a :: compactFrom eq a r

theorem compactFrom_snoc {α : Type} (eq : α → α → Bool) : ∀ (l : List α) (z a b : α), compactFrom eq z (l ++ [a, b]) = if eq b a = true then compactFrom eq z (l ++ [a]) else compactFrom eq z (l ++ [a]) ++ [b]
  | [], z, a, b => by
    simp only [List.nil_append, compactFrom]
    cases eq a z <;> cases eq b a <;> simp
  | x :: l, z, a, b => by
    simp only [List.cons_append, compactFrom, compactFrom_snoc eq l x a b]
    cases eq x z <;> cases eq b a <;> simp
theorem compactOf_snoc {α : Type} (eq : α → α → Bool) (l : List α) (a b : α) : compactOf eq (l ++ [a, b]) = if eq b a = true then compactOf eq (l ++ [a]) else compactOf eq (l ++ [a]) ++ [b] := by
  cases l with
  | nil => simp only [List.nil_append, compactOf, compactFrom]; cases eq b a <;> simp
  | cons x l => simp only [List.cons_append, compactOf, compactFrom_snoc]; cases eq b a <;> simp
theorem compactOf_short {α : Type} (eq : α → α → Bool) {l : List α} (h : l.length < 2) : compactOf eq l = l := by
  match l, h with
  | [], _ => rfl
  | [a], _ => rfl
theorem compactOf_le {α : Type} (eq : α → α → Bool) : ∀ (l : List α), (compactOf eq l).length ≤ l.length
  | [] => Nat.le_refl _
  | a :: r => by
    have : ∀ (r : List α) (a : α), (compactFrom eq a r).length ≤ r.length := by
      intro r
      induction r with
      | nil => intro a; simp [compactFrom]
      | cons b r ih =>
        intro a
        simp only [compactFrom]
        split
        · have := ih b; simp; omega
        · have := ih b; simp; omega
    simp only [compactOf, List.length_cons]
    have := this r a
    omega
/-- The list that A's first n places hold. -/
def upTo {α : Type} (A : Nat → α) (n : Nat) : List α := (List.range n).map A
theorem upTo_succ {α : Type} (A : Nat → α) (n : Nat) : upTo A (n + 1) = upTo A n ++ [A n] := by simp [upTo, List.range_succ]
theorem upTo_two {α : Type} (A : Nat → α) {n : Nat} (h : 0 < n) : upTo A (n + 1) = upTo A (n - 1) ++ [A (n - 1), A n] ∧ upTo A n = upTo A (n - 1) ++ [A (n - 1)] := by
  have e : upTo A n = upTo A (n - 1) ++ [A (n - 1)] := by
    have := upTo_succ A (n - 1)
    rwa [show n - 1 + 1 = n by omega] at this
  exact ⟨by rw [upTo_succ, e, List.append_assoc]; rfl, e⟩
theorem upTo_len {α : Type} (A : Nat → α) (n : Nat) : (upTo A n).length = n := by simp [upTo]
theorem upTo_get {α : Type} (A : Nat → α) {n i : Nat} (h : i < n) : (upTo A n)[i]? = some (A i) := by simp [upTo, h]
theorem upTo_getD {α : Type} [Inhabited α] (xs : List α) : upTo (fun i => xs.getD i default) xs.length = xs := by
  apply List.ext_getElem?
  intro i
  by_cases hi : i < xs.length
  · rw [upTo_get _ hi]; simp [List.getD, hi]
  · rw [List.getElem?_eq_none (by simp [upTo]; omega), List.getElem?_eq_none (by omega)]

end Go.Proofs.Ytnaojfhhjknejaa
