/-
  Lists of words: their order, sets of them; slices of slices of strings with the slices that lie in them.
-/
import Derived.Test.YtnaojfhhjknejaaMgSpec
import Derived.Test.YtnaojfhhjknejaaMgSpecOSpecE
import Derived.Test.YtnaojfhhjknejaaMgVec
import Derived.Shelf.SlSortCmp.Insertion
set_option linter.unusedVariables false
namespace Go.Proofs.Ytnaojfhhjknejaa
open Go.RowKit Go.Sort

/-- A slice of strings as a value, and what it holds. -/
structure Lst where
  ao : Option Addr
  n : Nat
  cap : Nat
  l : List ByteArray
instance : Inhabited Lst := ⟨⟨none, 0, 0, []⟩⟩
def Lst.val (x : Lst) : Value := .slice x.ao x.n x.cap

namespace Sp
/-- A slice value over 'bo' of m slices of strings holds these. -/
def RowE (w : World) (bo : Option Addr) (m : Nat) (els : List Lst) : Prop :=
  els.length = m ∧ m ≤ maxLen ∧ (0 < m → ∃ b off, bo = some ⟨b, off, none⟩ ∧ ∀ i x, els[i]? = some x → w.cell? ⟨b, off + i, none⟩ = some x.val) ∧ ∀ x ∈ els, Row w x.ao x.n x.l
def lists (els : List Lst) : List (List ByteArray) := els.map Lst.l

theorem RowE.row2 {w : World} {bo : Option Addr} {m : Nat} {els : List Lst} (h : RowE w bo m els) : Row2 w bo m (lists els) := by
  refine ⟨by simp [lists, h.1], h.2.1, fun hm => ?_⟩
  obtain ⟨b, off, e, hc⟩ := h.2.2.1 hm
  refine ⟨b, off, e, fun i l hi => ?_⟩
  simp only [lists, List.getElem?_map, Option.map_eq_some_iff] at hi
  obtain ⟨x, hx, rfl⟩ := hi
  exact ⟨x.ao, x.n, x.cap, hc i x hx, h.2.2.2 x (List.mem_of_getElem? hx)⟩
theorem RowE.below {w w' : World} {bo : Option Addr} {m : Nat} {els : List Lst} (h : RowE w bo m els) (hb : Below w.heap.size w w') : RowE w' bo m els := by
  obtain ⟨h1, h2, h3, h4⟩ := h
  refine ⟨h1, h2, fun hm => ?_, fun x hx => (h4 x hx).below hb⟩
  obtain ⟨b, off, e, hc⟩ := h3 hm
  exact ⟨b, off, e, fun i x hx => by rw [hb.cell (World.block_lt_of_cell? w _ (hc i x hx))]; exact hc i x hx⟩
theorem RowE.at {w : World} {bo : Option Addr} {m : Nat} {els : List Lst} (h : RowE w bo m els) {k : Nat} (hk : k < m) :
    ∃ b off x, bo = some ⟨b, off, none⟩ ∧ w.cell? ⟨b, off + k, none⟩ = some (.slice x.ao x.n x.cap) ∧ Row w x.ao x.n x.l ∧ els[k]? = some x ∧ els.take (k + 1) = els.take k ++ [x] := by
  obtain ⟨b, off, rfl, hc⟩ := h.2.2.1 (by omega)
  have hkl : k < els.length := by rw [h.1]; exact hk
  have hx : els[k]? = some els[k] := List.getElem?_eq_getElem hkl
  exact ⟨b, off, els[k], rfl, hc k _ hx, h.2.2.2 _ (List.getElem_mem hkl), hx, List.take_succ_eq_append_getElem hkl⟩
theorem Row2.els {w : World} {bo : Option Addr} {m : Nat} {ll : List (List ByteArray)} (h : Row2 w bo m ll) : ∃ els, RowE w bo m els ∧ lists els = ll := by
  by_cases h0 : m = 0
  · subst h0
    have e : ll = [] := List.length_eq_zero_iff.1 h.1
    subst e
    exact ⟨[], ⟨rfl, h.2.1, fun h => absurd h (by omega), by simp⟩, rfl⟩
  · obtain ⟨b, off, rfl, hc⟩ := h.2.2 (by omega)
    have hl := h.1
    let f : Nat → Lst := fun i => match w.cell? ⟨b, off + i, none⟩ with
      | some (.slice ao n cap) => ⟨ao, n, cap, ll.getD i []⟩
      | _ => default
    have hf : ∀ i l, ll[i]? = some l → w.cell? ⟨b, off + i, none⟩ = some (f i).val ∧ Row w (f i).ao (f i).n (f i).l ∧ (f i).l = l := by
      intro i l hi
      obtain ⟨ao, n, cap, h1, h2⟩ := hc i l hi
      have e : f i = ⟨ao, n, cap, l⟩ := by
        show (match w.cell? ⟨b, off + i, none⟩ with | some (.slice ao n cap) => (⟨ao, n, cap, ll.getD i []⟩ : Lst) | _ => default) = _
        rw [h1]
        simp [List.getD, hi]
      rw [e]
      exact ⟨h1, h2, rfl⟩
    refine ⟨(List.range m).map f, ⟨by simp, h.2.1, fun _ => ⟨b, off, rfl, fun i x hx => ?_⟩, fun x hx => ?_⟩, ?_⟩
    · simp only [List.getElem?_map, Option.map_eq_some_iff] at hx
      obtain ⟨j, hj, rfl⟩ := hx
      have hjm := (List.getElem?_eq_some_iff.1 hj)
      obtain ⟨hj1, hj2⟩ := hjm
      simp at hj1 hj2
      subst hj2
      exact (hf i (ll[i]'(by omega)) (List.getElem?_eq_getElem (by omega))).1
    · obtain ⟨j, hj, rfl⟩ := List.mem_map.1 hx
      rw [List.mem_range] at hj
      exact (hf j (ll[j]'(by omega)) (List.getElem?_eq_getElem (by omega))).2.1
    · apply List.ext_getElem?
      intro i
      unfold lists
      by_cases hi : i < m
      · have := (hf i (ll[i]'(by omega)) (List.getElem?_eq_getElem (by omega))).2.2
        rw [List.getElem?_eq_getElem (by omega : i < ll.length)]
        simp [hi, this]
      · rw [List.getElem?_eq_none (by simp; omega), List.getElem?_eq_none (by omega)]

/-- The order of words. -/
def ltL (a b : List ByteArray) : Bool := decide (cmp a b < 0)
def eqL (a b : List ByteArray) : Bool := decide (cmp a b = 0)
theorem ltL_iff (a b : List ByteArray) : ltL a b = true ↔ cmp a b = -1 := by
  unfold ltL
  rcases cmp_vals a b with h | h | h <;> rw [h] <;> simp
theorem ltL_irrefl (a : List ByteArray) : ltL a a = false := by unfold ltL; rw [cmp_self]; simp
theorem ltL_trans {a b c : List ByteArray} (h : ltL a b = true) (k : ltL b c = true) : ltL a c = true := by
  rw [ltL_iff] at *; exact cmp_trans h k
theorem ltL_asymm {a b : List ByteArray} (h : ltL a b = true) : ltL b a = false := by
  cases k : ltL b a with
  | false => rfl
  | true => exact absurd (ltL_trans h k) (by rw [ltL_irrefl]; simp)
theorem eq_of_not_ltL {a b : List ByteArray} (h : ltL a b = false) (k : ltL b a = false) : a = b := by
  apply cmp_eq
  have h1 : ¬ cmp a b < 0 := by unfold ltL at h; simpa using h
  have h2 : ¬ cmp b a < 0 := by unfold ltL at k; simpa using k
  rw [cmp_neg a b] at h2
  omega
theorem eqL_iff (a b : List ByteArray) : eqL a b = true ↔ a = b := by
  unfold eqL
  simp
  exact ⟨cmp_eq, fun h => by rw [h, cmp_self]⟩
theorem ltL_ntrans {x y z : List ByteArray} (h : ltL x y = false) (k : ltL y z = false) : ltL x z = false := by
  cases hz : ltL x z with
  | false => rfl
  | true =>
    cases h1 : ltL y x with
    | true => have := ltL_trans h1 hz; rw [k] at this; cases this
    | false => rw [eq_of_not_ltL h h1, k] at hz; cases hz

def AscL (l : List (List ByteArray)) : Prop := l.Pairwise fun a b => ltL a b = true
theorem ascL_ext : ∀ {a b : List (List ByteArray)}, AscL a → AscL b → (∀ x, x ∈ a ↔ x ∈ b) → a = b
  | [], [], _, _, _ => rfl
  | [], b :: ys, _, _, h => by have := (h b).2 (by simp); simp at this
  | a :: xs, [], _, _, h => by have := (h a).1 (by simp); simp at this
  | a :: xs, b :: ys, ha, hb, h => by
    unfold AscL at ha hb
    rw [List.pairwise_cons] at ha hb
    have e : a = b := by
      rcases List.mem_cons.1 ((h a).1 (by simp)) with e | h1
      · exact e
      · rcases List.mem_cons.1 ((h b).2 (by simp)) with e | h2
        · exact e.symm
        · have k1 := hb.1 a h1
          have k2 := ha.1 b h2
          rw [ltL_asymm k1] at k2; cases k2
    subst e
    congr 1
    refine ascL_ext ha.2 hb.2 fun x => ⟨fun hx => ?_, fun hx => ?_⟩
    · rcases List.mem_cons.1 ((h x).1 (by simp [hx])) with e | h1
      · subst e; have := ha.1 x hx; rw [ltL_irrefl] at this; cases this
      · exact h1
    · rcases List.mem_cons.1 ((h x).2 (by simp [hx])) with e | h1
      · subst e; have := hb.1 x hx; rw [ltL_irrefl] at this; cases this
      · exact h1

theorem compactFromL_asc : ∀ (r : List (List ByteArray)) (a : List ByteArray), (a :: r).Pairwise (fun x y => ltL y x = false) →
    AscL (compactFrom eqL a r) ∧ (∀ x ∈ compactFrom eqL a r, ltL a x = true) ∧ ∀ x, x ∈ a :: compactFrom eqL a r ↔ x ∈ a :: r
  | [], a, _ => ⟨by simp [compactFrom, AscL], by simp [compactFrom], by simp [compactFrom]⟩
  | b :: r, a, h => by
    rw [List.pairwise_cons] at h
    obtain ⟨i1, i2, i3⟩ := compactFromL_asc r b h.2
    cases hb : eqL b a with
    | true =>
      have e := (eqL_iff b a).1 hb
      subst e
      simp only [compactFrom, hb, if_true]
      exact ⟨i1, i2, fun x => by rw [i3]; simp⟩
    | false =>
      have hne : b ≠ a := fun e => by rw [(eqL_iff b a).2 e] at hb; cases hb
      have hab : ltL a b = true := by
        cases k : ltL a b with
        | true => rfl
        | false => exact absurd (eq_of_not_ltL (h.1 b (by simp)) k) hne
      simp only [compactFrom, hb, Bool.false_eq_true, if_false]
      refine ⟨?_, ?_, fun x => ?_⟩
      · unfold AscL at *; rw [List.pairwise_cons]; exact ⟨i2, i1⟩
      · intro x hx
        rcases List.mem_cons.1 hx with rfl | hx
        · exact hab
        · exact ltL_trans hab (i2 x hx)
      · have := i3 x
        constructor
        · intro hx
          rcases List.mem_cons.1 hx with e | hx
          · simp [e]
          · exact List.mem_cons.2 (.inr (this.1 hx))
        · intro hx
          rcases List.mem_cons.1 hx with e | hx
          · simp [e]
          · exact List.mem_cons.2 (.inr (this.2 hx))
theorem compactOfL_asc {d : List (List ByteArray)} (h : d.Pairwise fun x y => ltL y x = false) : AscL (compactOf eqL d) ∧ ∀ x, x ∈ compactOf eqL d ↔ x ∈ d := by
  cases d with
  | nil => exact ⟨by simp [compactOf, AscL], by simp [compactOf]⟩
  | cons a r =>
    obtain ⟨i1, i2, i3⟩ := compactFromL_asc r a h
    refine ⟨?_, fun x => i3 x⟩
    unfold AscL at *
    rw [compactOf, List.pairwise_cons]; exact ⟨i2, i1⟩

/-- R are the words of ll in order, each once. -/
def SetL (R ll : List (List ByteArray)) : Prop := AscL R ∧ ∀ x, x ∈ R ↔ x ∈ ll
theorem SetL.unique {R S ll : List (List ByteArray)} (h : SetL R ll) (k : SetL S ll) : R = S := ascL_ext h.1 k.1 fun x => by rw [h.2, k.2]

def eqE (x y : Lst) : Bool := eqL x.l y.l
theorem compactFrom_lists : ∀ (r : List Lst) (a : Lst), (compactFrom eqE a r).map Lst.l = compactFrom eqL a.l (r.map Lst.l)
  | [], a => rfl
  | b :: r, a => by
    have i := compactFrom_lists r b
    simp only [compactFrom, List.map_cons, eqE] at *
    by_cases h : eqL b.l a.l = true
    · simp only [h, if_true]; exact i
    · simp only [h, Bool.false_eq_true, if_false, List.map_cons, i]
theorem compactOf_lists (d : List Lst) : lists (compactOf eqE d) = compactOf eqL (lists d) := by
  cases d with
  | nil => rfl
  | cons a r => simp only [lists, compactOf, List.map_cons, compactFrom_lists]
theorem compact_mem {α : Type} (eq : α → α → Bool) : ∀ (d : List α) (x : α), x ∈ compactOf eq d → x ∈ d := by
  have : ∀ (r : List α) (a x : α), x ∈ compactFrom eq a r → x ∈ r := by
    intro r
    induction r with
    | nil => intro a x h; simp [compactFrom] at h
    | cons b r ih =>
      intro a x h
      simp only [compactFrom] at h
      split at h
      · exact List.mem_cons_of_mem _ (ih b x h)
      · rcases List.mem_cons.1 h with e | h
        · simp [e]
        · exact List.mem_cons_of_mem _ (ih b x h)
  intro d x h
  cases d with
  | nil => simp [compactOf] at h
  | cons a r =>
    simp only [compactOf] at h
    rcases List.mem_cons.1 h with e | h
    · simp [e]
    · exact List.mem_cons_of_mem _ (this r a x h)
end Sp
end Go.Proofs.Ytnaojfhhjknejaa
