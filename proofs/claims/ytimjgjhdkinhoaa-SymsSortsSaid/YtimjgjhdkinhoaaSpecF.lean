/-
  Sorting strings: the order of strings as the library's sort asks for it, and what a sort followed by a compaction leaves.
-/
import Derived.Test.YtimjgjhdkinhoaaSpecE
import Derived.Shelf.SlSortCmp.NoneTotal
import Derived.Lib.Bytealg
set_option linter.unusedVariables false
namespace Go.Proofs.Ytimjgjhdkinhoaa
open Go.RowKit Go.Sort

theorem Sp.compareBytes_eq : ∀ (a b : List UInt8), Lib.compareBytes a b = if a < b then -1 else if b < a then 1 else 0
  | [], [] => by simp [Lib.compareBytes]
  | [], b :: bs => by simp [Lib.compareBytes]
  | a :: as', [] => by simp [Lib.compareBytes]
  | a :: as', b :: bs => by
    have ih := Sp.compareBytes_eq as' bs
    simp only [Lib.compareBytes, List.cons_lt_cons_iff, ih]
    by_cases h1 : a < b
    · have h2 : ¬ b < a := by intro h; exact absurd (UInt8.lt_trans h1 h) (UInt8.lt_irrefl _)
      simp [h1]
    · by_cases h2 : b < a
      · have h3 : ¬ a = b := by intro e; subst e; exact UInt8.lt_irrefl _ h2
        simp [h1, h2, h3]
      · have h3 : a = b := by
          have := UInt8.not_lt.1 h1; have := UInt8.not_lt.1 h2
          exact UInt8.le_antisymm (by assumption) (by assumption)
        subst h3
        simp [h1]
theorem Sp.compare_cmpS (a b : ByteArray) : Lib.compareBytes a.data.toList b.data.toList = Sp.cmpS a b := by
  rw [Sp.compareBytes_eq]
  unfold Sp.cmpS
  by_cases h : a.data.toList < b.data.toList
  · rw [if_pos h, if_pos ((Sp.less_iff a b).2 h)]
  · rw [if_neg h, if_neg (fun k => h ((Sp.less_iff a b).1 k))]
    by_cases k : b.data.toList < a.data.toList
    · rw [if_pos k, if_pos ((Sp.less_iff b a).2 k)]
    · rw [if_neg k, if_neg (fun m => k ((Sp.less_iff b a).1 m))]

theorem Sp.ltS (x y : ByteArray) : ltOf Sp.cmpS x y = Sp.less x y := Sp.cmpS_lt x y
theorem Sp.totS (x y : ByteArray) (h : ltOf Sp.cmpS x y = false) (k : ltOf Sp.cmpS y x = false) : x = y := by
  rw [Sp.ltS] at h k; exact Sp.eq_of_not_less h k
theorem Sp.swoS : SWO (ltOf Sp.cmpS) where
  irrefl x := by rw [Sp.ltS]; exact Sp.less_irrefl x
  trans x y z h k := by rw [Sp.ltS] at *; exact Sp.less_trans h k
  ntrans x y z h k := by
    rw [Sp.ltS] at *
    cases hz : Sp.less x z with
    | false => rfl
    | true =>
      cases h1 : Sp.less y x with
      | true => have := Sp.less_trans h1 hz; rw [k] at this; cases this
      | false => rw [Sp.eq_of_not_less h h1, k] at hz; cases hz

/-- The list behind the sort. -/
def Sp.sortS (l : List ByteArray) : List ByteArray := l.mergeSort fun x y => !(ltOf Sp.cmpS) y x
theorem Sp.sortS_len (l : List ByteArray) : (Sp.sortS l).length = l.length := by simp [Sp.sortS]
theorem Sp.sortS_mem (l : List ByteArray) (x : ByteArray) : x ∈ Sp.sortS l ↔ x ∈ l := by simp [Sp.sortS]
theorem Sp.sortS_asc (l : List ByteArray) : (Sp.sortS l).Pairwise fun x y => Sp.less y x = false := by
  have h := List.pairwise_mergeSort (le := fun x y => !(ltOf Sp.cmpS) y x) (fun a b c h k => by
    simp only [Sp.ltS, Bool.not_eq_true'] at *
    have := Sp.swoS.ntrans c b a (by rw [Sp.ltS]; exact k) (by rw [Sp.ltS]; exact h)
    rwa [Sp.ltS] at this) (fun a b => by
    simp only [Sp.ltS]
    cases h1 : Sp.less b a with
    | true => rw [Sp.less_asymm h1]; rfl
    | false => rfl) l
  exact h.imp fun {a b} h => by simpa [Sp.ltS] using h
theorem Sp.sorted_set (l : List ByteArray) (p : ByteArray → Bool) : Sp.SetOf (compactOf Sp.eqS (Sp.sortS (l.filter p))) l p := by
  have h := Sp.compactOf_asc (Sp.sortS_asc (l.filter p))
  exact ⟨h.1, fun x => by rw [h.2, Sp.sortS_mem, List.mem_filter]⟩

theorem Vec.row {w : World} {g cap n : Nat} {A : Nat → ByteArray} (h : Vec Value.string w g 9 cap n A) (hs : ∀ x ∈ upTo A n, x.size ≤ maxLen) : Sp.Row w (some ⟨g, 0, none⟩) n (upTo A n) := by
  have hle := h.le
  refine ⟨upTo_len A n, by unfold maxLen; omega, fun _ => ⟨g, 0, rfl, fun i hi => ?_⟩, hs⟩
  rw [Nat.zero_add, h.cell hi]
  congr 2
  simp [List.getD, upTo_get A hi]
theorem Vec.holds {w : World} {g cap : Nat} {d : Array ByteArray} (h : Vec Value.string w g 9 cap d.size (fun i => d.toList.getD i default)) : Holds Value.string w g 0 d := by
  intro j hj
  rw [Nat.zero_add]
  refine ⟨?_, h.free j⟩
  rw [h.cell hj]
  congr 2
  simp [List.getD, hj]

end Go.Proofs.Ytimjgjhdkinhoaa
