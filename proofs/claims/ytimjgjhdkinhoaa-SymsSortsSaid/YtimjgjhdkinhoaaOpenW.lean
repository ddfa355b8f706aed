/-
  An argument as a list of lists of strings.
-/
import Derived.Test.YtimjgjhdkinhoaaOpen
import Derived.Test.YtimjgjhdkinhoaaSpecL
set_option linter.unusedVariables false
namespace Go.Proofs.Ytimjgjhdkinhoaa
open Go.ChangeShapes Go.WideShapes Go.ChangeAt Go.RowKit Go.Deep

theorem open_row_val {H : Type} {enc : TypeId × Value → H} {w : World} {base : Nat} {spare : Nat → Bool} {held : Bool} {fuel : Nat} {v : Value} {x : DataW H × List MemPlace}
    (h : DataW.trod enc Try.prog w base spare held fuel 22 [v] = some x) : ∃ y : Lst, v = y.val ∧ Sp.Row w y.ao y.n y.l := by
  have hv : ∃ ao n cap, v = .slice ao n cap := by
    rcases open_strings Try.underlying22 Try.underlying9 cellsStr h with ⟨hcs, _⟩ | ⟨a, len, cap', ss, hcs, _⟩
    · simp at hcs; exact ⟨_, _, _, hcs⟩
    · simp at hcs; exact ⟨_, _, _, hcs⟩
  obtain ⟨ao, n, cap, rfl⟩ := hv
  obtain ⟨l, hl, _⟩ := open_row h
  exact ⟨⟨ao, n, cap, l⟩, rfl, hl⟩

theorem open_rowsE {H : Type} {enc : TypeId × Value → H} {w : World} {base : Nat} {spare : Nat → Bool} {held : Bool} {fuel : Nat} {ao : Option Addr} {n cap : Nat} {x : DataW H × List MemPlace}
    (h : DataW.trod enc Try.prog w base spare held fuel 42 [.slice ao n cap] = some x) : ∃ els, Sp.RowE w ao n els ∧ n ≤ cap := by
  rcases open_slice1 Try.underlying42 cellsRow h with ⟨hcs, _⟩ | ⟨a, len, cap', m, k, V, D, Pl, hcs, _, hl, hm, hz, _, hcell⟩
  · simp at hcs
    obtain ⟨rfl, rfl, rfl⟩ := hcs
    exact ⟨[], ⟨rfl, by decide, fun h => absurd h (by omega), by simp⟩, Nat.le_refl _⟩
  · simp at hcs
    obtain ⟨rfl, rfl, rfl⟩ := hcs
    have hnm : n ≤ m := by rw [hz]; split <;> omega
    obtain ⟨E, hE⟩ := choose_lt (n := n) (α := Lst) (p := fun i y => w.cell? (a.add i) = some y.val ∧ Sp.Row w y.ao y.n y.l) (fun i hi => by
      obtain ⟨h1, h2⟩ := hcell i (by omega)
      obtain ⟨y, hy, hr⟩ := open_row_val h2
      exact ⟨y, by rw [h1, hy], hr⟩)
    refine ⟨(List.range n).map E, ⟨by simp, by omega, fun h0 => ?_, fun y hy => ?_⟩, hl⟩
    · obtain ⟨b, off, spot⟩ := a
      have hspot : spot = none := by simpa [Addr.add] using World.cell?_spot (hE 0 h0).1
      subst hspot
      refine ⟨b, off, rfl, fun i y hi => ?_⟩
      simp only [List.getElem?_map, Option.map_eq_some_iff] at hi
      obtain ⟨j, hj, rfl⟩ := hi
      obtain ⟨hj1, hj2⟩ := List.getElem?_eq_some_iff.1 hj
      simp at hj1 hj2
      subst hj2
      have h1 := (hE i hj1).1
      rw [Sp.plain_add] at h1
      exact h1
    · obtain ⟨j, hj, rfl⟩ := List.mem_map.1 hy
      exact (hE j (List.mem_range.1 hj)).2

set_option maxRecDepth 100000 in
theorem open_rows_arg {H : Type} {enc : TypeId × Value → H} {w : World} {v : Value} {d : DataW H} {p : List MemPlace} {base : Nat}
    (hv : Value.okWide Try.prog w .any base 42 v) (h : DataW.Trod enc Try.prog w 0 (fun _ => true) true 42 v d p) : ∃ ao n cap els, v = .slice ao n cap ∧ Sp.RowE w ao n els ∧ n ≤ cap := by
  obtain ⟨ao, n, cap, rfl⟩ := okWide_slice Try.underlying42 hv
  obtain ⟨fuel, hf⟩ := h
  simp only [Value.cells] at hf
  obtain ⟨l, hl, hc⟩ := open_rowsE hf
  exact ⟨ao, n, cap, l, rfl, hl, hc⟩

end Go.Proofs.Ytimjgjhdkinhoaa
