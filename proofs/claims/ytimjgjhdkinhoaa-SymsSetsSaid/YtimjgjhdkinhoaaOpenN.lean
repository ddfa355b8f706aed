/-
  Arguments as lists of strings, with what a nil slice is.
-/
import Derived.Test.YtimjgjhdkinhoaaOpen
import Derived.Test.YtimjgjhdkinhoaaWalkM
set_option linter.unusedVariables false
namespace Go.Proofs.Ytimjgjhdkinhoaa
open Go.ChangeShapes Go.WideShapes Go.ChangeAt Go.RowKit Go.Deep

/-- A slice of strings that came in: its cells hold a list of strings. -/
theorem open_rowN {H : Type} {enc : TypeId × Value → H} {w : World} {base : Nat} {spare : Nat → Bool} {held : Bool} {fuel : Nat} {ao : Option Addr} {n cap : Nat} {x : DataW H × List MemPlace}
    (h : DataW.trod enc Try.prog w base spare held fuel 22 [.slice ao n cap] = some x) : ∃ l, Sp.Row w ao n l ∧ n ≤ cap ∧ (ao = none → cap = 0) := by
  rcases open_strings Try.underlying22 Try.underlying9 cellsStr h with ⟨hcs, _⟩ | ⟨a, len, cap', ss, hcs, _, hl, hm, hz, _, hcell, hws⟩
  · simp at hcs
    obtain ⟨rfl, rfl, rfl⟩ := hcs
    exact ⟨[], ⟨rfl, by decide, fun h => absurd h (by omega), by simp⟩, Nat.le_refl _, fun _ => rfl⟩
  · simp at hcs
    obtain ⟨rfl, rfl, rfl⟩ := hcs
    have hss : n ≤ ss.length := by
      rw [hz]; split <;> omega
    refine ⟨ss.take n, ⟨by simp; omega, by omega, fun h0 => ?_, fun s hs => hws s (List.mem_of_mem_take hs)⟩, hl, fun h => by cases h⟩
    obtain ⟨b, off, spot⟩ := a
    have hspot : spot = none := by simpa [Addr.add] using World.cell?_spot (hcell 0 (by omega))
    subst hspot
    refine ⟨b, off, rfl, fun i hi => ?_⟩
    have h1 := hcell i (by omega)
    rw [Sp.plain_add] at h1
    rw [h1]
    congr 2
    simp [List.getD, hi]

set_option maxRecDepth 100000 in
theorem open_rowN_arg {H : Type} {enc : TypeId × Value → H} {w : World} {v : Value} {d : DataW H} {p : List MemPlace} {base : Nat}
    (hv : Value.okWide Try.prog w .any base 22 v) (h : DataW.Trod enc Try.prog w 0 (fun _ => true) true 22 v d p) : ∃ ao n cap l, v = .slice ao n cap ∧ Sp.Row w ao n l ∧ n ≤ cap ∧ Sp.NC ao cap := by
  obtain ⟨ao, n, cap, rfl⟩ := okWide_slice Try.underlying22 hv
  obtain ⟨fuel, hf⟩ := h
  simp only [Value.cells] at hf
  obtain ⟨l, hl, hc, hnc⟩ := open_rowN hf
  exact ⟨ao, n, cap, l, rfl, hl, hc, hnc⟩

end Go.Proofs.Ytimjgjhdkinhoaa
