/-
  Arguments of the statements of layer 1 as lists of strings: opened once for all rows; and an argument that nobody wrote reads behind the call as before.
-/
import Derived.Test.YtpoblcmjfcpiaaaGreatRows
import Derived.Test.YtpoblcmjfcpiaaaGreatMgSpec
import Derived.WalkKit
import Derived.ProofKit
import Derived.OpenShut
import Derived.SliceStrings
import Derived.Deep.Slices
import Derived.Test.YtpoblcmjfcpiaaaGreatMgSpecL
set_option linter.unusedVariables false
namespace Go.Proofs.YtpoblcmjfcpiaaaGreat
open Go.ChangeShapes Go.WideShapes Go.ChangeAt Go.RowKit Go.Deep

theorem own : ownKnob Tryz.prog.godebug = none := by kernel_rfl
theorem laidOut : laidOutB Tryz.prog = true := by kernel_rfl
theorem cellsStr : Tryz.prog.cellsOf 9 = 1 := by kernel_rfl
theorem cellsRow : Tryz.prog.cellsOf 22 = 1 := by kernel_rfl

theorem Sp.plain_add (b off i : Nat) : (⟨b, off, none⟩ : Addr).add i = ⟨b, off + i, none⟩ := by unfold Addr.add; split <;> simp_all

/-- A slice of strings that came in: its cells hold a list of strings. -/
theorem open_row {H : Type} {enc : TypeId × Value → H} {w : World} {base : Nat} {spare : Nat → Bool} {held : Bool} {fuel : Nat} {ao : Option Addr} {n cap : Nat} {x : DataW H × List MemPlace}
    (h : DataW.trod enc Tryz.prog w base spare held fuel 22 [.slice ao n cap] = some x) : ∃ l, Sp.Row w ao n l ∧ n ≤ cap := by
  rcases open_strings Tryz.underlying22 Tryz.underlying9 cellsStr h with ⟨hcs, _⟩ | ⟨a, len, cap', ss, hcs, _, hl, hm, hz, _, hcell, hws⟩
  · simp at hcs
    obtain ⟨rfl, rfl, rfl⟩ := hcs
    exact ⟨[], ⟨rfl, by decide, fun h => absurd h (by omega), by simp⟩, Nat.le_refl _⟩
  · simp at hcs
    obtain ⟨rfl, rfl, rfl⟩ := hcs
    have hss : n ≤ ss.length := by
      rw [hz]; split <;> omega
    refine ⟨ss.take n, ⟨by simp; omega, by omega, fun h0 => ?_, fun s hs => hws s (List.mem_of_mem_take hs)⟩, hl⟩
    obtain ⟨b, off, spot⟩ := a
    have hspot : spot = none := by simpa [Addr.add] using World.cell?_spot (hcell 0 (by omega))
    subst hspot
    refine ⟨b, off, rfl, fun i hi => ?_⟩
    have h1 := hcell i (by omega)
    rw [Sp.plain_add] at h1
    rw [h1]
    congr 2
    simp [List.getD, hi]

set_option maxRecDepth 100000 in
theorem open_row_arg {H : Type} {enc : TypeId × Value → H} {w : World} {v : Value} {d : DataW H} {p : List MemPlace} {base : Nat}
    (hv : Value.okWide Tryz.prog w .any base 22 v) (h : DataW.Trod enc Tryz.prog w 0 (fun _ => true) true 22 v d p) : ∃ ao n cap l, v = .slice ao n cap ∧ Sp.Row w ao n l ∧ n ≤ cap := by
  obtain ⟨ao, n, cap, rfl⟩ := okWide_slice Tryz.underlying22 hv
  obtain ⟨fuel, hf⟩ := h
  simp only [Value.cells] at hf
  obtain ⟨l, hl, hc⟩ := open_row hf
  exact ⟨ao, n, cap, l, rfl, hl, hc⟩

set_option maxRecDepth 100000 in
theorem open_str_arg {H : Type} {enc : TypeId × Value → H} {w : World} {v : Value} {d : DataW H} {p : List MemPlace} {base : Nat}
    (hv : Value.okWide Tryz.prog w .any base 9 v) (h : DataW.Trod enc Tryz.prog w 0 (fun _ => true) true 9 v d p) : ∃ s, v = .string s ∧ s.size ≤ maxLen := by
  obtain ⟨s, rfl, _, _, hs⟩ := Go.ChangeMaps.open_string Tryz.underlying9 hv h
  exact ⟨s, rfl, hs⟩

end Go.Proofs.YtpoblcmjfcpiaaaGreat

/-
  An argument as a list of lists of strings.
-/
set_option linter.unusedVariables false
namespace Go.Proofs.YtpoblcmjfcpiaaaGreat
open Go.ChangeShapes Go.WideShapes Go.ChangeAt Go.RowKit Go.Deep

theorem open_row_val {H : Type} {enc : TypeId × Value → H} {w : World} {base : Nat} {spare : Nat → Bool} {held : Bool} {fuel : Nat} {v : Value} {x : DataW H × List MemPlace}
    (h : DataW.trod enc Tryz.prog w base spare held fuel 22 [v] = some x) : ∃ y : Lst, v = y.val ∧ Sp.Row w y.ao y.n y.l := by
  have hv : ∃ ao n cap, v = .slice ao n cap := by
    rcases open_strings Tryz.underlying22 Tryz.underlying9 cellsStr h with ⟨hcs, _⟩ | ⟨a, len, cap', ss, hcs, _⟩
    · simp at hcs; exact ⟨_, _, _, hcs⟩
    · simp at hcs; exact ⟨_, _, _, hcs⟩
  obtain ⟨ao, n, cap, rfl⟩ := hv
  obtain ⟨l, hl, _⟩ := open_row h
  exact ⟨⟨ao, n, cap, l⟩, rfl, hl⟩

theorem open_rowsE {H : Type} {enc : TypeId × Value → H} {w : World} {base : Nat} {spare : Nat → Bool} {held : Bool} {fuel : Nat} {ao : Option Addr} {n cap : Nat} {x : DataW H × List MemPlace}
    (h : DataW.trod enc Tryz.prog w base spare held fuel 38 [.slice ao n cap] = some x) : ∃ els, Sp.RowE w ao n els ∧ n ≤ cap := by
  rcases open_slice1 Tryz.underlying38 cellsRow h with ⟨hcs, _⟩ | ⟨a, len, cap', m, k, V, D, Pl, hcs, _, hl, hm, hz, _, hcell⟩
  · simp at hcs
    obtain ⟨rfl, rfl, rfl⟩ := hcs
    exact ⟨[], ⟨rfl, by decide, fun h => absurd h (by omega), by simp⟩, Nat.le_refl _⟩
  · simp at hcs
    obtain ⟨rfl, rfl, rfl⟩ := hcs
    have hnm : n ≤ m := by rw [hz]; split <;> omega
    obtain ⟨E, hE⟩ := choose_lt (n := n) (α := Lst) (p := fun i y => w.cell? (a.add i) = some y.val ∧ Sp.Row w y.ao y.n y.l) (fun i hi => by
      obtain ⟨h1, h2⟩ := hcell i (by omega)
      obtain ⟨y, hy, hr⟩ := open_row_val h2
      exact ⟨y, by rw [h1, hy], hr⟩)
    refine ⟨(List.range n).map E, ⟨by simp, by omega, fun h0 => ?_, fun y hy => ?_⟩, hl⟩
    · obtain ⟨b, off, spot⟩ := a
      have hspot : spot = none := by simpa [Addr.add] using World.cell?_spot (hE 0 h0).1
      subst hspot
      refine ⟨b, off, rfl, fun i y hi => ?_⟩
      simp only [List.getElem?_map, Option.map_eq_some_iff] at hi
      obtain ⟨j, hj, rfl⟩ := hi
      obtain ⟨hj1, hj2⟩ := List.getElem?_eq_some_iff.1 hj
      simp at hj1 hj2
      subst hj2
      have h1 := (hE i hj1).1
      rw [Sp.plain_add] at h1
      exact h1
    · obtain ⟨j, hj, rfl⟩ := List.mem_map.1 hy
      exact (hE j (List.mem_range.1 hj)).2

set_option maxRecDepth 100000 in
theorem open_rows_arg {H : Type} {enc : TypeId × Value → H} {w : World} {v : Value} {d : DataW H} {p : List MemPlace} {base : Nat}
    (hv : Value.okWide Tryz.prog w .any base 38 v) (h : DataW.Trod enc Tryz.prog w 0 (fun _ => true) true 38 v d p) : ∃ ao n cap els, v = .slice ao n cap ∧ Sp.RowE w ao n els ∧ n ≤ cap := by
  obtain ⟨ao, n, cap, rfl⟩ := okWide_slice Tryz.underlying38 hv
  obtain ⟨fuel, hf⟩ := h
  simp only [Value.cells] at hf
  obtain ⟨l, hl, hc⟩ := open_rowsE hf
  exact ⟨ao, n, cap, l, rfl, hl, hc⟩

end Go.Proofs.YtpoblcmjfcpiaaaGreat
