/-
  Arguments of the statements of layer 1 as lists of strings: opened once for all rows; and an argument that nobody wrote reads behind the call as before.
-/
import Derived.Test.YtnaojfhhjknejaaRows
import Derived.Test.YtnaojfhhjknejaaMgSpec
import Derived.WalkKit
import Derived.ProofKit
import Derived.OpenShut
import Derived.SliceStrings
import Derived.Deep.Slices
import Derived.Test.YtnaojfhhjknejaaMgAuMemAuGrAuNet
import Derived.Deep.Fields
import Derived.Lib.SmallJoins
import Derived.SizedLaws
import Derived.DataShut
set_option linter.unusedVariables false
namespace Go.Proofs.Ytnaojfhhjknejaa
open Go.ChangeShapes Go.WideShapes Go.ChangeAt Go.RowKit Go.Deep

theorem own : ownKnob Try.prog.godebug = none := by kernel_rfl
theorem laidOut : laidOutB Try.prog = true := by kernel_rfl
theorem cellsStr : Try.prog.cellsOf 9 = 1 := by kernel_rfl
theorem cellsRow : Try.prog.cellsOf 22 = 1 := by kernel_rfl

theorem Sp.plain_add (b off i : Nat) : (⟨b, off, none⟩ : Addr).add i = ⟨b, off + i, none⟩ := by unfold Addr.add; split <;> simp_all

/-- A slice of strings that came in: its cells hold a list of strings. -/
theorem open_row {H : Type} {enc : TypeId × Value → H} {w : World} {base : Nat} {spare : Nat → Bool} {held : Bool} {fuel : Nat} {ao : Option Addr} {n cap : Nat} {x : DataW H × List MemPlace}
    (h : DataW.trod enc Try.prog w base spare held fuel 22 [.slice ao n cap] = some x) : ∃ l, Sp.Row w ao n l ∧ n ≤ cap := by
  rcases open_strings Try.underlying22 Try.underlying9 cellsStr h with ⟨hcs, _⟩ | ⟨a, len, cap', ss, hcs, _, hl, hm, hz, _, hcell, hws⟩
  · simp at hcs
    obtain ⟨rfl, rfl, rfl⟩ := hcs
    exact ⟨[], ⟨rfl, by decide, fun h => absurd h (by omega), by simp⟩, Nat.le_refl _⟩
  · simp at hcs
    obtain ⟨rfl, rfl, rfl⟩ := hcs
    have hss : n ≤ ss.length := by
      rw [hz]; split <;> omega
    refine ⟨ss.take n, ⟨by simp; omega, by omega, fun h0 => ?_, fun s hs => hws s (List.mem_of_mem_take hs)⟩, hl⟩
    obtain ⟨b, off, spot⟩ := a
    have hspot : spot = none := by simpa [Addr.add] using World.cell?_spot (hcell 0 (by omega))
    subst hspot
    refine ⟨b, off, rfl, fun i hi => ?_⟩
    have h1 := hcell i (by omega)
    rw [Sp.plain_add] at h1
    rw [h1]
    congr 2
    simp [List.getD, hi]

set_option maxRecDepth 100000 in
theorem open_row_arg {H : Type} {enc : TypeId × Value → H} {w : World} {v : Value} {d : DataW H} {p : List MemPlace} {base : Nat}
    (hv : Value.okWide Try.prog w .any base 22 v) (h : DataW.Trod enc Try.prog w 0 (fun _ => true) true 22 v d p) : ∃ ao n cap l, v = .slice ao n cap ∧ Sp.Row w ao n l ∧ n ≤ cap := by
  obtain ⟨ao, n, cap, rfl⟩ := okWide_slice Try.underlying22 hv
  obtain ⟨fuel, hf⟩ := h
  simp only [Value.cells] at hf
  obtain ⟨l, hl, hc⟩ := open_row hf
  exact ⟨ao, n, cap, l, rfl, hl, hc⟩

set_option maxRecDepth 100000 in
theorem open_str_arg {H : Type} {enc : TypeId × Value → H} {w : World} {v : Value} {d : DataW H} {p : List MemPlace} {base : Nat}
    (hv : Value.okWide Try.prog w .any base 9 v) (h : DataW.Trod enc Try.prog w 0 (fun _ => true) true 9 v d p) : ∃ s, v = .string s ∧ s.size ≤ maxLen := by
  obtain ⟨s, rfl, _, _, hs⟩ := Go.ChangeMaps.open_string Try.underlying9 hv h
  exact ⟨s, rfl, hs⟩

end Go.Proofs.Ytnaojfhhjknejaa

/-
  A net that came in: what lies in memory, and how large its slices are.
-/
set_option linter.unusedVariables false
namespace Go.Proofs.Ytnaojfhhjknejaa
open Go.ChangeShapes Go.WideShapes Go.ChangeAt Go.RowKit Go.Deep
theorem cellsArc : Try.prog.cellsOf 43 = 5 := by kernel_rfl
theorem cellsEnd : Try.prog.cellsOf 45 = 2 := by kernel_rfl
theorem cellsInt : Try.prog.cellsOf 3 = 1 := by kernel_rfl
theorem bytesArc : Try.prog.bytesOf 43 = 56 := by kernel_rfl
theorem bytesEnd : Try.prog.bytesOf 45 = 16 := by kernel_rfl
theorem bytesStr : Try.prog.bytesOf 9 = 16 := by kernel_rfl

section
variable {H : Type} {enc : TypeId × Value → H} {w : World} {base : Nat} {spare : Nat → Bool} {held : Bool}
set_option maxRecDepth 100000 in
theorem elem_arc {fuel : Nat} {a : Addr} {cs : List Value} {y : DataW H × List MemPlace} (hc : w.cells? base a 5 = some cs) (h : DataW.trod enc Try.prog w base spare held fuel 43 cs = some y) :
    ∃ x : ArcV, (w.cell? (a.add 0) = some (.int .i64 x.f) ∧ w.cell? (a.add 1) = some (.string x.i) ∧ w.cell? (a.add 2) = some (.string x.o) ∧ w.cell? (a.add 3) = some (.int .i64 x.t) ∧ w.cell? (a.add 4) = some (.int .i64 x.c)) ∧ x.i.size ≤ maxLen ∧ x.o.size ≤ maxLen := by
  obtain ⟨_, hcl, hat⟩ := World.cells?_some hc
  obtain ⟨ys, n', _, _, _, hyl, hf⟩ := DataW.trod_struct Try.underlying43 h
  match cs, hcl with
  | [v0, v1, v2, v3, v4], _ =>
    obtain ⟨x0, h0, _⟩ := DataW.trod_int Try.underlying3 (show DataW.trod enc Try.prog w base spare held n' 3 [v0] = some (ys[0]'(by rw [hyl]; decide)) from by rw [← List.getElem?_eq_getElem]; have h := hf 0 _ rfl; simpa [cellsInt, cellsStr] using h)
    obtain ⟨x1, h1, _, z1⟩ := DataW.trod_string Try.underlying9 (show DataW.trod enc Try.prog w base spare held n' 9 [v1] = some (ys[1]'(by rw [hyl]; decide)) from by rw [← List.getElem?_eq_getElem]; have h := hf 1 _ rfl; simpa [cellsInt, cellsStr] using h)
    obtain ⟨x2, h2, _, z2⟩ := DataW.trod_string Try.underlying9 (show DataW.trod enc Try.prog w base spare held n' 9 [v2] = some (ys[2]'(by rw [hyl]; decide)) from by rw [← List.getElem?_eq_getElem]; have h := hf 2 _ rfl; simpa [cellsInt, cellsStr] using h)
    obtain ⟨x3, h3, _⟩ := DataW.trod_int Try.underlying3 (show DataW.trod enc Try.prog w base spare held n' 3 [v3] = some (ys[3]'(by rw [hyl]; decide)) from by rw [← List.getElem?_eq_getElem]; have h := hf 3 _ rfl; simpa [cellsInt, cellsStr] using h)
    obtain ⟨x4, h4, _⟩ := DataW.trod_int Try.underlying3 (show DataW.trod enc Try.prog w base spare held n' 3 [v4] = some (ys[4]'(by rw [hyl]; decide)) from by rw [← List.getElem?_eq_getElem]; have h := hf 4 _ rfl; simpa [cellsInt, cellsStr] using h)
    have e0 := hat 0 (by omega)
    have e1 := hat 1 (by omega)
    have e2 := hat 2 (by omega)
    have e3 := hat 3 (by omega)
    have e4 := hat 4 (by omega)
    refine ⟨⟨x0, x1, x2, x3, x4⟩, ⟨?_, ?_, ?_, ?_, ?_⟩, z1, z2⟩
    · rw [e0]; injection h0 with h0; rw [← h0]; rfl
    · rw [e1]; injection h1 with h1; rw [← h1]; rfl
    · rw [e2]; injection h2 with h2; rw [← h2]; rfl
    · rw [e3]; injection h3 with h3; rw [← h3]; rfl
    · rw [e4]; injection h4 with h4; rw [← h4]; rfl
set_option maxRecDepth 100000 in
theorem elem_end {fuel : Nat} {a : Addr} {cs : List Value} {y : DataW H × List MemPlace} (hc : w.cells? base a 2 = some cs) (h : DataW.trod enc Try.prog w base spare held fuel 45 cs = some y) :
    ∃ x : EndV, w.cell? (a.add 0) = some (.int .i64 x.s) ∧ w.cell? (a.add 1) = some (.int .i64 x.c) := by
  obtain ⟨_, hcl, hat⟩ := World.cells?_some hc
  obtain ⟨ys, n', _, _, _, hyl, hf⟩ := DataW.trod_struct Try.underlying45 h
  match cs, hcl with
  | [v0, v1], _ =>
    obtain ⟨x0, h0, _⟩ := DataW.trod_int Try.underlying3 (show DataW.trod enc Try.prog w base spare held n' 3 [v0] = some (ys[0]'(by rw [hyl]; decide)) from by rw [← List.getElem?_eq_getElem]; have h := hf 0 _ rfl; simpa [cellsInt, cellsStr] using h)
    obtain ⟨x1, h1, _⟩ := DataW.trod_int Try.underlying3 (show DataW.trod enc Try.prog w base spare held n' 3 [v1] = some (ys[1]'(by rw [hyl]; decide)) from by rw [← List.getElem?_eq_getElem]; have h := hf 1 _ rfl; simpa [cellsInt, cellsStr] using h)
    have e0 := hat 0 (by omega)
    have e1 := hat 1 (by omega)
    refine ⟨⟨x0, x1⟩, ?_, ?_⟩
    · rw [e0]; injection h0 with h0; rw [← h0]; rfl
    · rw [e1]; injection h1 with h1; rw [← h1]; rfl
theorem spot_none {a : Addr} {k : Nat} {v : Value} (h : w.cell? ((a.add (0 * k)).add 0) = some v) : a.spot = none := by
  rw [Nat.zero_mul] at h
  simpa [Addr.add] using World.cell?_spot h
theorem open_arcs {fuel : Nat} {ao : Option Addr} {n cap : Nat} {x : DataW H × List MemPlace} (hx : DataW.trod enc Try.prog w base spare held fuel 23 [.slice ao n cap] = some x) (hr : n ≤ 2600000000000) : ∃ l, Nf.ArcsAt w ao n l := by
  rcases open_slice Try.underlying23 hx with ⟨hcs, _⟩ | ⟨a, len, cap', m, k, D, Pl, hcs, _, hl, hm, hmm, _, hi⟩
  · simp at hcs
    obtain ⟨rfl, rfl, rfl⟩ := hcs
    exact ⟨[], rfl, by decide, fun h => absurd h (by omega), by simp⟩
  · simp at hcs
    obtain ⟨rfl, rfl, rfl⟩ := hcs
    have hnm : n ≤ m := by rw [hmm]; split <;> omega
    have hex : ∀ i : Nat, ∃ x : ArcV, i < n → (w.cell? ((a.add (i * 5)).add 0) = some (.int .i64 x.f) ∧ w.cell? ((a.add (i * 5)).add 1) = some (.string x.i) ∧ w.cell? ((a.add (i * 5)).add 2) = some (.string x.o) ∧ w.cell? ((a.add (i * 5)).add 3) = some (.int .i64 x.t) ∧ w.cell? ((a.add (i * 5)).add 4) = some (.int .i64 x.c)) ∧ x.i.size ≤ maxLen ∧ x.o.size ≤ maxLen := fun i => by
      by_cases h : i < n
      · obtain ⟨cs', hc, ht⟩ := hi i (by omega)
        rw [cellsArc] at hc
        obtain ⟨x, hx⟩ := elem_arc hc ht
        exact ⟨x, fun _ => hx⟩
      · exact ⟨default, fun h' => absurd h' h⟩
    obtain ⟨f, hf⟩ := Classical.axiomOfChoice hex
    refine ⟨(List.range n).map f, by simp, hr, fun h0 => ?_, fun x hx => ?_⟩
    · have hsp := spot_none (hf 0 h0).1.1
      obtain ⟨b, off, sp⟩ := a
      simp only at hsp
      subst hsp
      refine ⟨b, off, rfl, fun i x hx => ?_⟩
      have hin : i < n := by have := (List.getElem?_eq_some_iff.1 hx).1; simpa using this
      rw [List.getElem?_map, List.getElem?_range hin] at hx
      simp only [Option.map_some, Option.some.injEq] at hx
      subst hx
      have h5 := (hf i hin).1
      simp only [Sp.plain_add] at h5
      exact h5
    · obtain ⟨i, hin, rfl⟩ := List.mem_map.1 hx
      exact (hf i (List.mem_range.1 hin)).2
theorem open_ends {fuel : Nat} {ao : Option Addr} {n cap : Nat} {x : DataW H × List MemPlace} (hx : DataW.trod enc Try.prog w base spare held fuel 24 [.slice ao n cap] = some x) (hr : n ≤ 9000000000000) : ∃ l, Nf.EndsAt w ao n l := by
  rcases open_slice Try.underlying24 hx with ⟨hcs, _⟩ | ⟨a, len, cap', m, k, D, Pl, hcs, _, hl, hm, hmm, _, hi⟩
  · simp at hcs
    obtain ⟨rfl, rfl, rfl⟩ := hcs
    exact ⟨[], rfl, by decide, fun h => absurd h (by omega)⟩
  · simp at hcs
    obtain ⟨rfl, rfl, rfl⟩ := hcs
    have hnm : n ≤ m := by rw [hmm]; split <;> omega
    have hex : ∀ i : Nat, ∃ x : EndV, i < n → w.cell? ((a.add (i * 2)).add 0) = some (.int .i64 x.s) ∧ w.cell? ((a.add (i * 2)).add 1) = some (.int .i64 x.c) := fun i => by
      by_cases h : i < n
      · obtain ⟨cs', hc, ht⟩ := hi i (by omega)
        rw [cellsEnd] at hc
        obtain ⟨x, hx⟩ := elem_end hc ht
        exact ⟨x, fun _ => hx⟩
      · exact ⟨default, fun h' => absurd h' h⟩
    obtain ⟨f, hf⟩ := Classical.axiomOfChoice hex
    refine ⟨(List.range n).map f, by simp, hr, fun h0 => ?_⟩
    have hsp := spot_none (hf 0 h0).1
    obtain ⟨b, off, sp⟩ := a
    simp only at hsp
    subst hsp
    refine ⟨b, off, rfl, fun i x hx => ?_⟩
    have hin : i < n := by have := (List.getElem?_eq_some_iff.1 hx).1; simpa using this
    rw [List.getElem?_map, List.getElem?_range hin] at hx
    simp only [Option.map_some, Option.some.injEq] at hx
    subst hx
    have h5 := hf i hin
    simp only [Sp.plain_add] at h5
    exact h5
theorem weights_net (l : List (DataW H)) : DataW.weightsEach Try.prog [26] [.agg l] = DataW.weightsEach Try.prog [22, 3, 23, 24] l := by
  simp [DataW.weightsEach, DataW.weights, Try.underlying26]
theorem slice_form {t e : TypeId} {fuel : Nat} {v : Value} {y : DataW H × List MemPlace} (ht : Try.prog.underlying t = some (.slice e)) (h : DataW.trod enc Try.prog w base spare held fuel t [v] = some y) :
    ∃ ao n cap, v = .slice ao n cap ∧ (n = 0 ∨ ∃ es sp, y.1 = .slice es sp ∧ es.length = n) := by
  rcases open_slice ht h with ⟨hcs, _⟩ | ⟨a, len, cap', m, k, D, Pl, hcs, _, hl, hm, hmm, hx, _⟩
  · simp at hcs
    exact ⟨none, 0, 0, hcs, .inl rfl⟩
  · simp at hcs
    exact ⟨some a, len, cap', hcs, .inr ⟨_, _, by rw [hx], by simp⟩⟩
set_option maxRecDepth 100000 in
theorem open_net_arg {v : Value} {d : DataW H} {p : List MemPlace} {b0 : Nat} (hv : Value.okWide Try.prog w .any b0 26 v) (h : DataW.Trod enc Try.prog w 0 (fun _ => true) true 26 v d p)
    (hsz : (DataW.weightsEach Try.prog [26] [d]).all (· ≤ reachBytes) = true) : ∃ n : Nf.Net, v = n.val ∧ Nf.NetAt w n ∧ n.sn * 16 ≤ 140737488351232 ∧ n.an * 56 ≤ 140737488351232 ∧ n.en * 16 ≤ 140737488351232 := by
  obtain ⟨v0, v1, v2, v3, y0, y1, y2, y3, k, rfl, rfl, rfl, h0, h1, h2, h3⟩ := Go.Joins.open_agg4 Try.underlying26 (by kernel_rfl) (by kernel_rfl) hv h
  rw [weights_net] at hsz
  obtain ⟨so, sn, scap, rfl, r0⟩ := slice_form Try.underlying22 h0
  obtain ⟨ao, an, acap, rfl, r2⟩ := slice_form Try.underlying23 h2
  obtain ⟨eo, en, ecap, rfl, r3⟩ := slice_form Try.underlying24 h3
  obtain ⟨st, hst, _, hwf⟩ := DataW.trod_int Try.underlying3 h1
  simp only [List.cons.injEq, and_true] at hst
  subst hst
  have q0 : sn * 16 ≤ 140737488351232 := by
    rcases r0 with rfl | ⟨es, sp, e, rfl⟩
    · omega
    · have := sized_slice hsz (j := 0) (t := 22) (e := 9) rfl (by rw [e]; rfl) Try.underlying22
      rw [bytesStr] at this
      simp only [reachBytes] at this
      omega
  have q2 : an * 56 ≤ 140737488351232 := by
    rcases r2 with rfl | ⟨es, sp, e, rfl⟩
    · omega
    · have := sized_slice hsz (j := 2) (t := 23) (e := 43) rfl (by rw [e]; rfl) Try.underlying23
      rw [bytesArc] at this
      simp only [reachBytes] at this
      omega
  have q3 : en * 16 ≤ 140737488351232 := by
    rcases r3 with rfl | ⟨es, sp, e, rfl⟩
    · omega
    · have := sized_slice hsz (j := 3) (t := 24) (e := 45) rfl (by rw [e]; rfl) Try.underlying24
      rw [bytesEnd] at this
      simp only [reachBytes] at this
      omega
  obtain ⟨sig, hsig, _⟩ := open_row h0
  obtain ⟨arcs, harcs⟩ := open_arcs h2 (by omega)
  obtain ⟨ends, hends⟩ := open_ends h3 (by omega)
  have hb : -9223372036854775808 ≤ st ∧ st ≤ 9223372036854775807 := by
    have h := (Lit.wf_int_iff .i64 st).1 hwf
    have e1 : IntKind.i64.min = -9223372036854775808 := by decide
    have e2 : IntKind.i64.max = 9223372036854775807 := by decide
    rw [e1, e2] at h
    exact h
  exact ⟨⟨so, sn, scap, sig, st, ao, an, acap, arcs, eo, en, ecap, ends⟩, rfl, ⟨hsig, harcs, hends, hb.1, hb.2⟩, q0, q2, q3⟩
end
end Go.Proofs.Ytnaojfhhjknejaa
