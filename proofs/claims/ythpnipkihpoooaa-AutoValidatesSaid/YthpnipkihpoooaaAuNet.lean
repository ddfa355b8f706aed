/-
  Nets as they come in: their parts in memory; which are acceptors, plainly.
-/
import Derived.Test.YthpnipkihpoooaaAuMem
set_option linter.unusedVariables false
namespace Go.Proofs.Ythpnipkihpoooaa
open Go.RowKit

structure ArcV where
  f : Int
  i : ByteArray
  o : ByteArray
  t : Int
  c : Int
structure EndV where
  s : Int
  c : Int
instance : Inhabited ArcV := ⟨⟨0, ⟨#[]⟩, ⟨#[]⟩, 0, 0⟩⟩
instance : Inhabited EndV := ⟨⟨0, 0⟩⟩

namespace Nf
def ArcsAt (w : World) (ao : Option Addr) (n : Nat) (l : List ArcV) : Prop :=
  l.length = n ∧ n ≤ 2600000000000 ∧ (0 < n → ∃ b off, ao = some ⟨b, off, none⟩ ∧ ∀ k x, l[k]? = some x →
    w.cell? ⟨b, off + k * 5, none⟩ = some (.int .i64 x.f) ∧ w.cell? ⟨b, off + k * 5 + 1, none⟩ = some (.string x.i) ∧ w.cell? ⟨b, off + k * 5 + 2, none⟩ = some (.string x.o) ∧
    w.cell? ⟨b, off + k * 5 + 3, none⟩ = some (.int .i64 x.t) ∧ w.cell? ⟨b, off + k * 5 + 4, none⟩ = some (.int .i64 x.c)) ∧ ∀ x ∈ l, x.i.size ≤ maxLen ∧ x.o.size ≤ maxLen
def EndsAt (w : World) (ao : Option Addr) (n : Nat) (l : List EndV) : Prop :=
  l.length = n ∧ n ≤ 9000000000000 ∧ (0 < n → ∃ b off, ao = some ⟨b, off, none⟩ ∧ ∀ k x, l[k]? = some x →
    w.cell? ⟨b, off + k * 2, none⟩ = some (.int .i64 x.s) ∧ w.cell? ⟨b, off + k * 2 + 1, none⟩ = some (.int .i64 x.c))
theorem ArcsAt.at {w : World} {ao : Option Addr} {n : Nat} {l : List ArcV} (h : ArcsAt w ao n l) {k : Nat} (hk : k < n) :
    ∃ b off x, ao = some ⟨b, off, none⟩ ∧ (w.cell? ⟨b, off + k * 5, none⟩ = some (.int .i64 x.f) ∧ w.cell? ⟨b, off + k * 5 + 1, none⟩ = some (.string x.i) ∧ w.cell? ⟨b, off + k * 5 + 2, none⟩ = some (.string x.o) ∧
    w.cell? ⟨b, off + k * 5 + 3, none⟩ = some (.int .i64 x.t) ∧ w.cell? ⟨b, off + k * 5 + 4, none⟩ = some (.int .i64 x.c)) ∧ x.i.size ≤ 9223372036854775807 ∧ x.o.size ≤ 9223372036854775807 ∧ l[k]? = some x ∧ l.take (k + 1) = l.take k ++ [x] := by
  obtain ⟨hl, _, hc, hs⟩ := h
  obtain ⟨b, off, rfl, hcc⟩ := hc (by omega)
  have hkl : k < l.length := by omega
  have := hs _ (List.getElem_mem hkl)
  unfold maxLen at this
  exact ⟨b, off, l[k], rfl, hcc k _ (by simp [hkl]), this.1, this.2, by simp [hkl], List.take_succ_eq_append_getElem hkl⟩
theorem EndsAt.at {w : World} {ao : Option Addr} {n : Nat} {l : List EndV} (h : EndsAt w ao n l) {k : Nat} (hk : k < n) :
    ∃ b off x, ao = some ⟨b, off, none⟩ ∧ (w.cell? ⟨b, off + k * 2, none⟩ = some (.int .i64 x.s) ∧ w.cell? ⟨b, off + k * 2 + 1, none⟩ = some (.int .i64 x.c)) ∧ l[k]? = some x ∧ l.take (k + 1) = l.take k ++ [x] := by
  obtain ⟨hl, _, hc⟩ := h
  obtain ⟨b, off, rfl, hcc⟩ := hc (by omega)
  have hkl : k < l.length := by omega
  exact ⟨b, off, l[k], rfl, hcc k _ (by simp [hkl]), by simp [hkl], List.take_succ_eq_append_getElem hkl⟩
theorem ArcsAt.below {w w' : World} {ao : Option Addr} {n : Nat} {l : List ArcV} (h : ArcsAt w ao n l) (hb : Below w.heap.size w w') : ArcsAt w' ao n l := by
  obtain ⟨hl, hm, hc, hs⟩ := h
  refine ⟨hl, hm, fun hn => ?_, hs⟩
  obtain ⟨b, off, rfl, hcc⟩ := hc hn
  have key : ∀ o v, w.cell? ⟨b, o, none⟩ = some v → w'.cell? ⟨b, o, none⟩ = some v := fun o v h => by rw [hb.cell (World.block_lt_of_cell? w _ h)]; exact h
  exact ⟨b, off, rfl, fun k x hx => by
    obtain ⟨h1, h2, h3, h4, h5⟩ := hcc k x hx
    exact ⟨key _ _ h1, key _ _ h2, key _ _ h3, key _ _ h4, key _ _ h5⟩⟩
theorem EndsAt.below {w w' : World} {ao : Option Addr} {n : Nat} {l : List EndV} (h : EndsAt w ao n l) (hb : Below w.heap.size w w') : EndsAt w' ao n l := by
  obtain ⟨hl, hm, hc⟩ := h
  refine ⟨hl, hm, fun hn => ?_⟩
  obtain ⟨b, off, rfl, hcc⟩ := hc hn
  have key : ∀ o v, w.cell? ⟨b, o, none⟩ = some v → w'.cell? ⟨b, o, none⟩ = some v := fun o v h => by rw [hb.cell (World.block_lt_of_cell? w _ h)]; exact h
  exact ⟨b, off, rfl, fun k x hx => by
    obtain ⟨h1, h2⟩ := hcc k x hx
    exact ⟨key _ _ h1, key _ _ h2⟩⟩

/-- A net by value. -/
structure Net where
  so : Option Addr
  sn : Nat
  scap : Nat
  sig : List ByteArray
  st : Int
  ao : Option Addr
  an : Nat
  acap : Nat
  arcs : List ArcV
  eo : Option Addr
  en : Nat
  ecap : Nat
  ends : List EndV
def Net.cells (n : Net) : Array Value := #[.slice n.so n.sn n.scap, .int .i64 n.st, .slice n.ao n.an n.acap, .slice n.eo n.en n.ecap]
def Net.val (n : Net) : Value := .agg n.cells
structure NetAt (w : World) (n : Net) : Prop where
  sig : Sp.Row w n.so n.sn n.sig
  arcs : ArcsAt w n.ao n.an n.arcs
  ends : EndsAt w n.eo n.en n.ends
  lo : -9223372036854775808 ≤ n.st
  hi : n.st ≤ 9223372036854775807
theorem NetAt.below {w w' : World} {n : Net} (h : NetAt w n) (hb : Below w.heap.size w w') : NetAt w' n := ⟨h.sig.below hb, h.arcs.below hb, h.ends.below hb, h.lo, h.hi⟩

/-- What makes a net, an acceptor. -/
def stOk (n : Net) (q : Int) : Bool := decide (0 ≤ q) && decide (q < n.st)
noncomputable def syOk (n : Net) (s : ByteArray) : Bool := bl (s ∈ n.sig) || decide (s.size = 0)
noncomputable def arcOk (n : Net) (a : ArcV) : Bool := stOk n a.f && stOk n a.t && syOk n a.i && syOk n a.o
noncomputable def netOk (n : Net) : Bool := decide (1 ≤ n.st) && n.arcs.all (arcOk n) && n.ends.all (fun d => stOk n d.s)
noncomputable def arcFree (a : ArcV) : Bool := bl (a.o = a.i) && decide (a.c = 0)
noncomputable def accOk (n : Net) : Bool := n.arcs.all arcFree && n.ends.all (fun d => decide (d.c = 0))
noncomputable def errNet (n : Net) : Int :=
  if 3000 < n.st ∨ 60000 < n.arcs.length ∨ 60000 < n.ends.length then 3 else if Sp.errAlpha n.sig ≠ 0 then Sp.errAlpha n.sig else if netOk n = false then 1 else if accOk n = false then 6 else 0

end Nf
end Go.Proofs.Ythpnipkihpoooaa
