/-
  The graph of package auto in memory.
-/
import Derived.Test.YthpnipkihpoooaaAuMem
set_option linter.unusedVariables false
namespace Go.Proofs.Ythpnipkihpoooaa
open Go.RowKit
namespace Nf

/-- Block hb says of N numbers which are in S. -/
def BoolsAt (w : World) (hb N : Nat) (S : Nat → Prop) : Prop := ∀ q, q < N → w.cell? ⟨hb, q, none⟩ = some (.bool (bl (S q)))
theorem BoolsAt.below {w w' : World} {hb N : Nat} {S : Nat → Prop} (h : BoolsAt w hb N S) (hb' : Below w.heap.size w w') : BoolsAt w' hb N S :=
  fun q hq => by rw [hb'.cell (World.block_lt_of_cell? w _ (h q hq))]; exact h q hq
theorem BoolsAt.congr {w : World} {hb N : Nat} {S T : Nat → Prop} (h : BoolsAt w hb N S) (hst : ∀ q, q < N → (S q ↔ T q)) : BoolsAt w hb N T :=
  fun q hq => by rw [h q hq, bl_congr (hst q hq)]

/-- .. and is a block of bools. -/
def BoolsT (w : World) (hb N : Nat) (S : Nat → Prop) : Prop := (∃ cur fr, w.heap[hb]? = some (Obj.cells cur 4 fr)) ∧ BoolsAt w hb N S
theorem BoolsT.congr {w : World} {hb N : Nat} {S T : Nat → Prop} (h : BoolsT w hb N S) (hst : ∀ q, q < N → (S q ↔ T q)) : BoolsT w hb N T := ⟨h.1, h.2.congr hst⟩
theorem BoolsT.of {w : World} {hb N : Nat} {S : Nat → Prop} {F : Nat → Bool} (h : Vec Value.bool w hb 4 N N F) (k : BoolsAt w hb N S) : BoolsT w hb N S := by
  obtain ⟨cur, h1, _⟩ := h
  exact ⟨⟨cur, _, h1⟩, k⟩

/-- Block mb holds N rows of moves: a symbol's number and a state, two cells each. -/
def MovAt (w : World) (mb N : Nat) (R : Nat → List (Nat × Nat)) : Prop :=
  ∀ i, i < N → ∃ ao cap, w.cell? ⟨mb, i, none⟩ = some (.slice ao (R i).length cap) ∧ (R i).length ≤ 1000000 ∧
    (0 < (R i).length → ∃ b off, ao = some ⟨b, off, none⟩ ∧ ∀ j x, (R i)[j]? = some x → w.cell? ⟨b, off + j * 2, none⟩ = some (num x.1) ∧ w.cell? ⟨b, off + (j * 2 + 1), none⟩ = some (num x.2))
theorem MovAt.below {w w' : World} {mb N : Nat} {R : Nat → List (Nat × Nat)} (h : MovAt w mb N R) (hb : Below w.heap.size w w') : MovAt w' mb N R := by
  intro i hi
  obtain ⟨ao, cap, h1, h2, h3⟩ := h i hi
  refine ⟨ao, cap, by rw [hb.cell (World.block_lt_of_cell? w _ h1)]; exact h1, h2, fun h0 => ?_⟩
  obtain ⟨b, off, e, hc⟩ := h3 h0
  refine ⟨b, off, e, fun j x hx => ?_⟩
  have := hc j x hx
  exact ⟨by rw [hb.cell (World.block_lt_of_cell? w _ this.1)]; exact this.1, by rw [hb.cell (World.block_lt_of_cell? w _ this.2)]; exact this.2⟩

/-- Where a graph's parts lie, and what its rows say. -/
structure Gv where
  so : Option Addr
  sn : Nat
  scap : Nat
  eb : Nat
  mb : Nat
  xb : Nat
  yb : Nat
  zb : Nat
  Mv : Nat → List (Nat × Nat)
  Em : Nat → List Nat
  Bm : Nat → List Nat
  Be : Nat → List Nat
def Gv.cells (v : Gv) (N : Nat) : Array Value :=
  #[.slice v.so v.sn v.scap, .slice (some ⟨v.eb, 0, none⟩) N N, .slice (some ⟨v.mb, 0, none⟩) N N, .slice (some ⟨v.xb, 0, none⟩) N N, .slice (some ⟨v.yb, 0, none⟩) N N, .slice (some ⟨v.zb, 0, none⟩) N N]

structure GrAt (w : World) (gb : Nat) (v : Gv) (g : Gr) : Prop where
  ok : Ok g
  small : g.N ≤ 3000
  blk : w.heap[gb]? = some (.cells (v.cells g.N) 69 (0, 0))
  sig : Sp.Row w v.so v.sn g.sig
  sn : v.sn ≤ 40
  ends : BoolsAt w v.eb g.N (· ∈ g.ends)
  mov : MovAt w v.mb g.N v.Mv
  emp : TabAt w v.xb g.N v.Em
  bmv : TabAt w v.yb g.N v.Bm
  bem : TabAt w v.zb g.N v.Be
  mv_iff : ∀ p x q, (x, q) ∈ v.Mv p ↔ ∃ s, g.sig[x]? = some s ∧ (p, s, q) ∈ g.arcs
  em_iff : ∀ p q, q ∈ v.Em p ↔ E g p q
  bm_iff : ∀ p q, q ∈ v.Bm p ↔ M g q p
  be_iff : ∀ p q, q ∈ v.Be p ↔ E g q p
theorem GrAt.below {w w' : World} {gb : Nat} {v : Gv} {g : Gr} (h : GrAt w gb v g) (hb : Below w.heap.size w w') : GrAt w' gb v g :=
  ⟨h.ok, h.small, blk_below h.blk hb (blk_lt h.blk), h.sig.below hb, h.sn, h.ends.below hb, h.mov.below hb, h.emp.below hb, h.bmv.below hb, h.bem.below hb, h.mv_iff, h.em_iff, h.bm_iff, h.be_iff⟩
theorem GrAt.em_lt {w : World} {gb : Nat} {v : Gv} {g : Gr} (h : GrAt w gb v g) : ∀ p, p < g.N → ∀ q ∈ v.Em p, q < g.N := fun p _ q hq => h.ok.to_ _ ((h.em_iff p q).1 hq)
theorem GrAt.be_lt {w : World} {gb : Nat} {v : Gv} {g : Gr} (h : GrAt w gb v g) : ∀ p, p < g.N → ∀ q ∈ v.Be p, q < g.N := fun p _ q hq => h.ok.from_ _ ((h.be_iff p q).1 hq)
theorem GrAt.bm_lt {w : World} {gb : Nat} {v : Gv} {g : Gr} (h : GrAt w gb v g) : ∀ p, p < g.N → ∀ q ∈ v.Bm p, q < g.N := fun p _ q hq => by
  obtain ⟨s, _, hs⟩ := (h.bm_iff p q).1 hq
  exact h.ok.from_ _ hs

/-- What makes a set of states: a new row of bools. -/
def SetPost (N : Nat) (S : Nat → Prop) (w : World) (e : Ending) (w' : World) : Prop :=
  ∃ hb, e = .returned (.slice (some ⟨hb, 0, none⟩) N N) ∧ BoolsT w' hb N S ∧ Below w.heap.size w w'

/-- A new pool. -/
theorem pool_new (w : World) (N : Nat) (hN : N ≤ 1000000) :
    PoolAt ((w.alloc (.cells (madeCells #[.bool false] N) 4)).alloc (.cells #[.slice (some ⟨w.heap.size, 0, none⟩) N N, .slice none 0 0] 128)) w.heap.size (w.heap.size + 1) N [] := by
  refine ⟨Pool.nil N, hN, by omega, w.heap.size, .slice none 0 0, Nat.le_refl _, ?_, ?_, World.ownsRow_nil _ _ _ _⟩
  · exact heap_alloc2_new w _ _
  · have h := World.rowIs_made w (.bool false) N 4
    obtain ⟨c, h1, h2, h3⟩ := h
    exact ⟨c, blk_alloc h1 _, h2, Nat.le_refl _, by unfold maxLen; omega, fun i hi => by simpa using h3 i hi⟩

theorem PoolAt.alloc {w : World} {base P N : Nat} {L : List Nat} (h : PoolAt w base P N L) (o : Obj) : PoolAt (w.alloc o) base P N L := by
  obtain ⟨hp, hN, hbP, hb, lv, hb1, hP, hv, how⟩ := h
  exact ⟨hp, hN, hbP, hb, lv, hb1, blk_alloc hP o, Nf.Vec.alloc_ hv o, how.alloc o⟩
theorem seq_one {α : Type} (en : α → Value) (w : World) (x : α) (t : TypeId) : Seq en (w.alloc (.cells #[en x] t)) (some ⟨w.heap.size, 0, none⟩) 1 [x] := by
  refine ⟨rfl, by decide, fun _ => ⟨_, _, rfl, fun i y hy => ?_⟩⟩
  match i, hy with
  | 0, hy => simp at hy; subst hy; simp
theorem Below.heap_new (w : World) (o : Obj) : (w.alloc o).heap[w.heap.size]? = some o := by
  show (w.heap.push o)[w.heap.size]? = _
  simp

end Nf
end Go.Proofs.Ythpnipkihpoooaa
