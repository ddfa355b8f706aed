/-
  spread of the reference: what lies in memory while the marks grow: the table that is read, the marks, and the list.
-/
import Derived.Test.YteggofjldgjfiaaGreatMgReClMReSortReNg
import Derived.Test.YteggofjldgjfiaaGreatMgReGo
import Derived.Test.YteggofjldgjfiaaGreatMgReOw
set_option linter.unusedVariables false
namespace Go.Proofs.YteggofjldgjfiaaGreat
open Go.RowKit
namespace Nf
/-- A table stays when an own row of another kind grows. -/
theorem RowsAt.grown {α : Type} {en : α → List Value} {e tt e2 : TypeId} {sz s2 n2 : Nat} {w w1 : World} {base b2 tb N : Nat} {V : Nat → Value} {R : Nat → List α} {lv : Value} {xs : List Value} (h : RowsAt en e tt sz w base tb N V R) (hl : w.ownsRow b2 e2 s2 lv n2 xs) (h1 : e ≠ e2) (h2 : e2 ≠ tt) (hg : w.grownBy w1 lv.ownBlock) : RowsAt en e tt sz w1 base tb N V R := by
  refine ⟨h.tab.grown hg (fun e1 => own_vec_ne hl h.tab h2 e1.symm), h.tbb, fun i hi => (h.row i hi).kept hg (own_own_ne (h.row i hi) hl h1), h.apart⟩
/-- A row, read. -/
theorem RowsAt.at_ {α : Type} {en : α → List Value} {e tt : TypeId} {sz : Nat} {w : World} {base tb N : Nat} {V : Nat → Value} {R : Nat → List α} (h : RowsAt en e tt sz w base tb N V R) (hsz : ∀ x : α, (en x).length = sz) {i : Nat} (hi : i < N) :
    ∃ ao cap, w.cell? ⟨tb, i, none⟩ = some (.slice ao (R i).length cap) ∧ RowC en sz w ao (R i) := by
  obtain ⟨ao, cap, hv, hc⟩ := RowC.of_own hsz (h.row i hi)
  exact ⟨ao, cap, by rw [h.tab.cell hi, ← hv]; rfl, hc⟩
theorem RowsAt.base {α : Type} {en : α → List Value} {e tt : TypeId} {sz : Nat} {w : World} {base b' tb N : Nat} {V : Nat → Value} {R : Nat → List α} (h : RowsAt en e tt sz w base tb N V R) (hb : b' ≤ base) : RowsAt en e tt sz w b' tb N V R :=
  ⟨h.tab, Nat.le_trans hb h.tbb, fun i hi => own_base (h.row i hi) hb, h.apart⟩
/-- A pool whose list lies in a slot, its marks in a row with room behind. -/
structure PoolC (w : World) (base hb cp N : Nat) (L : List Nat) (lv : Value) : Prop where
  pool : Pool N L
  small : N ≤ 1000000
  hbb : base ≤ hb
  has : Vec Value.bool w hb 4 cp N (fun i => decide (i ∈ L))
  list : w.ownsRow base 3 1 lv L.length (L.map num)
theorem PoolC.below {w w' : World} {base hb cp N : Nat} {L : List Nat} {lv : Value} (h : PoolC w base hb cp N L lv) (k : Below w.heap.size w w') : PoolC w' base hb cp N L lv := by
  have hg : w.grownBy w' none := ⟨k.os, k.tape, k.output, k.size, fun i hi _ => k.block i hi⟩
  exact ⟨h.pool, h.small, h.hbb, h.has.grown hg (by simp), h.list.kept hg (by cases lv.ownBlock <;> simp)⟩
structure SpAt (w0 w : World) (tb hb cp N : Nat) (V : Nat → Value) (R : Nat → List (ByteArray × Nat)) (L : List Nat) (lv : Value) : Prop where
  rows : RowsAt enE 102 100 2 w w0.heap.size tb N V R
  pool : PoolC w w0.heap.size hb cp N L lv
  below : Below w0.heap.size w0 w
section
variable {w0 w w1 : World} {tb hb cp N : Nat} {V : Nat → Value} {R : Nat → List (ByteArray × Nat)} {L : List Nat} {lv : Value}
theorem SpAt.under (h : SpAt w0 w tb hb cp N V R L lv) (hb1 : Below w.heap.size w w1) : SpAt w0 w1 tb hb cp N V R L lv :=
  ⟨h.rows.below hb1, h.pool.below hb1, h.below.trans (hb1.mono h.below.size)⟩
theorem SpAt.alloc (h : SpAt w0 w tb hb cp N V R L lv) (o : Obj) : SpAt w0 (w.alloc o) tb hb cp N V R L lv := h.under ((Below.refl _ w).alloc (Nat.le_refl _) o)
/-- A number marked, and laid ready. -/
theorem SpAt.own (h : SpAt w0 w tb hb cp N V R L lv) (q : Nat) (o : Obj) : ((w.setCell ⟨hb, q, none⟩ (.bool true)).alloc o).ownsRow w0.heap.size 3 1 lv L.length (L.map num) := by
  obtain ⟨cur, hcur⟩ := Vec.blk h.pool.has
  exact (own_far h.pool.list (a := ⟨hb, q, none⟩) (own_ne h.pool.list hcur (by decide))).alloc _
theorem SpAt.push (h : SpAt w0 w tb hb cp N V R L lv) {q : Nat} (hm : q ∉ L) (hq : q < N) {o : Obj} {v' : Value} (hg : ((w.setCell ⟨hb, q, none⟩ (.bool true)).alloc o).grownBy w1 lv.ownBlock)
    (hown : w1.ownsRow w0.heap.size 3 1 v' (L ++ [q]).length ((L ++ [q]).map num)) : SpAt w0 w1 tb hb cp N V R (L ++ [q]) v' := by
  have hO := h.own q o
  obtain ⟨hR, ⟨hp, hs, hbb, hv, how⟩, hbel⟩ := h
  obtain ⟨cur, hcur⟩ := Vec.blk hv
  have hn1 : lv.ownBlock ≠ some hb := own_ne how hcur (by decide)
  refine ⟨((hR.far (a := ⟨hb, q, none⟩) hcur (by decide) (by decide) (.bool true)).alloc o).grown hO (by decide) (by decide) hg, ⟨by have := hp.ins hq; rwa [ins_new hm] at this, hs, hbb, ?_, hown⟩, ?_⟩
  · have h1 : Vec Value.bool ((w.setCell ⟨hb, q, none⟩ (.bool true)).alloc o) hb 4 cp N (fun i => decide (i ∈ L ++ [q])) := by
      refine (Vec.alloc_ (hv.set (i := q) true) _).congr fun i hi => ?_
      show (if i = q then true else decide (i ∈ L)) = _
      by_cases e : i = q
      · simp [e]
      · simp [e]
    exact h1.grown hg (fun e => hn1 e.symm)
  · have h1 : Below w0.heap.size w0 ((w.setCell ⟨hb, q, none⟩ (.bool true)).alloc o) := (hbel.setCell (p := ⟨hb, q, none⟩) hbb _).alloc (by have := hbel.size; simpa [World.setCell] using this) _
    exact h1.grown hg h1.size (fun k hk => (how.lt k hk).1)
end
end Nf
end Go.Proofs.YteggofjldgjfiaaGreat
