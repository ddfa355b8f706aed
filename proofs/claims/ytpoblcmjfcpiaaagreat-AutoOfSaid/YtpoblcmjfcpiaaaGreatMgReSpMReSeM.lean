/-
  spread of the reference: what lies in memory while the marks grow: the table that is read, the marks, and the list.
-/
import Derived.Test.YtpoblcmjfcpiaaaGreatMgReTurnReClMReSortReNg
import Derived.Test.YtpoblcmjfcpiaaaGreatMgReGoReRun
import Derived.Test.YtpoblcmjfcpiaaaGreatMgReKpReOw
set_option linter.unusedVariables false
namespace Go.Proofs.YtpoblcmjfcpiaaaGreat
open Go.RowKit
namespace Nf
/-- A table stays when an own row of another kind grows. -/
theorem RowsAt.grown {α : Type} {en : α → List Value} {e tt e2 : TypeId} {sz s2 n2 : Nat} {w w1 : World} {base b2 tb N : Nat} {V : Nat → Value} {R : Nat → List α} {lv : Value} {xs : List Value} (h : RowsAt en e tt sz w base tb N V R) (hl : w.ownsRow b2 e2 s2 lv n2 xs) (h1 : e ≠ e2) (h2 : e2 ≠ tt) (hg : w.grownBy w1 lv.ownBlock) : RowsAt en e tt sz w1 base tb N V R := by
  refine ⟨h.tab.grown hg (fun e1 => own_vec_ne hl h.tab h2 e1.symm), h.tbb, fun i hi => (h.row i hi).kept hg (own_own_ne (h.row i hi) hl h1), h.apart⟩
/-- A row, read. -/
theorem RowsAt.at_ {α : Type} {en : α → List Value} {e tt : TypeId} {sz : Nat} {w : World} {base tb N : Nat} {V : Nat → Value} {R : Nat → List α} (h : RowsAt en e tt sz w base tb N V R) (hsz : ∀ x : α, (en x).length = sz) {i : Nat} (hi : i < N) :
    ∃ ao cap, w.cell? ⟨tb, i, none⟩ = some (.slice ao (R i).length cap) ∧ RowC en sz w ao (R i) := by
  obtain ⟨ao, cap, hv, hc⟩ := RowC.of_own hsz (h.row i hi)
  exact ⟨ao, cap, by rw [h.tab.cell hi, ← hv]; rfl, hc⟩
theorem RowsAt.base {α : Type} {en : α → List Value} {e tt : TypeId} {sz : Nat} {w : World} {base b' tb N : Nat} {V : Nat → Value} {R : Nat → List α} (h : RowsAt en e tt sz w base tb N V R) (hb : b' ≤ base) : RowsAt en e tt sz w b' tb N V R :=
  ⟨h.tab, Nat.le_trans hb h.tbb, fun i hi => own_base (h.row i hi) hb, h.apart⟩
/-- A pool whose list lies in a slot, its marks in a row with room behind. -/
structure PoolC (w : World) (base hb cp N : Nat) (L : List Nat) (lv : Value) : Prop where
  pool : Pool N L
  small : N ≤ 1000000
  hbb : base ≤ hb
  has : Vec Value.bool w hb 4 cp N (fun i => decide (i ∈ L))
  list : w.ownsRow base 3 1 lv L.length (L.map num)
theorem PoolC.below {w w' : World} {base hb cp N : Nat} {L : List Nat} {lv : Value} (h : PoolC w base hb cp N L lv) (k : Below w.heap.size w w') : PoolC w' base hb cp N L lv := by
  have hg : w.grownBy w' none := ⟨k.os, k.tape, k.output, k.size, fun i hi _ => k.block i hi⟩
  exact ⟨h.pool, h.small, h.hbb, h.has.grown hg (by simp), h.list.kept hg (by cases lv.ownBlock <;> simp)⟩
structure SpAt (w0 w : World) (tb hb cp N : Nat) (V : Nat → Value) (R : Nat → List (ByteArray × Nat)) (L : List Nat) (lv : Value) : Prop where
  rows : RowsAt enE 102 100 2 w w0.heap.size tb N V R
  pool : PoolC w w0.heap.size hb cp N L lv
  below : Below w0.heap.size w0 w
section
variable {w0 w w1 : World} {tb hb cp N : Nat} {V : Nat → Value} {R : Nat → List (ByteArray × Nat)} {L : List Nat} {lv : Value}
theorem SpAt.under (h : SpAt w0 w tb hb cp N V R L lv) (hb1 : Below w.heap.size w w1) : SpAt w0 w1 tb hb cp N V R L lv :=
  ⟨h.rows.below hb1, h.pool.below hb1, h.below.trans (hb1.mono h.below.size)⟩
theorem SpAt.alloc (h : SpAt w0 w tb hb cp N V R L lv) (o : Obj) : SpAt w0 (w.alloc o) tb hb cp N V R L lv := h.under ((Below.refl _ w).alloc (Nat.le_refl _) o)
/-- A number marked, and laid ready. -/
theorem SpAt.own (h : SpAt w0 w tb hb cp N V R L lv) (q : Nat) (o : Obj) : ((w.setCell ⟨hb, q, none⟩ (.bool true)).alloc o).ownsRow w0.heap.size 3 1 lv L.length (L.map num) := by
  obtain ⟨cur, hcur⟩ := Vec.blk h.pool.has
  exact (own_far h.pool.list (a := ⟨hb, q, none⟩) (own_ne h.pool.list hcur (by decide))).alloc _
theorem SpAt.push (h : SpAt w0 w tb hb cp N V R L lv) {q : Nat} (hm : q ∉ L) (hq : q < N) {o : Obj} {v' : Value} (hg : ((w.setCell ⟨hb, q, none⟩ (.bool true)).alloc o).grownBy w1 lv.ownBlock)
    (hown : w1.ownsRow w0.heap.size 3 1 v' (L ++ [q]).length ((L ++ [q]).map num)) : SpAt w0 w1 tb hb cp N V R (L ++ [q]) v' := by
  have hO := h.own q o
  obtain ⟨hR, ⟨hp, hs, hbb, hv, how⟩, hbel⟩ := h
  obtain ⟨cur, hcur⟩ := Vec.blk hv
  have hn1 : lv.ownBlock ≠ some hb := own_ne how hcur (by decide)
  refine ⟨((hR.far (a := ⟨hb, q, none⟩) hcur (by decide) (by decide) (.bool true)).alloc o).grown hO (by decide) (by decide) hg, ⟨by have := hp.ins hq; rwa [ins_new hm] at this, hs, hbb, ?_, hown⟩, ?_⟩
  · have h1 : Vec Value.bool ((w.setCell ⟨hb, q, none⟩ (.bool true)).alloc o) hb 4 cp N (fun i => decide (i ∈ L ++ [q])) := by
      refine (Vec.alloc_ (hv.set (i := q) true) _).congr fun i hi => ?_
      show (if i = q then true else decide (i ∈ L)) = _
      by_cases e : i = q
      · simp [e]
      · simp [e]
    exact h1.grown hg (fun e => hn1 e.symm)
  · have h1 : Below w0.heap.size w0 ((w.setCell ⟨hb, q, none⟩ (.bool true)).alloc o) := (hbel.setCell (p := ⟨hb, q, none⟩) hbb _).alloc (by have := hbel.size; simpa [World.setCell] using this) _
    exact h1.grown hg h1.size (fun k hk => (how.lt k hk).1)
end
end Nf
end Go.Proofs.YtpoblcmjfcpiaaaGreat

/-
  spread of the reference along empty edges: what lies in memory meanwhile; only the marks' block changes of those that were there.
-/
set_option linter.unusedVariables false
namespace Go.Proofs.YtpoblcmjfcpiaaaGreat
open Go.RowKit
namespace Nf
theorem grown_new {w0 w1 w2 : World} {row r2 : Option Nat} (h : w0.grownBy w1 row) (k : w1.grownBy w2 r2) (hr : ∀ b, r2 = some b → w0.heap.size ≤ b) : w0.grownBy w2 row :=
  ⟨k.os.trans h.os, k.tape.trans h.tape, k.output.trans h.output, Nat.le_trans h.size k.size, fun i hi hne => (k.block i (Nat.lt_of_lt_of_le hi h.size) (fun e => by have := hr i e.symm; omega)).trans (h.block i hi hne)⟩
theorem grown_below {w w' : World} (h : Below w.heap.size w w') (row : Option Nat) : w.grownBy w' row := ⟨h.os, h.tape, h.output, h.size, fun i hi _ => h.block i hi⟩
theorem below_grown {w w' : World} (h : w.grownBy w' none) : Below w.heap.size w w' := ⟨h.os, h.tape, h.output, h.size, fun i hi => h.block i hi (by simp)⟩
theorem grown_set (w : World) (b i : Nat) (v : Value) : w.grownBy (w.setCell ⟨b, i, none⟩ v) (some b) :=
  ⟨rfl, rfl, rfl, by simp [World.setCell], fun k hk hne => Below.heap_setCell _ _ _ _ (fun e => hne (by rw [e]))⟩
/-- A table stays when marks alone change. -/
theorem RowsAt.marks {α : Type} {en : α → List Value} {e tt : TypeId} {sz : Nat} {w w1 : World} {base tb N hb cp n : Nat} {V : Nat → Value} {R : Nat → List α} {A : Nat → Bool} (h : RowsAt en e tt sz w base tb N V R) (hv : Vec Value.bool w hb 4 cp n A) (h1 : e ≠ 4) (h2 : tt ≠ 4) (hg : w.grownBy w1 (some hb)) : RowsAt en e tt sz w1 base tb N V R := by
  obtain ⟨cur, hcur⟩ := Vec.blk hv
  obtain ⟨tc, htc⟩ := Vec.blk h.tab
  refine ⟨h.tab.grown hg (fun e1 => blk_ne htc hcur h2 (Option.some.inj e1)), h.tbb, fun i hi => (h.row i hi).kept hg ?_, h.apart⟩
  cases hV : (V i).ownBlock with
  | none => exact .inl rfl
  | some b =>
    right
    rw [← hV]
    exact own_ne (h.row i hi) hcur h1
structure PoolD (w : World) (base hb cp N : Nat) (L : List Nat) (lv : Value) : Prop where
  pool : Pool N L
  small : N ≤ 1000000
  has : Vec Value.bool w hb 4 cp N (fun i => decide (i ∈ L))
  list : w.ownsRow base 3 1 lv L.length (L.map num)
structure SqAt (w0 w : World) (b0 tb hb cp N : Nat) (V : Nat → Value) (R : Nat → List (ByteArray × Nat)) (L : List Nat) (lv : Value) : Prop where
  rows : RowsAt enE 102 100 2 w b0 tb N V R
  pool : PoolD w w0.heap.size hb cp N L lv
  gr : w0.grownBy w (some hb)
section
variable {w0 w w1 : World} {b0 tb hb cp N : Nat} {V : Nat → Value} {R : Nat → List (ByteArray × Nat)} {L : List Nat} {lv : Value}
theorem SqAt.alloc (h : SqAt w0 w b0 tb hb cp N V R L lv) (o : Obj) : SqAt w0 (w.alloc o) b0 tb hb cp N V R L lv :=
  ⟨h.rows.alloc o, ⟨h.pool.pool, h.pool.small, Vec.alloc_ h.pool.has o, h.pool.list.alloc o⟩, grownBy_trans h.gr (World.grownBy_alloc w o _)⟩
theorem SqAt.own (h : SqAt w0 w b0 tb hb cp N V R L lv) (q : Nat) (o : Obj) : ((w.setCell ⟨hb, q, none⟩ (.bool true)).alloc o).ownsRow w0.heap.size 3 1 lv L.length (L.map num) := by
  obtain ⟨cur, hcur⟩ := Vec.blk h.pool.has
  exact (own_far h.pool.list (a := ⟨hb, q, none⟩) (own_ne h.pool.list hcur (by decide))).alloc _
theorem SqAt.push (h : SqAt w0 w b0 tb hb cp N V R L lv) {q : Nat} (hm : q ∉ L) (hq : q < N) {o : Obj} {v' : Value} (hg : ((w.setCell ⟨hb, q, none⟩ (.bool true)).alloc o).grownBy w1 lv.ownBlock)
    (hown : w1.ownsRow w0.heap.size 3 1 v' (L ++ [q]).length ((L ++ [q]).map num)) : SqAt w0 w1 b0 tb hb cp N V R (L ++ [q]) v' := by
  have hO := h.own q o
  obtain ⟨hR, ⟨hp, hs, hv, how⟩, hgr⟩ := h
  obtain ⟨cur, hcur⟩ := Vec.blk hv
  have hn1 : lv.ownBlock ≠ some hb := own_ne how hcur (by decide)
  refine ⟨((hR.far (a := ⟨hb, q, none⟩) hcur (by decide) (by decide) (.bool true)).alloc o).grown hO (by decide) (by decide) hg, ⟨by have := hp.ins hq; rwa [ins_new hm] at this, hs, ?_, hown⟩, ?_⟩
  · have h1 : Vec Value.bool ((w.setCell ⟨hb, q, none⟩ (.bool true)).alloc o) hb 4 cp N (fun i => decide (i ∈ L ++ [q])) := by
      refine (Vec.alloc_ (hv.set (i := q) true) _).congr fun i hi => ?_
      show (if i = q then true else decide (i ∈ L)) = _
      by_cases e : i = q
      · simp [e]
      · simp [e]
    exact h1.grown hg (fun e => hn1 e.symm)
  · exact grown_new (grownBy_trans (grownBy_trans hgr (grown_set w hb q _)) (World.grownBy_alloc _ o _)) hg (fun b hb => (how.lt b hb).1)
end
def SqPost (w : World) (hb cp N : Nat) (R : Nat → List (ByteArray × Nat)) (S : Nat → Prop) (e : Ending) (w' : World) : Prop :=
  e = .returned (.tuple #[]) ∧ ∃ L : List Nat, (∀ q, q ∈ L ↔ ∃ p, p < N ∧ S p ∧ Star (Rel [tabOf isEps R]) p q) ∧ Vec Value.bool w' hb 4 cp N (fun i => decide (i ∈ L)) ∧ w.grownBy w' (some hb)
end Nf
end Go.Proofs.YtpoblcmjfcpiaaaGreat
