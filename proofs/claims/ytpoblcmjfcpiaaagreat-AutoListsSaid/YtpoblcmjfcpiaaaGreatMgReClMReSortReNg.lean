/-
  Close of the reference: what lies in memory while it grows.
-/
import Derived.Test.YtpoblcmjfcpiaaaGreatMgReRowReMem
import Derived.Test.YtpoblcmjfcpiaaaGreatMgShelf
import Derived.Test.YtpoblcmjfcpiaaaGreatMgAuMemAuGrAuNet
import Derived.Test.YtpoblcmjfcpiaaaGreatMgAuIxAuReg
import Derived.WalkKit
import Derived.WalkSpells
import Derived.WalkLawsBesides
set_option linter.unusedVariables false
namespace Go.Proofs.YtpoblcmjfcpiaaaGreat
open Go.RowKit
namespace Nf

def rfCells (eb db N : Nat) : Array Value := #[.int .i64 0, .slice (some ⟨eb, 0, none⟩) N N, .slice (some ⟨db, 0, none⟩) N N]
/-- The graph's own block, and the pool. -/
structure ClAt (w0 w : World) (gB hb eb db N : Nat) (L : List Nat) (lv : Value) : Prop where
  gblk : w.heap[gB]? = some (.cells (rfCells eb db N) 71 (0, 0))
  pool : PoolV w w0.heap.size hb N L lv
  below : Below w0.heap.size w0 w
section
variable {w0 w w1 : World} {gB hb eb db N : Nat} {L : List Nat} {lv : Value}
theorem ClAt.under (h : ClAt w0 w gB hb eb db N L lv) (hb1 : Below w.heap.size w w1) : ClAt w0 w1 gB hb eb db N L lv :=
  ⟨blk_below h.gblk hb1 (blk_lt h.gblk), h.pool.below hb1, h.below.trans (hb1.mono h.below.size)⟩
theorem ClAt.alloc (h : ClAt w0 w gB hb eb db N L lv) (o : Obj) : ClAt w0 (w.alloc o) gB hb eb db N L lv := h.under ((Below.refl _ w).alloc (Nat.le_refl _) o)
theorem ClAt.drewN (h : ClAt w0 w gB hb eb db N L lv) (k : Nat) : ClAt w0 (w.drewN k) gB hb eb db N L lv := h.under (below_drewN (Below.refl _ _) k)
theorem ClAt.drew (h : ClAt w0 w gB hb eb db N L lv) : ClAt w0 w.drew gB hb eb db N L lv := h.under ((Below.refl _ w).drew)
theorem ClAt.new (w : World) (hN : N ≤ 3000) : ClAt w ((w.alloc (.cells (rfCells eb db N) 71)).alloc (.cells (madeCells #[.bool false] N) 4)) w.heap.size (w.heap.size + 1) eb db N [] (.slice none 0 0) := by
  refine ⟨blk_alloc (Below.heap_new w _) _, ⟨Pool.nil N, by omega, by omega, ?_, World.ownsRow_nil _ _ _ _⟩, ((Below.refl _ w).alloc (Nat.le_refl _) _).alloc (by simp) _⟩
  have h := Below.heap_new (w.alloc (.cells (rfCells eb db N) 71)) (.cells (madeCells #[.bool false] N) 4)
  have e : (w.alloc (.cells (rfCells eb db N) 71)).heap.size = w.heap.size + 1 := by simp
  rw [e] at h
  exact ⟨_, h, size_madeCells _ _, Nat.le_refl _, by unfold maxLen; omega, fun i hi => by simp [madeCells, hi, Nat.mod_one]⟩
/-- A number marked, and laid ready. -/
theorem ClAt.own (h : ClAt w0 w gB hb eb db N L lv) (q : Nat) (o : Obj) : ((w.setCell ⟨hb, q, none⟩ (.bool true)).alloc o).ownsRow w0.heap.size 3 1 lv L.length (L.map num) := by
  obtain ⟨cur, hcur⟩ := Vec.blk h.pool.has
  exact (own_far h.pool.list (a := ⟨hb, q, none⟩) (own_ne h.pool.list hcur (by decide))).alloc _
theorem ClAt.push (h : ClAt w0 w gB hb eb db N L lv) {q : Nat} (hm : q ∉ L) (hq : q < N) {o : Obj} {v' : Value} (hg : ((w.setCell ⟨hb, q, none⟩ (.bool true)).alloc o).grownBy w1 lv.ownBlock)
    (hown : w1.ownsRow w0.heap.size 3 1 v' (L ++ [q]).length ((L ++ [q]).map num)) : ClAt w0 w1 gB hb eb db N (L ++ [q]) v' := by
  obtain ⟨hG, ⟨hp, hs, hbb, hv, how⟩, hbel⟩ := h
  obtain ⟨cur, hcur⟩ := Vec.blk hv
  have hn1 : lv.ownBlock ≠ some hb := own_ne how hcur (by decide)
  have hn2 : lv.ownBlock ≠ some gB := own_ne how hG (by decide)
  have hne : gB ≠ hb := blk_ne hG hcur (by decide)
  refine ⟨blk_grown (blk_alloc (blk_far hG (a := ⟨hb, q, none⟩) hne (.bool true)) o) hg hn2, ⟨by have := hp.ins hq; rwa [ins_new hm] at this, hs, hbb, ?_, hown⟩, ?_⟩
  · have h1 : Vec Value.bool ((w.setCell ⟨hb, q, none⟩ (.bool true)).alloc o) hb 4 N N (fun i => decide (i ∈ L ++ [q])) := by
      refine (Vec.alloc_ (hv.set (i := q) true) _).congr fun i hi => ?_
      show (if i = q then true else decide (i ∈ L)) = _
      by_cases e : i = q
      · simp [e]
      · simp [e]
    exact h1.grown hg (fun e => hn1 e.symm)
  · have h1 : Below w0.heap.size w0 ((w.setCell ⟨hb, q, none⟩ (.bool true)).alloc o) := (hbel.setCell (p := ⟨hb, q, none⟩) hbb _).alloc (by have := hbel.size; simpa [World.setCell] using this) _
    exact h1.grown hg h1.size (fun k hk => (how.lt k hk).1)
end
theorem take_mem {L : List Nat} {k q : Nat} (h : L.take (k + 1) = L.take k ++ [q]) (x : Nat) : x ∈ L.take (k + 1) ↔ x ∈ L.take k ∨ x = q := by rw [h]; simp
end Nf
end Go.Proofs.YtpoblcmjfcpiaaaGreat

/-
  sort.Ints on a row of the call's own.
-/
set_option linter.unusedVariables false
namespace Go.Proofs.YtpoblcmjfcpiaaaGreat
open Go.RowKit
namespace Nf
theorem sort_nat (L : List Nat) : ∃ Ls : List Nat, Ls.Perm L ∧ Ls.Pairwise (· ≤ ·) ∧ ((L.map fun x : Nat => (x : Int)).mergeSort fun x y => decide (x ≤ y)) = Ls.map fun x : Nat => (x : Int) := by
  obtain ⟨zs, hzs⟩ : ∃ zs, ((L.map fun x : Nat => (x : Int)).mergeSort fun x y => decide (x ≤ y)) = zs := ⟨_, rfl⟩
  have hp : zs.Perm (L.map fun x : Nat => (x : Int)) := by rw [← hzs]; exact List.mergeSort_perm _ _
  have hs : zs.Pairwise fun x y => decide (x ≤ y) = true := by
    rw [← hzs]
    exact List.pairwise_mergeSort (fun a b c h1 h2 => by simp only [decide_eq_true_eq] at *; omega) (fun a b => by simp only [Bool.or_eq_true, decide_eq_true_eq]; omega) _
  have hn : ∀ z ∈ zs, 0 ≤ z := fun z hz => by
    obtain ⟨x, _, rfl⟩ := List.mem_map.1 (hp.mem_iff.1 hz)
    omega
  have e : zs = (zs.map Int.toNat).map fun x : Nat => (x : Int) := by
    rw [List.map_map]
    conv => lhs; rw [← List.map_id zs]
    apply List.map_congr_left
    intro z hz
    have := hn z hz
    simp only [id, Function.comp]
    omega
  refine ⟨zs.map Int.toNat, ?_, ?_, by rw [hzs]; exact e⟩
  · have := hp.map Int.toNat
    rw [List.map_map] at this
    have e2 : (L.map (Int.toNat ∘ fun x : Nat => (x : Int))) = L := by
      conv => rhs; rw [← List.map_id L]
      apply List.map_congr_left
      intro x _
      simp
    rwa [e2] at this
  · rw [List.pairwise_map]
    exact hs.imp (fun {a b} h => by simp only [decide_eq_true_eq] at h; omega)
end Nf
theorem sortInts_any (w : World) (base : Nat) (v : Value) (L : List Nat) (h : w.ownsRow base 3 1 v L.length (L.map Nf.num)) (hbig : L.length ≤ 1000000000000) (hB : base ≤ w.heap.size) :
    Calls Tryz.prog 89 #[v] w fun e w' => e = .returned (.tuple #[]) ∧ ∃ Ls : List Nat, Ls.Perm L ∧ Ls.Pairwise (· ≤ ·) ∧ w'.ownsRow base 3 1 v Ls.length (Ls.map Nf.num) ∧ w.grownBy w' v.ownBlock := by
  rcases h.2 with ⟨rfl, h0⟩ | ⟨g, cap, cur, rfl, hbg, hg, hc, hm, hs, ht⟩
  · have e : L = [] := List.length_eq_zero_iff.1 h0
    subst e
    refine (Tryz.sort_Ints_none none 0 w).mono ?_
    rintro e w' ⟨rfl, rfl⟩
    exact ⟨rfl, [], List.Perm.refl _, List.Pairwise.nil, h, grownBy_refl _ _⟩
  · obtain ⟨hv, hbase⟩ := Vec.of_own (en := Nf.num) (xs := L) h
    obtain ⟨Ls, hp, hsrt, hms⟩ := Nf.sort_nat L
    have hH : Go.Sort.Holds (Value.int .i64) w g 0 (L.map fun x : Nat => (x : Int)).toArray := fun j hj => by
      have hj' : j < L.length := by simpa using hj
      have h1 := hv.cell hj'
      have h2 := hv.free j
      rw [Nat.zero_add]
      refine ⟨?_, h2⟩
      rw [h1]
      simp [Nf.num, hj']
    have hcall := Tryz.sort_Ints g 0 cap (L.map fun x : Nat => (x : Int)) w hH hv.lt (by simp; omega)
    rw [List.length_map] at hcall
    refine hcall.mono ?_
    rintro e w' ⟨rfl, n, os, rfl⟩
    rw [hms]
    have hL : Ls.length = L.length := hp.length_eq
    obtain ⟨h1, h2⟩ := Vec.sorted (en := Value.int .i64) (α := Int) (A := fun i => ((L.getD i 0 : Nat) : Int)) (m := n) (os := os) (by
      obtain ⟨cur, a1, a2, a3, a4, a5⟩ := hv
      exact ⟨cur, a1, a2, a3, a4, fun i hi => by rw [a5 i hi]; rfl⟩) (Ls.map fun x : Nat => (x : Int)).toArray (by simp [hL])
    refine ⟨rfl, Ls, hp, hsrt, ?_, h2⟩
    have h3 := h1.own hbase
    have e : ((List.range L.length).map fun i => Value.int .i64 ((Ls.map fun x : Nat => (x : Int)).toArray.getD i default)) = Ls.map Nf.num := by
      apply List.ext_getElem
      · simp [hL]
      · intro i a b
        have : i < Ls.length := by simpa using b
        simp [Nf.num, this]
    rw [e] at h3
    rw [hL]; exact h3
end Go.Proofs.YtpoblcmjfcpiaaaGreat

/-
  The walk of the reference's NewGraph.
-/
set_option linter.unusedVariables false
set_option linter.unusedSimpArgs false
namespace Go.Proofs.YtpoblcmjfcpiaaaGreat
open Go.RowKit
namespace Nf
theorem edgesInfo : (Tryz.prog.info? 100).map (fun i => (i.zero, i.size, i.bytes)) = some (some (.slice none 0 0), 1, 24) := by kernel_rfl
/-- What makes a graph without edges. -/
def NewPost (N : Nat) (w : World) (e : Ending) (w' : World) : Prop :=
  ∃ eb db, e = .returned (rfVal eb db N) ∧ w.heap.size ≤ eb ∧ w.heap.size ≤ db ∧ eb ≠ db ∧ w'.heap[eb]? = some (.cells (madeCells #[.slice none 0 0] N) 100 (0, 0)) ∧ w'.heap[db]? = some (.cells (madeCells #[.bool false] N) 4 (0, 0)) ∧ Below w.heap.size w w'
end Nf
set_option maxHeartbeats 2000000 in
set_option maxRecDepth 100000 in
theorem newGraph_any (w : World) (N : Nat) (hN : N ≤ 3000) :
    Calls Tryz.prog 59 #[.int .i64 N] w (Nf.NewPost N w) := by
  obtain ⟨i0, hi, hz0, hz1, hz2⟩ := info_parts Nf.edgesInfo
  obtain ⟨j0, hj, hy0, hy1, hy2⟩ := info_parts Nf.boolInfo
  have hmk1 : ∀ w : World, (Instr.makeSlice 69 (.int .i64 (N : Int)) (.int .i64 (N : Int))).run Tryz.prog w = .ok (.slice (some ⟨w.heap.size, 0, none⟩) N N) (w.alloc (.cells (madeCells #[.slice none 0 0] N) 100)) := fun w => run_make_row' _ _ _ 24 Tryz.underlying69 Nf.edgesInfo rfl _ _ N (by omega) (by omega) w
  have hmk2 : ∀ w : World, (Instr.makeSlice 59 (.int .i64 (N : Int)) (.int .i64 (N : Int))).run Tryz.prog w = .ok (.slice (some ⟨w.heap.size, 0, none⟩) N N) (w.alloc (.cells (madeCells #[.bool false] N) 4)) := fun w => run_make_row' _ _ _ 1 Tryz.underlying59 Nf.boolInfo rfl _ _ N (by omega) (by omega) w
  go_enter Tryz.func59, Tryz.ntmps59
  go_wp2_with fail
  go_region
  · go_wp2_with fail
    obtain ⟨n1, n2, n3⟩ := Nf.three_new w (.cells #[.int .i64 0, .slice (some ⟨w.heap.size + 1, 0, none⟩) N N, .slice (some ⟨w.heap.size + 1 + 1, 0, none⟩) N N] 71) (.cells (madeCells #[.slice none 0 0] N) 100) (.cells (madeCells #[.bool false] N) 4)
    have hb := (Nf.below_three w (.cells #[.int .i64 0, .slice (some ⟨w.heap.size + 1, 0, none⟩) N N, .slice (some ⟨w.heap.size + 1 + 1, 0, none⟩) N N] 71) (.cells (madeCells #[.slice none 0 0] N) 100) (.cells (madeCells #[.bool false] N) 4)).drew
    have q0 := Nf.blk_cell (i := 0) n1 rfl
    have q1 := Nf.blk_cell (i := 1) n1 rfl
    have q2 := Nf.blk_cell (i := 2) n1 rfl
    refine bodyPost_ret (v := Nf.rfVal (w.heap.size + 1) (w.heap.size + 1 + 1) N) (by simp [results, Tryz.results59, go_sem, Tryz.underlying71, Tryz.isAgg71, Tryz.sizeOf71, q0, q1, q2, Nf.rfVal]) rfl ?_
    exact ⟨_, _, rfl, by omega, by omega, by omega, n2, n3, hb⟩
  · go_wp2_with fail
    obtain ⟨n1, n2, n3⟩ := Nf.three_new w (.cells #[.int .i64 0, .slice (some ⟨w.heap.size + 1 + 1, 0, none⟩) N N, .slice (some ⟨w.heap.size + 1, 0, none⟩) N N] 71) (.cells (madeCells #[.bool false] N) 4) (.cells (madeCells #[.slice none 0 0] N) 100)
    have hb := (Nf.below_three w (.cells #[.int .i64 0, .slice (some ⟨w.heap.size + 1 + 1, 0, none⟩) N N, .slice (some ⟨w.heap.size + 1, 0, none⟩) N N] 71) (.cells (madeCells #[.bool false] N) 4) (.cells (madeCells #[.slice none 0 0] N) 100)).drew
    have q0 := Nf.blk_cell (i := 0) n1 rfl
    have q1 := Nf.blk_cell (i := 1) n1 rfl
    have q2 := Nf.blk_cell (i := 2) n1 rfl
    refine bodyPost_ret (v := Nf.rfVal (w.heap.size + 1 + 1) (w.heap.size + 1) N) (by simp [results, Tryz.results59, go_sem, Tryz.underlying71, Tryz.isAgg71, Tryz.sizeOf71, q0, q1, q2, Nf.rfVal]) rfl ?_
    exact ⟨_, _, rfl, by omega, by omega, by omega, n3, n2, hb⟩
end Go.Proofs.YtpoblcmjfcpiaaaGreat
