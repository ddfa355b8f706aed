/-
  Close of the reference: what lies in memory while it grows.
-/
import Derived.Test.YtpoblcmjfcpiaaaGreatMgReRowReMem
import Derived.Test.YtpoblcmjfcpiaaaGreatMgShelf
import Derived.Test.YtpoblcmjfcpiaaaGreatMgAuMemAuGrAuNet
import Derived.Test.YtpoblcmjfcpiaaaGreatMgAuIxAuReg
import Derived.WalkKit
import Derived.WalkSpells
import Derived.WalkLawsBesides
import Derived.Test.YtpoblcmjfcpiaaaGreatMgAuZAuZaAuKnAuLa
set_option linter.unusedVariables false
namespace Go.Proofs.YtpoblcmjfcpiaaaGreat
open Go.RowKit
namespace Nf

def rfCells (eb db N : Nat) : Array Value := #[.int .i64 0, .slice (some ⟨eb, 0, none⟩) N N, .slice (some ⟨db, 0, none⟩) N N]
/-- The graph's own block, and the pool. -/
structure ClAt (w0 w : World) (gB hb eb db N : Nat) (L : List Nat) (lv : Value) : Prop where
  gblk : w.heap[gB]? = some (.cells (rfCells eb db N) 71 (0, 0))
  pool : PoolV w w0.heap.size hb N L lv
  below : Below w0.heap.size w0 w
section
variable {w0 w w1 : World} {gB hb eb db N : Nat} {L : List Nat} {lv : Value}
theorem ClAt.under (h : ClAt w0 w gB hb eb db N L lv) (hb1 : Below w.heap.size w w1) : ClAt w0 w1 gB hb eb db N L lv :=
  ⟨blk_below h.gblk hb1 (blk_lt h.gblk), h.pool.below hb1, h.below.trans (hb1.mono h.below.size)⟩
theorem ClAt.alloc (h : ClAt w0 w gB hb eb db N L lv) (o : Obj) : ClAt w0 (w.alloc o) gB hb eb db N L lv := h.under ((Below.refl _ w).alloc (Nat.le_refl _) o)
theorem ClAt.drewN (h : ClAt w0 w gB hb eb db N L lv) (k : Nat) : ClAt w0 (w.drewN k) gB hb eb db N L lv := h.under (below_drewN (Below.refl _ _) k)
theorem ClAt.drew (h : ClAt w0 w gB hb eb db N L lv) : ClAt w0 w.drew gB hb eb db N L lv := h.under ((Below.refl _ w).drew)
theorem ClAt.new (w : World) (hN : N ≤ 3000) : ClAt w ((w.alloc (.cells (rfCells eb db N) 71)).alloc (.cells (madeCells #[.bool false] N) 4)) w.heap.size (w.heap.size + 1) eb db N [] (.slice none 0 0) := by
  refine ⟨blk_alloc (Below.heap_new w _) _, ⟨Pool.nil N, by omega, by omega, ?_, World.ownsRow_nil _ _ _ _⟩, ((Below.refl _ w).alloc (Nat.le_refl _) _).alloc (by simp) _⟩
  have h := Below.heap_new (w.alloc (.cells (rfCells eb db N) 71)) (.cells (madeCells #[.bool false] N) 4)
  have e : (w.alloc (.cells (rfCells eb db N) 71)).heap.size = w.heap.size + 1 := by simp
  rw [e] at h
  exact ⟨_, h, size_madeCells _ _, Nat.le_refl _, by unfold maxLen; omega, fun i hi => by simp [madeCells, hi, Nat.mod_one]⟩
/-- A number marked, and laid ready. -/
theorem ClAt.own (h : ClAt w0 w gB hb eb db N L lv) (q : Nat) (o : Obj) : ((w.setCell ⟨hb, q, none⟩ (.bool true)).alloc o).ownsRow w0.heap.size 3 1 lv L.length (L.map num) := by
  obtain ⟨cur, hcur⟩ := Vec.blk h.pool.has
  exact (own_far h.pool.list (a := ⟨hb, q, none⟩) (own_ne h.pool.list hcur (by decide))).alloc _
theorem ClAt.push (h : ClAt w0 w gB hb eb db N L lv) {q : Nat} (hm : q ∉ L) (hq : q < N) {o : Obj} {v' : Value} (hg : ((w.setCell ⟨hb, q, none⟩ (.bool true)).alloc o).grownBy w1 lv.ownBlock)
    (hown : w1.ownsRow w0.heap.size 3 1 v' (L ++ [q]).length ((L ++ [q]).map num)) : ClAt w0 w1 gB hb eb db N (L ++ [q]) v' := by
  obtain ⟨hG, ⟨hp, hs, hbb, hv, how⟩, hbel⟩ := h
  obtain ⟨cur, hcur⟩ := Vec.blk hv
  have hn1 : lv.ownBlock ≠ some hb := own_ne how hcur (by decide)
  have hn2 : lv.ownBlock ≠ some gB := own_ne how hG (by decide)
  have hne : gB ≠ hb := blk_ne hG hcur (by decide)
  refine ⟨blk_grown (blk_alloc (blk_far hG (a := ⟨hb, q, none⟩) hne (.bool true)) o) hg hn2, ⟨by have := hp.ins hq; rwa [ins_new hm] at this, hs, hbb, ?_, hown⟩, ?_⟩
  · have h1 : Vec Value.bool ((w.setCell ⟨hb, q, none⟩ (.bool true)).alloc o) hb 4 N N (fun i => decide (i ∈ L ++ [q])) := by
      refine (Vec.alloc_ (hv.set (i := q) true) _).congr fun i hi => ?_
      show (if i = q then true else decide (i ∈ L)) = _
      by_cases e : i = q
      · simp [e]
      · simp [e]
    exact h1.grown hg (fun e => hn1 e.symm)
  · have h1 : Below w0.heap.size w0 ((w.setCell ⟨hb, q, none⟩ (.bool true)).alloc o) := (hbel.setCell (p := ⟨hb, q, none⟩) hbb _).alloc (by have := hbel.size; simpa [World.setCell] using this) _
    exact h1.grown hg h1.size (fun k hk => (how.lt k hk).1)
end
theorem take_mem {L : List Nat} {k q : Nat} (h : L.take (k + 1) = L.take k ++ [q]) (x : Nat) : x ∈ L.take (k + 1) ↔ x ∈ L.take k ∨ x = q := by rw [h]; simp
end Nf
end Go.Proofs.YtpoblcmjfcpiaaaGreat

/-
  sort.Ints on a row of the call's own.
-/
set_option linter.unusedVariables false
namespace Go.Proofs.YtpoblcmjfcpiaaaGreat
open Go.RowKit
namespace Nf
theorem sort_nat (L : List Nat) : ∃ Ls : List Nat, Ls.Perm L ∧ Ls.Pairwise (· ≤ ·) ∧ ((L.map fun x : Nat => (x : Int)).mergeSort fun x y => decide (x ≤ y)) = Ls.map fun x : Nat => (x : Int) := by
  obtain ⟨zs, hzs⟩ : ∃ zs, ((L.map fun x : Nat => (x : Int)).mergeSort fun x y => decide (x ≤ y)) = zs := ⟨_, rfl⟩
  have hp : zs.Perm (L.map fun x : Nat => (x : Int)) := by rw [← hzs]; exact List.mergeSort_perm _ _
  have hs : zs.Pairwise fun x y => decide (x ≤ y) = true := by
    rw [← hzs]
    exact List.pairwise_mergeSort (fun a b c h1 h2 => by simp only [decide_eq_true_eq] at *; omega) (fun a b => by simp only [Bool.or_eq_true, decide_eq_true_eq]; omega) _
  have hn : ∀ z ∈ zs, 0 ≤ z := fun z hz => by
    obtain ⟨x, _, rfl⟩ := List.mem_map.1 (hp.mem_iff.1 hz)
    omega
  have e : zs = (zs.map Int.toNat).map fun x : Nat => (x : Int) := by
    rw [List.map_map]
    conv => lhs; rw [← List.map_id zs]
    apply List.map_congr_left
    intro z hz
    have := hn z hz
    simp only [id, Function.comp]
    omega
  refine ⟨zs.map Int.toNat, ?_, ?_, by rw [hzs]; exact e⟩
  · have := hp.map Int.toNat
    rw [List.map_map] at this
    have e2 : (L.map (Int.toNat ∘ fun x : Nat => (x : Int))) = L := by
      conv => rhs; rw [← List.map_id L]
      apply List.map_congr_left
      intro x _
      simp
    rwa [e2] at this
  · rw [List.pairwise_map]
    exact hs.imp (fun {a b} h => by simp only [decide_eq_true_eq] at h; omega)
end Nf
theorem sortInts_any (w : World) (base : Nat) (v : Value) (L : List Nat) (h : w.ownsRow base 3 1 v L.length (L.map Nf.num)) (hbig : L.length ≤ 1000000000000) (hB : base ≤ w.heap.size) :
    Calls Tryz.prog 89 #[v] w fun e w' => e = .returned (.tuple #[]) ∧ ∃ Ls : List Nat, Ls.Perm L ∧ Ls.Pairwise (· ≤ ·) ∧ w'.ownsRow base 3 1 v Ls.length (Ls.map Nf.num) ∧ w.grownBy w' v.ownBlock := by
  rcases h.2 with ⟨rfl, h0⟩ | ⟨g, cap, cur, rfl, hbg, hg, hc, hm, hs, ht⟩
  · have e : L = [] := List.length_eq_zero_iff.1 h0
    subst e
    refine (Tryz.sort_Ints_none none 0 w).mono ?_
    rintro e w' ⟨rfl, rfl⟩
    exact ⟨rfl, [], List.Perm.refl _, List.Pairwise.nil, h, grownBy_refl _ _⟩
  · obtain ⟨hv, hbase⟩ := Vec.of_own (en := Nf.num) (xs := L) h
    obtain ⟨Ls, hp, hsrt, hms⟩ := Nf.sort_nat L
    have hH : Go.Sort.Holds (Value.int .i64) w g 0 (L.map fun x : Nat => (x : Int)).toArray := fun j hj => by
      have hj' : j < L.length := by simpa using hj
      have h1 := hv.cell hj'
      have h2 := hv.free j
      rw [Nat.zero_add]
      refine ⟨?_, h2⟩
      rw [h1]
      simp [Nf.num, hj']
    have hcall := Tryz.sort_Ints g 0 cap (L.map fun x : Nat => (x : Int)) w hH hv.lt (by simp; omega)
    rw [List.length_map] at hcall
    refine hcall.mono ?_
    rintro e w' ⟨rfl, n, os, rfl⟩
    rw [hms]
    have hL : Ls.length = L.length := hp.length_eq
    obtain ⟨h1, h2⟩ := Vec.sorted (en := Value.int .i64) (α := Int) (A := fun i => ((L.getD i 0 : Nat) : Int)) (m := n) (os := os) (by
      obtain ⟨cur, a1, a2, a3, a4, a5⟩ := hv
      exact ⟨cur, a1, a2, a3, a4, fun i hi => by rw [a5 i hi]; rfl⟩) (Ls.map fun x : Nat => (x : Int)).toArray (by simp [hL])
    refine ⟨rfl, Ls, hp, hsrt, ?_, h2⟩
    have h3 := h1.own hbase
    have e : ((List.range L.length).map fun i => Value.int .i64 ((Ls.map fun x : Nat => (x : Int)).toArray.getD i default)) = Ls.map Nf.num := by
      apply List.ext_getElem
      · simp [hL]
      · intro i a b
        have : i < Ls.length := by simpa using b
        simp [Nf.num, this]
    rw [e] at h3
    rw [hL]; exact h3
end Go.Proofs.YtpoblcmjfcpiaaaGreat

/-
  The walk of the reference's NewGraph.
-/
set_option linter.unusedVariables false
set_option linter.unusedSimpArgs false
namespace Go.Proofs.YtpoblcmjfcpiaaaGreat
open Go.RowKit
namespace Nf
theorem edgesInfo : (Tryz.prog.info? 100).map (fun i => (i.zero, i.size, i.bytes)) = some (some (.slice none 0 0), 1, 24) := by kernel_rfl
/-- What makes a graph without edges. -/
def NewPost (N : Nat) (w : World) (e : Ending) (w' : World) : Prop :=
  ∃ eb db, e = .returned (rfVal eb db N) ∧ w.heap.size ≤ eb ∧ w.heap.size ≤ db ∧ eb ≠ db ∧ w'.heap[eb]? = some (.cells (madeCells #[.slice none 0 0] N) 100 (0, 0)) ∧ w'.heap[db]? = some (.cells (madeCells #[.bool false] N) 4 (0, 0)) ∧ Below w.heap.size w w'
end Nf
set_option maxHeartbeats 2000000 in
set_option maxRecDepth 100000 in
theorem newGraph_any (w : World) (N : Nat) (hN : N ≤ 3000) :
    Calls Tryz.prog 59 #[.int .i64 N] w (Nf.NewPost N w) := by
  obtain ⟨i0, hi, hz0, hz1, hz2⟩ := info_parts Nf.edgesInfo
  obtain ⟨j0, hj, hy0, hy1, hy2⟩ := info_parts Nf.boolInfo
  have hmk1 : ∀ w : World, (Instr.makeSlice 69 (.int .i64 (N : Int)) (.int .i64 (N : Int))).run Tryz.prog w = .ok (.slice (some ⟨w.heap.size, 0, none⟩) N N) (w.alloc (.cells (madeCells #[.slice none 0 0] N) 100)) := fun w => run_make_row' _ _ _ 24 Tryz.underlying69 Nf.edgesInfo rfl _ _ N (by omega) (by omega) w
  have hmk2 : ∀ w : World, (Instr.makeSlice 59 (.int .i64 (N : Int)) (.int .i64 (N : Int))).run Tryz.prog w = .ok (.slice (some ⟨w.heap.size, 0, none⟩) N N) (w.alloc (.cells (madeCells #[.bool false] N) 4)) := fun w => run_make_row' _ _ _ 1 Tryz.underlying59 Nf.boolInfo rfl _ _ N (by omega) (by omega) w
  go_enter Tryz.func59, Tryz.ntmps59
  go_wp2_with fail
  go_region
  · go_wp2_with fail
    obtain ⟨n1, n2, n3⟩ := Nf.three_new w (.cells #[.int .i64 0, .slice (some ⟨w.heap.size + 1, 0, none⟩) N N, .slice (some ⟨w.heap.size + 1 + 1, 0, none⟩) N N] 71) (.cells (madeCells #[.slice none 0 0] N) 100) (.cells (madeCells #[.bool false] N) 4)
    have hb := (Nf.below_three w (.cells #[.int .i64 0, .slice (some ⟨w.heap.size + 1, 0, none⟩) N N, .slice (some ⟨w.heap.size + 1 + 1, 0, none⟩) N N] 71) (.cells (madeCells #[.slice none 0 0] N) 100) (.cells (madeCells #[.bool false] N) 4)).drew
    have q0 := Nf.blk_cell (i := 0) n1 rfl
    have q1 := Nf.blk_cell (i := 1) n1 rfl
    have q2 := Nf.blk_cell (i := 2) n1 rfl
    refine bodyPost_ret (v := Nf.rfVal (w.heap.size + 1) (w.heap.size + 1 + 1) N) (by simp [results, Tryz.results59, go_sem, Tryz.underlying71, Tryz.isAgg71, Tryz.sizeOf71, q0, q1, q2, Nf.rfVal]) rfl ?_
    exact ⟨_, _, rfl, by omega, by omega, by omega, n2, n3, hb⟩
  · go_wp2_with fail
    obtain ⟨n1, n2, n3⟩ := Nf.three_new w (.cells #[.int .i64 0, .slice (some ⟨w.heap.size + 1 + 1, 0, none⟩) N N, .slice (some ⟨w.heap.size + 1, 0, none⟩) N N] 71) (.cells (madeCells #[.bool false] N) 4) (.cells (madeCells #[.slice none 0 0] N) 100)
    have hb := (Nf.below_three w (.cells #[.int .i64 0, .slice (some ⟨w.heap.size + 1 + 1, 0, none⟩) N N, .slice (some ⟨w.heap.size + 1, 0, none⟩) N N] 71) (.cells (madeCells #[.bool false] N) 4) (.cells (madeCells #[.slice none 0 0] N) 100)).drew
    have q0 := Nf.blk_cell (i := 0) n1 rfl
    have q1 := Nf.blk_cell (i := 1) n1 rfl
    have q2 := Nf.blk_cell (i := 2) n1 rfl
    refine bodyPost_ret (v := Nf.rfVal (w.heap.size + 1 + 1) (w.heap.size + 1) N) (by simp [results, Tryz.results59, go_sem, Tryz.underlying71, Tryz.isAgg71, Tryz.sizeOf71, q0, q1, q2, Nf.rfVal]) rfl ?_
    exact ⟨_, _, rfl, by omega, by omega, by omega, n3, n2, hb⟩
end Go.Proofs.YtpoblcmjfcpiaaaGreat

/-
  An acceptor turned round, plainly: it accepts a word read from its end just if the acceptor accepts the word.
-/
set_option linter.unusedVariables false
namespace Go.Proofs.YtpoblcmjfcpiaaaGreat
open Go.RowKit
namespace Nf

/-- r is g turned round: a new begin, from which empty arcs lead to all that were ends. -/
structure Turned (g r : Gr) : Prop where
  zero : ∀ s q, (0, s, q) ∈ r.arcs ↔ s = eps ∧ ∃ d, d ∈ g.ends ∧ q = d + 1
  succ : ∀ p s q, (p + 1, s, q) ∈ r.arcs ↔ ∃ f, q = f + 1 ∧ (f, s, p) ∈ g.arcs
  ends : ∀ q, q ∈ r.ends ↔ q = 1
variable {g r : Gr}
theorem Turned.fwd (h : Turned g r) {p q : Nat} {v : List ByteArray} (k : Way g p v q) : Way r (q + 1) v.reverse (p + 1) := by
  induction k with
  | nil p => exact .nil _
  | eps h1 _ ih =>
    have := Way.append ih (.eps ((h.succ _ eps _).2 ⟨_, rfl, h1⟩) (.nil _))
    simpa using this
  | sym h0 h1 _ ih =>
    have := Way.append ih (.sym h0 ((h.succ _ _ _).2 ⟨_, rfl, h1⟩) (.nil _))
    simpa using this
theorem Turned.back (h : Turned g r) {a b : Nat} {u : List ByteArray} (k : Way r a u b) : ∀ q, a = q + 1 → ∃ p, b = p + 1 ∧ Way g p u.reverse q := by
  induction k with
  | nil p => intro q e; exact ⟨q, e, .nil q⟩
  | eps h1 _ ih =>
    intro q e
    subst e
    obtain ⟨f, rfl, hf⟩ := (h.succ _ _ _).1 h1
    obtain ⟨p, e, hp⟩ := ih f rfl
    exact ⟨p, e, by have := Way.append hp (.eps hf (.nil q)); simpa using this⟩
  | sym h0 h1 _ ih =>
    intro q e
    subst e
    obtain ⟨f, rfl, hf⟩ := (h.succ _ _ _).1 h1
    obtain ⟨p, e, hp⟩ := ih f rfl
    exact ⟨p, e, by have := Way.append hp (.sym h0 hf (.nil q)); simpa using this⟩
theorem Turned.acc (h : Turned g r) {v : List ByteArray} (hs : ∀ s ∈ v, s ≠ eps) : Acc r v.reverse ↔ Acc g v := by
  rw [acc_way (g := g) hs, acc_way (g := r) (fun s hm => hs s (List.mem_reverse.1 hm))]
  constructor
  · rintro ⟨q, hq, k⟩
    rw [h.ends] at hq
    subst hq
    generalize ha : 0 = a at k
    generalize hb : 1 = b at k
    generalize hu : v.reverse = u at k
    cases k with
    | nil p => omega
    | eps h1 h2 =>
      subst ha
      obtain ⟨_, d, hd, rfl⟩ := (h.zero _ _).1 h1
      obtain ⟨p, e, hp⟩ := h.back h2 d rfl
      have : p = 0 := by omega
      subst this
      exact ⟨d, hd, by rw [← hu] at hp; simpa using hp⟩
    | sym h0 h1 _ =>
      subst ha
      exact absurd ((h.zero _ _).1 h1).1 h0
  · rintro ⟨d, hd, k⟩
    exact ⟨1, (h.ends 1).2 rfl, .eps ((h.zero _ _).2 ⟨rfl, d, hd, rfl⟩) (h.fwd k)⟩

/-- The parts of the turned net. -/
def turnArcs (n : Net) : List ArcV := (n.ends.map fun d => ⟨0, eps, eps, d.s + 1, 0⟩) ++ n.arcs.map fun a => ⟨a.t + 1, a.i, a.o, a.f + 1, 0⟩
structure IsTurn (n m : Net) : Prop where
  sig : m.sig = n.sig
  st : m.st = n.st + 1
  arcs : m.arcs = turnArcs n
  ends : m.ends = [⟨1, 0⟩]
theorem err_parts {n : Net} (h : errNet n = 0) : n.st ≤ 3000 ∧ n.arcs.length ≤ 60000 ∧ n.ends.length ≤ 60000 ∧ Sp.errAlpha n.sig = 0 ∧ netOk n = true ∧ accOk n = true := by
  unfold errNet at h
  by_cases c : 3000 < n.st ∨ 60000 < n.arcs.length ∨ 60000 < n.ends.length
  · rw [if_pos c] at h; cases h
  · rw [if_neg c] at h
    by_cases c2 : Sp.errAlpha n.sig ≠ 0
    · rw [if_pos c2] at h; exact absurd h c2
    · rw [if_neg c2] at h
      by_cases c3 : netOk n = false
      · rw [if_pos c3] at h; cases h
      · rw [if_neg c3] at h
        by_cases c4 : accOk n = false
        · rw [if_pos c4] at h; cases h
        · exact ⟨by omega, by omega, by omega, Classical.byContradiction c2, by simpa using c3, by simpa using c4⟩
theorem err_zero {n : Net} (h1 : n.st ≤ 3000) (h2 : n.arcs.length ≤ 60000) (h3 : n.ends.length ≤ 60000) (h4 : Sp.errAlpha n.sig = 0) (h5 : netOk n = true) (h6 : accOk n = true) : errNet n = 0 := by
  unfold errNet
  rw [if_neg (by omega), if_neg (by simpa using h4), if_neg (by simp [h5]), if_neg (by simp [h6])]
theorem ok_parts {n : Net} (h : netOk n = true) : 1 ≤ n.st ∧ (∀ a ∈ n.arcs, (0 ≤ a.f ∧ a.f < n.st) ∧ (0 ≤ a.t ∧ a.t < n.st) ∧ syOk n a.i = true ∧ syOk n a.o = true) ∧ ∀ d ∈ n.ends, 0 ≤ d.s ∧ d.s < n.st := by
  unfold netOk at h
  simp only [Bool.and_eq_true, decide_eq_true_eq, List.all_eq_true] at h
  refine ⟨h.1.1, fun a ha => ?_, fun d hd => ?_⟩
  · have := h.1.2 a ha
    simp only [arcOk, stOk, Bool.and_eq_true, decide_eq_true_eq] at this
    exact ⟨this.1.1.1, this.1.1.2, this.1.2, this.2⟩
  · have := h.2 d hd
    simpa only [stOk, Bool.and_eq_true, decide_eq_true_eq] using this
theorem IsTurn.err {n m : Net} (h : IsTurn n m) (he : errNet n = 0) (h1 : n.st ≠ 3000) (h2 : n.arcs.length + n.ends.length ≤ 60000) : errNet m = 0 := by
  obtain ⟨p1, p2, p3, p4, p5, p6⟩ := err_parts he
  obtain ⟨q1, q2, q3⟩ := ok_parts p5
  have hsy : ∀ s, syOk m s = syOk n s := fun s => by unfold syOk; rw [h.sig]
  refine err_zero (by rw [h.st]; omega) (by rw [h.arcs]; simp [turnArcs]; omega) (by rw [h.ends]; simp) (by rw [h.sig]; exact p4) ?_ ?_
  · unfold netOk
    simp only [Bool.and_eq_true, decide_eq_true_eq, List.all_eq_true]
    refine ⟨⟨by rw [h.st]; omega, fun a ha => ?_⟩, fun d hd => ?_⟩
    · rw [h.arcs] at ha
      simp only [arcOk, stOk, Bool.and_eq_true, decide_eq_true_eq, hsy, h.st]
      rcases List.mem_append.1 ha with ha | ha
      · obtain ⟨d, hd, rfl⟩ := List.mem_map.1 ha
        have := q3 d hd
        have e : syOk n eps = true := by simp [syOk, show eps.size = 0 from rfl]
        exact ⟨⟨⟨⟨by show (0 : Int) ≤ 0; omega, by show (0 : Int) < _; omega⟩, by show (0 : Int) ≤ d.s + 1; omega, by show d.s + 1 < _; omega⟩, e⟩, e⟩
      · obtain ⟨b, hb, rfl⟩ := List.mem_map.1 ha
        obtain ⟨x1, x2, x3, x4⟩ := q2 b hb
        exact ⟨⟨⟨⟨by show (0 : Int) ≤ b.t + 1; omega, by show b.t + 1 < _; omega⟩, by show (0 : Int) ≤ b.f + 1; omega, by show b.f + 1 < _; omega⟩, x3⟩, x4⟩
    · rw [h.ends] at hd
      simp at hd; subst hd
      simp only [stOk, Bool.and_eq_true, decide_eq_true_eq, h.st]
      exact ⟨by show (0 : Int) ≤ 1; omega, by show (1 : Int) < _; omega⟩
  · unfold accOk at p6 ⊢
    simp only [Bool.and_eq_true, List.all_eq_true] at p6 ⊢
    refine ⟨fun a ha => ?_, fun d hd => ?_⟩
    · rw [h.arcs] at ha
      rcases List.mem_append.1 ha with ha | ha
      · obtain ⟨d, hd, rfl⟩ := List.mem_map.1 ha
        simp [arcFree, bl_true]
      · obtain ⟨b, hb, rfl⟩ := List.mem_map.1 ha
        have := p6.1 b hb
        simp only [arcFree, Bool.and_eq_true] at this ⊢
        exact ⟨this.1, rfl⟩
    · rw [h.ends] at hd
      simp at hd; subst hd
      rfl
theorem IsTurn.turned {n m : Net} (h : IsTurn n m) (he : errNet n = 0) : Turned (netGr n) (netGr m) := by
  obtain ⟨p1, p2, p3, p4, p5, p6⟩ := err_parts he
  obtain ⟨q1, q2, q3⟩ := ok_parts p5
  have hm : ∀ p s q, (p, s, q) ∈ (netGr m).arcs ↔ ∃ a, a ∈ turnArcs n ∧ a.f.toNat = p ∧ a.i = s ∧ a.t.toNat = q := by
    intro p s q
    show (p, s, q) ∈ m.arcs.map _ ↔ _
    rw [h.arcs, List.mem_map]
    simp only [Prod.mk.injEq]
  have hg : ∀ p s q, (p, s, q) ∈ (netGr n).arcs ↔ ∃ a, a ∈ n.arcs ∧ a.f.toNat = p ∧ a.i = s ∧ a.t.toNat = q := by
    intro p s q
    show (p, s, q) ∈ n.arcs.map _ ↔ _
    rw [List.mem_map]
    simp only [Prod.mk.injEq]
  have hd : ∀ q, q ∈ (netGr n).ends ↔ ∃ d, d ∈ n.ends ∧ d.s.toNat = q := by
    intro q
    show q ∈ n.ends.map _ ↔ _
    rw [List.mem_map]
  refine ⟨fun s q => ?_, fun p s q => ?_, fun q => ?_⟩
  · rw [hm]
    constructor
    · rintro ⟨a, ha, h1, h2, h3⟩
      rcases List.mem_append.1 ha with ha | ha
      · obtain ⟨d, hdd, rfl⟩ := List.mem_map.1 ha
        have := q3 d hdd
        refine ⟨h2.symm, d.s.toNat, (hd _).2 ⟨d, hdd, rfl⟩, ?_⟩
        have h3 : (d.s + 1).toNat = q := h3
        omega
      · obtain ⟨b, hb, rfl⟩ := List.mem_map.1 ha
        have := q2 b hb
        have h1 : (b.t + 1).toNat = 0 := h1
        omega
    · rintro ⟨rfl, d, hdd, rfl⟩
      obtain ⟨e, he', rfl⟩ := (hd d).1 hdd
      have := q3 e he'
      exact ⟨_, List.mem_append_left _ (List.mem_map.2 ⟨e, he', rfl⟩), rfl, rfl, by show (e.s + 1).toNat = _; omega⟩
  · rw [hm]
    constructor
    · rintro ⟨a, ha, h1, h2, h3⟩
      rcases List.mem_append.1 ha with ha | ha
      · obtain ⟨d, hdd, rfl⟩ := List.mem_map.1 ha
        have h1 : (0 : Int).toNat = p + 1 := h1
        simp at h1
      · obtain ⟨b, hb, rfl⟩ := List.mem_map.1 ha
        have := q2 b hb
        have h1 : (b.t + 1).toNat = p + 1 := h1
        have h3 : (b.f + 1).toNat = q := h3
        exact ⟨b.f.toNat, by omega, (hg _ _ _).2 ⟨b, hb, rfl, h2, by omega⟩⟩
    · rintro ⟨f, rfl, hf⟩
      obtain ⟨b, hb, h1, h2, h3⟩ := (hg _ _ _).1 hf
      have := q2 b hb
      exact ⟨_, List.mem_append_right _ (List.mem_map.2 ⟨b, hb, rfl⟩), by show (b.t + 1).toNat = _; omega, h2, by show (b.f + 1).toNat = _; omega⟩
  · show q ∈ m.ends.map _ ↔ _
    rw [h.ends]
    simp
end Nf
end Go.Proofs.YtpoblcmjfcpiaaaGreat
