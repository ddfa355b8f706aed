/-
  The walk of the reference's reversed: the edges turned round.
-/
import Derived.Test.YtpoblcmjfcpiaaaGreatMgReSpMReSeM
set_option linter.unusedVariables false
set_option linter.unusedSimpArgs false
namespace Go.Proofs.YtpoblcmjfcpiaaaGreat
open Go.RowKit
namespace Nf
/-- The turned table under way. -/
structure RdAt (w0 w : World) (gB eb db tb N : Nat) (V : Nat → Value) (R : Nat → List (ByteArray × Nat)) : Prop where
  rows : RowsAt enE 102 100 2 w w0.heap.size tb N V R
  gblk : w.heap[gB]? = some (.cells (rfCells eb db N) 71 (0, 0))
  below : Below w0.heap.size w0 w
section
variable {w0 w w1 : World} {gB eb db tb N : Nat} {V : Nat → Value} {R : Nat → List (ByteArray × Nat)}
theorem RdAt.alloc (h : RdAt w0 w gB eb db tb N V R) (o : Obj) : RdAt w0 (w.alloc o) gB eb db tb N V R :=
  ⟨h.rows.alloc o, blk_alloc h.gblk o, h.below.alloc h.below.size o⟩
theorem RdAt.push (h : RdAt w0 w gB eb db tb N V R) {i : Nat} (hi : i < N) {v' : Value} {x : ByteArray × Nat} (hg : w.grownBy w1 (V i).ownBlock)
    (hown : w1.ownsRow w0.heap.size 102 2 v' ((R i).length + 1) ((R i).flatMap enE ++ enE x)) (hat : (V i).ownBlock = v'.ownBlock ∨ ∃ g, v'.ownBlock = some g ∧ w.heap.size ≤ g) :
    RdAt w0 (w1.setCell ⟨tb, i, none⟩ v') gB eb db tb N (up1 V i v') (up1 R i (R i ++ [x])) := by
  have hr := h.rows.row i hi
  obtain ⟨tc, htc⟩ := Vec.blk h.rows.tab
  have htc1 := blk_grown htc hg (own_vec_ne hr h.rows.tab (by decide))
  have hg1 := blk_grown h.gblk hg (own_ne hr h.gblk (by decide))
  exact ⟨h.rows.push (by decide) hi hg hown hat, blk_far hg1 (a := ⟨tb, i, none⟩) (fun e => blk_ne hg1 htc1 (by decide) e) _, (h.below.grown hg h.below.size (fun k hk => (hr.lt k hk).1)).setCell (p := ⟨tb, i, none⟩) h.rows.tbb _⟩
end
/-- What the edges of the first k states put there, turned round; and m edges of the next one. -/
def RelT (R : Nat → List (ByteArray × Nat)) (k : Nat) (T : Nat → List (ByteArray × Nat)) : Prop := ∀ q s p, (s, p) ∈ T q ↔ p < k ∧ (s, q) ∈ R p
def RelTi (R : Nat → List (ByteArray × Nat)) (k m : Nat) (T : Nat → List (ByteArray × Nat)) : Prop := ∀ q s p, (s, p) ∈ T q ↔ (p < k ∧ (s, q) ∈ R p) ∨ (p = k ∧ (s, q) ∈ (R k).take m)
theorem relT_nil (R : Nat → List (ByteArray × Nat)) : RelT R 0 (fun _ => []) := fun q s p => by simp
theorem relT_in {R T : Nat → List (ByteArray × Nat)} {k : Nat} (h : RelT R k T) : RelTi R k 0 T := fun q s p => by rw [h q s p]; simp
theorem relT_out {R T : Nat → List (ByteArray × Nat)} {k m : Nat} (h : RelTi R k m T) (hm : (R k).length ≤ m) : RelT R (k + 1) T := fun q s p => by
  rw [h q s p, List.take_of_length_le hm]
  constructor
  · rintro (⟨h1, h2⟩ | ⟨rfl, h2⟩)
    · exact ⟨by omega, h2⟩
    · exact ⟨by omega, h2⟩
  · rintro ⟨h1, h2⟩
    by_cases e : p = k
    · subst e; exact .inr ⟨rfl, h2⟩
    · exact .inl ⟨by omega, h2⟩
theorem relT_push {R T : Nat → List (ByteArray × Nat)} {k m i : Nat} {t : ByteArray} (h : RelTi R k m T) (htk : (R k).take (m + 1) = (R k).take m ++ [(t, i)]) : RelTi R k (m + 1) (up1 T i (T i ++ [(t, k)])) := fun q s p => by
  rw [htk]
  by_cases e : q = i
  · subst e
    rw [up1_same, List.mem_append, h q s p, List.mem_append, List.mem_singleton, List.mem_singleton, Prod.mk.injEq, Prod.mk.injEq]
    constructor
    · rintro ((h1 | ⟨h1, h2⟩) | ⟨h1, h2⟩)
      · exact .inl h1
      · exact .inr ⟨h1, .inl h2⟩
      · exact .inr ⟨h2, .inr ⟨h1, rfl⟩⟩
    · rintro (h1 | ⟨h1, h2 | ⟨h2, _⟩⟩)
      · exact .inl (.inl h1)
      · exact .inl (.inr ⟨h1, h2⟩)
      · exact .inr ⟨h2, h1⟩
  · rw [up1_ne _ _ e, h q s p, List.mem_append, List.mem_singleton, Prod.mk.injEq]
    constructor
    · rintro (h1 | ⟨h1, h2⟩)
      · exact .inl h1
      · exact .inr ⟨h1, .inl h2⟩
    · rintro (h1 | ⟨h1, h2 | ⟨_, h2⟩⟩)
      · exact .inl h1
      · exact .inr ⟨h1, h2⟩
      · exact absurd h2 e
/-- What hands the turned table back. -/
def RdPost (N : Nat) (R : Nat → List (ByteArray × Nat)) (w : World) (e : Ending) (w' : World) : Prop :=
  ∃ tb V T, e = .returned (.slice (some ⟨tb, 0, none⟩) N N) ∧ RowsAt enE 102 100 2 w' w.heap.size tb N V T ∧ RelT R N T ∧ (∀ i, (T i).length ≤ 4000000000) ∧ Below w.heap.size w w'
end Nf

set_option maxHeartbeats 8000000 in
set_option maxRecDepth 100000 in
theorem reversed_any (w : World) (eb db : Nat) (R : Nat → List (ByteArray × Nat)) (g : Nf.Gr) (hG : Nf.RfAt w eb db R g) :
    Calls Tryz.prog 61 #[Nf.rfVal eb db g.N] w (Nf.RdPost g.N R w) := by
  obtain ⟨i0, hi, hiz0, hiz1, hiz2⟩ := info_parts Nf.edgeInfo
  obtain ⟨j0, hj, hy0, hy1, hy2⟩ := info_parts Nf.edgesInfo
  have hp : Nf.RdPost g.N R w = fun e w' => ∃ tb V T, e = .returned (.slice (some ⟨tb, 0, none⟩) g.N g.N) ∧ Nf.RowsAt Nf.enE 102 100 2 w' w.heap.size tb g.N V T ∧ Nf.RelT R g.N T ∧ (∀ i, (T i).length ≤ 4000000000) ∧ Below w.heap.size w w' := rfl
  rw [hp]
  have hN := hG.small
  have HG := Sp.hid hG
  have HtoN : Hid (∀ p s q, (s, q) ∈ R p → q < g.N) := Sp.hid (fun p s q h => hG.to_lt h)
  obtain ⟨N, hNe⟩ : ∃ N, g.N = N := ⟨_, rfl⟩
  have Hedg := Sp.hid hG.edg
  rw [hNe] at hN HtoN Hedg ⊢
  unfold Nf.rfVal
  have hmk1 : ∀ w : World, (Instr.makeSlice 69 (.int .i64 (N : Int)) (.int .i64 (N : Int))).run Tryz.prog w = .ok (.slice (some ⟨w.heap.size, 0, none⟩) N N) (w.alloc (.cells (madeCells #[.slice none 0 0] N) 100)) := fun w => run_make_row' _ _ _ 24 Tryz.underlying69 Nf.edgesInfo rfl _ _ N (by omega) (by omega) w
  obtain ⟨w1, hw1⟩ : ∃ w1, w.alloc (.cells #[.int .i64 0, .slice (some ⟨eb, 0, none⟩) N N, .slice (some ⟨db, 0, none⟩) N N] 71) = w1 := ⟨_, rfl⟩
  have hgb : w1.heap[w.heap.size]? = some (.cells (Nf.rfCells eb db N) 71 (0, 0)) := by rw [← hw1]; exact Nf.Below.heap_new _ _
  have hbw : Below w.heap.size w w1 := by rw [← hw1]; exact (Below.refl _ w).alloc (Nat.le_refl _) _
  have hI0 : Nf.RdAt w (w1.alloc (.cells (madeCells #[.slice none 0 0] N) 100)) w.heap.size eb db w1.heap.size N (fun _ => .slice none 0 0) (fun _ => []) :=
    ⟨Nf.RowsAt.made (by omega) hbw.size (Nf.Below.heap_new w1 _), Nf.blk_alloc hgb _, hbw.alloc hbw.size _⟩
  have hz1 : w1.heap.size = w.heap.size + 1 := by rw [← hw1]; simp
  rw [hz1] at hI0
  have HI0 := Sp.hid hI0
  have Hw1 := Sp.hid hw1
  have c1 : w1.cell? ⟨w.heap.size, 1, none⟩ = some (.slice (some ⟨eb, 0, none⟩) N N) := Nf.blk_cell (i := 1) hgb rfl
  clear hp hG hw1 hgb hbw hI0 hNe hz1
  go_enter Tryz.func61, Tryz.ntmps61
  go_wp2_with fail
  rw [Hw1.out]
  go_wp2_with fail
  obtain ⟨w2, hw2⟩ : ∃ w2, w1.alloc (.cells (madeCells #[.slice none 0 0] N) 100) = w2 := ⟨_, rfl⟩
  rw [hw2] at HI0 ⊢
  obtain ⟨tb, htb⟩ : ∃ tb, w.heap.size + 1 = tb := ⟨_, rfl⟩
  rw [htb] at HI0 ⊢
  obtain ⟨gB, hgB⟩ : ∃ gB, w.heap.size = gB := ⟨_, rfl⟩
  have HgB := Sp.hid hgB
  have HI1 : Hid (Nf.RdAt w w2 gB eb db tb N (fun _ => .slice none 0 0) (fun _ => [])) := by rw [← hgB]; exact HI0
  rw [show (⟨w.heap.size, 0, none⟩ : Addr) = ⟨gB, 0, none⟩ by rw [hgB]]
  clear hw2 htb hgB Hw1 HI0 c1
  go_loopw [4, 5, 6] (fun i _ _ wr => ∃ (k : Nat) (V : Nat → Value) (T : Nat → List (ByteArray × Nat)), i = .int .i64 k ∧ k ≤ N ∧ Hid (Nf.RdAt w wr gB eb db tb N V T) ∧ Hid (Nf.RelT R k T) ∧ Hid (∀ i, (T i).length ≤ 1000000 * k)) (fun i _ _ _ => N - (intOf i).toNat)
  case atStart => exact ⟨0, _, _, rfl, Nat.zero_le _, HI1, Sp.hid (Nf.relT_nil R), Sp.hid (fun i => by simp)⟩
  case round =>
    clear HI1
    obtain ⟨k, V, T, rfl, hk, HI, HT, Hsz⟩ := hrel
    have cG : wr.cell? ⟨gB, 1, none⟩ = some (.slice (some ⟨eb, 0, none⟩) N N) := Nf.blk_cell (i := 1) HI.out.gblk rfl
    by_cases hkN : k < N
    · obtain ⟨ro, rcap, cE, hrl, hrc⟩ := Hedg.out k hkN
      have Hrc := Sp.hid hrc
      have HcE := Sp.hid cE
      have i1 : (0 : Int) ≤ (k : Int) := by omega
      have i2 : (k : Int) < (N : Int) := by omega
      clear cE hrc
      go_wp2_with fail
      clear cG
      rename World => wA
      go_loopw [5, 6] (fun i _ wr => ∃ (m : Nat) (V : Nat → Value) (T : Nat → List (ByteArray × Nat)), i = .int .i64 m ∧ m ≤ (R k).length ∧ Hid (Nf.RdAt w wr gB eb db tb N V T) ∧ Hid (Nf.RelTi R k m T) ∧ Hid (∀ i, (T i).length ≤ 1000000 * k + m)) (fun i _ _ => (R k).length - (intOf i).toNat)
      case atStart => exact ⟨0, V, T, rfl, Nat.zero_le _, HI, Sp.hid (Nf.relT_in HT.out), Sp.hid (fun i => by have := Hsz.out i; omega)⟩
      case round =>
        clear HI HT Hsz
        obtain ⟨m, V, T, rfl, hmle, HI, HT, Hsz⟩ := hrel
        have cG : wr.cell? ⟨gB, 1, none⟩ = some (.slice (some ⟨eb, 0, none⟩) N N) := Nf.blk_cell (i := 1) HI.out.gblk rfl
        have cE3 : wr.cell? ⟨eb, k, none⟩ = some (.slice ro (R k).length rcap) := by rw [HI.out.below.cell (p := ⟨eb, k, none⟩) (World.block_lt_of_cell? w _ HcE.out)]; exact HcE.out
        by_cases hm : m < (R k).length
        · obtain ⟨b2, off2, x, rfl, hx, hxc, htk⟩ := Hrc.out.at hm
          obtain ⟨s, q⟩ := x
          have hqN : q < N := HtoN.out k s q (List.mem_of_getElem? hx)
          have cX0' : w.cell? ⟨b2, off2 + (m * 2 + 0), none⟩ = some (.string s) := hxc 0 _ rfl
          have cX1' : w.cell? ⟨b2, off2 + (m * 2 + 1), none⟩ = some (.int .i64 q) := hxc 1 _ rfl
          have cX0 : wr.cell? ⟨b2, off2 + m * 2, none⟩ = some (.string s) := by rw [HI.out.below.cell (p := ⟨b2, off2 + m * 2, none⟩) (World.block_lt_of_cell? w _ cX0')]; exact cX0'
          have cX1 : wr.cell? ⟨b2, off2 + m * 2 + 1, none⟩ = some (.int .i64 q) := by rw [HI.out.below.cell (p := ⟨b2, off2 + m * 2 + 1, none⟩) (World.block_lt_of_cell? w _ cX1')]; exact cX1'
          have i5 : (0 : Int) ≤ (m : Int) := by omega
          have i6 : (m : Int) < ((R k).length : Int) := by omega
          have i7 : (0 : Int) ≤ (q : Int) := by omega
          have i8 : (q : Int) < (N : Int) := by omega
          have hHI := HI.out.alloc (.cells #[.string s, .int .i64 q] 102)
          obtain ⟨wq, hwq⟩ : ∃ wq, wr.alloc (.cells #[.string s, .int .i64 q] 102) = wq := ⟨_, rfl⟩
          have hab : wq.heap[wr.heap.size]? = some (.cells #[.string s, .int .i64 q] 102 (0, 0)) := by rw [← hwq]; exact Nf.Below.heap_new _ _
          rw [hwq] at hHI
          have HIq := Sp.hid hHI
          have Hwq := Sp.hid hwq
          obtain ⟨ab, hab2⟩ : ∃ ab, wr.heap.size = ab := ⟨_, rfl⟩
          have Hab2 := Sp.hid hab2
          rw [hab2] at hab
          have Hab := Sp.hid hab
          have HTp := Sp.hid (Nf.relT_push HT.out htk)
          clear hx hxc htk cX0' cX1' hHI hwq hab hab2
          go_wp2_with fail
          rw [Hwq.out, Hab2.out]
          clear cG cE3 cX0 cX1
          have hHH := HIq.out.below.size
          have hszp := Hsz.out q
          have k1 : wq.cell? ⟨ab, 0, none⟩ = some (.string s) := Nf.blk_cell (i := 0) Hab.out rfl
          have l1 : ab < wq.heap.size := Nf.blk_lt Hab.out
          have o1 : (V q).ownBlock ≠ some ab := (fun e => Nat.lt_irrefl _ (by have := ((HI.out.rows.row q (by omega)).lt _ e).2; rwa [Hab2.out] at this))
          have k2 : wq.cell? ⟨ab, 1, none⟩ = some (.int .i64 q) := Nf.blk_cell (i := 1) Hab.out rfl
          have l2 : ab < wq.heap.size := Nf.blk_lt Hab.out
          have o2 : (V q).ownBlock ≠ some ab := (fun e => Nat.lt_irrefl _ (by have := ((HI.out.rows.row q (by omega)).lt _ e).2; rwa [Hab2.out] at this))
          have k3 : wq.cell? ⟨tb, q, none⟩ = some (V q) := HIq.out.rows.tab.cell (by omega)
          have l3 : tb < wq.heap.size := HIq.out.rows.tab.lt
          have o3 : (V q).ownBlock ≠ some tb := Nf.own_vec_ne (HIq.out.rows.row q (by omega)) HIq.out.rows.tab (by decide)
          have hrow := (HIq.out.rows).row q (by omega)
          have f4 := (HIq.out.rows).tab.free q
          have hrow2 : ((wq.alloc (.cells #[.string s, .int .i64 k] 102)).drew).ownsRow w.heap.size 102 2 (V q) (T q).length ((T q).flatMap Nf.enE) := hrow.alloc _
          have Hrow2 := Sp.hid hrow2
          clear hrow2 hrow
          refine Open.begin (S := fun w' => w'.cell? ⟨ab, 0, none⟩ = some (.string s) ∧ w'.cell? ⟨ab, 1, none⟩ = some (.int .i64 q) ∧ w'.cell? ⟨tb, q, none⟩ = some (V q)) (z := 15) (by kernel_rfl) ?_
          have HS : wq.drew.cell? ⟨ab, 0, none⟩ = some (.string s) ∧ wq.drew.cell? ⟨ab, 1, none⟩ = some (.int .i64 q) ∧ wq.drew.cell? ⟨tb, q, none⟩ = some (V q) := ⟨k1, k2, k3⟩
          refine Open.take (i := 0) (v := ?_) rfl (by kernel_rfl) (by kernel_rfl) (by kernel_rfl) (by kernel_rfl) (fun _ _ _ h => h) HS (Or.inl ⟨rfl, ?_⟩) ?_
          rotate_left
          · rintro w' ⟨k1, k2, k3⟩
            go_simp
            try rfl
          simp only [Act.put, List.setIfInBounds_toArray, List.set_cons_zero, List.set_cons_succ]
          refine Open.take (i := 1) (v := ?_) rfl (by kernel_rfl) (by kernel_rfl) (by kernel_rfl) (by kernel_rfl) (fun _ _ _ h => h) HS (Or.inl ⟨rfl, ?_⟩) ?_
          rotate_left
          · rintro w' ⟨k1, k2, k3⟩
            go_simp
            try rfl
          simp only [Act.put, List.setIfInBounds_toArray, List.set_cons_zero, List.set_cons_succ]
          refine Open.take (i := 2) (v := ?_) rfl (by kernel_rfl) (by kernel_rfl) (by kernel_rfl) (by kernel_rfl) (fun _ _ _ h => h) HS (Or.inl ⟨rfl, ?_⟩) ?_
          rotate_left
          · rintro w' ⟨k1, k2, k3⟩
            go_simp
            try rfl
          simp only [Act.put, List.setIfInBounds_toArray, List.set_cons_zero, List.set_cons_succ]
          refine Open.take (i := 3) (v := ?_) rfl (by kernel_rfl) (by kernel_rfl) (by kernel_rfl) (by kernel_rfl) (fun _ _ _ h => h) HS (Or.inl ⟨rfl, ?_⟩) ?_
          rotate_left
          · rintro w' ⟨k1, k2, k3⟩
            go_simp
            try rfl
          simp only [Act.put, List.setIfInBounds_toArray, List.set_cons_zero, List.set_cons_succ]
          refine Open.take (i := 4) (v := ?_) rfl (by kernel_rfl) (by kernel_rfl) (by kernel_rfl) (by kernel_rfl) (fun _ _ _ h => h) HS (Or.inl ⟨rfl, ?_⟩) ?_
          rotate_left
          · rintro w' ⟨k1, k2, k3⟩
            go_simp
            try rfl
          simp only [Act.put, List.setIfInBounds_toArray, List.set_cons_zero, List.set_cons_succ]
          refine Open.take (i := 5) (v := ?_) rfl (by kernel_rfl) (by kernel_rfl) (by kernel_rfl) (by kernel_rfl) (fun _ _ _ h => h) HS (Or.inl ⟨rfl, ?_⟩) ?_
          rotate_left
          · rintro w' ⟨k1, k2, k3⟩
            go_simp
            try rfl
          simp only [Act.put, List.setIfInBounds_toArray, List.set_cons_zero, List.set_cons_succ]
          refine Open.take (i := 6) (v := ?_) rfl (by kernel_rfl) (by kernel_rfl) (by kernel_rfl) (by kernel_rfl) (fun _ _ _ h => h) HS (Or.inl ⟨rfl, ?_⟩) ?_
          rotate_left
          · rintro w' ⟨k1, k2, k3⟩
            go_simp
            try rfl
          simp only [Act.put, List.setIfInBounds_toArray, List.set_cons_zero, List.set_cons_succ]
          refine Open.take (i := 7) (v := ?_) rfl (by kernel_rfl) (by kernel_rfl) (by kernel_rfl) (by kernel_rfl) (fun _ _ _ h => h) HS (Or.inl ⟨rfl, ?_⟩) ?_
          rotate_left
          · rintro w' ⟨k1, k2, k3⟩
            go_simp
            try rfl
          simp only [Act.put, List.setIfInBounds_toArray, List.set_cons_zero, List.set_cons_succ]
          refine Open.take (i := 8) (v := ?_) rfl (by kernel_rfl) (by kernel_rfl) (by kernel_rfl) (by kernel_rfl) (fun _ _ _ h => h) HS (Or.inl ⟨rfl, ?_⟩) ?_
          rotate_left
          · rintro w' ⟨k1, k2, k3⟩
            go_simp
            try rfl
          simp only [Act.put, List.setIfInBounds_toArray, List.set_cons_zero, List.set_cons_succ]
          refine Open.take (i := 9) (v := ?_) rfl (by kernel_rfl) (by kernel_rfl) (by kernel_rfl) (by kernel_rfl) (fun _ _ _ h => h) HS (Or.inl ⟨rfl, ?_⟩) ?_
          rotate_left
          · rintro w' ⟨k1, k2, k3⟩
            go_simp
            try rfl
          simp only [Act.put, List.setIfInBounds_toArray, List.set_cons_zero, List.set_cons_succ]
          refine Open.take (i := 10) (v := ?_) rfl (by kernel_rfl) (by kernel_rfl) (by kernel_rfl) (by kernel_rfl) (fun _ _ _ h => h) HS (Or.inl ⟨rfl, ?_⟩) ?_
          rotate_left
          · rintro w' ⟨k1, k2, k3⟩
            go_simp
            try rfl
          simp only [Act.put, List.setIfInBounds_toArray, List.set_cons_zero, List.set_cons_succ]
          refine Open.take (i := 11) (v := ?_) rfl (by kernel_rfl) (by kernel_rfl) (by kernel_rfl) (by kernel_rfl) (fun _ _ _ h => h) HS (Or.inl ⟨rfl, ?_⟩) ?_
          rotate_left
          · rintro w' ⟨k1, k2, k3⟩
            go_simp
            try rfl
          simp only [Act.put, List.setIfInBounds_toArray, List.set_cons_zero, List.set_cons_succ]
          refine Open.one (i := 12) rfl (by kernel_rfl) rfl (fun K hK => ?_)
          go_simp
          refine hK _ _ ⟨fun _ => ⟨?_, ?_, ?_⟩, ?_⟩
          · simpa [World.cell?_alloc_past _ _ _ l1] using k1
          · simpa [World.cell?_alloc_past _ _ _ l2] using k2
          · simpa [World.cell?_alloc_past _ _ _ l3] using k3
          clear hK K
          refine Open.one (i := 13) rfl (by kernel_rfl) rfl (fun K hK => ?_)
          refine wp_append_lies _ _ _ 100 (by rfl) w.heap.size 102 i0 _ 2 24 Tryz.underlying100 hi hiz0 hiz1 hiz2 rfl (by decide) (V q) _ _ (by rfl) Hrow2.out ⟨wq.heap.size, 0, none⟩ 1 1 [.string s, .int .i64 k] (by rfl) rfl (World.news_of_block (cs := #[.string s, .int .i64 k]) (t := 102) (fr := (0, 0)) (heap_alloc_new wq _)) (by simp [Value.oneCell']) (by omega) ?_ ?_ ?_ (wq.heap.size + 1) (by simp) ?_
          · unfold maxLen; omega
          · omega
          · simp; omega
          intro g' cap w4 hown3 hgrow3 hat3 hlt3
          have hl1 : ab < ((wq.alloc (.cells #[.string s, .int .i64 k] 102)).drew).heap.size := by simp; omega
          have m1 : w4.cell? ⟨ab, 0, none⟩ = some (.string s) := by rw [hgrow3.cell_far ⟨ab, 0, none⟩ hl1 (Ne.symm o1)]; simpa [World.cell?_alloc_past _ _ _ l1] using k1
          have hl2 : ab < ((wq.alloc (.cells #[.string s, .int .i64 k] 102)).drew).heap.size := by simp; omega
          have m2 : w4.cell? ⟨ab, 1, none⟩ = some (.int .i64 q) := by rw [hgrow3.cell_far ⟨ab, 1, none⟩ hl2 (Ne.symm o2)]; simpa [World.cell?_alloc_past _ _ _ l2] using k2
          have hl3 : tb < ((wq.alloc (.cells #[.string s, .int .i64 k] 102)).drew).heap.size := by simp; omega
          have m3 : w4.cell? ⟨tb, q, none⟩ = some (V q) := by rw [hgrow3.cell_far ⟨tb, q, none⟩ hl3 (Ne.symm o3)]; simpa [World.cell?_alloc_past _ _ _ l3] using k3
          have mf : w4.frozen? ⟨tb, q, none⟩ = false := by rw [hgrow3.frozen_far ⟨tb, q, none⟩ hl3 (Ne.symm o3)]; simpa [World.frozen?_alloc_past _ _ _ l3] using f4
          have hgr : wq.grownBy w4 (V q).ownBlock := World.grownBy.trans (World.grownBy_alloc wq (.cells #[.string s, .int .i64 k] 102) _) ⟨hgrow3.os, hgrow3.tape, hgrow3.output, hgrow3.size, hgrow3.block⟩
          have hat4 : (V q).ownBlock = (Value.slice (some ⟨g', 0, none⟩) ((T q).length + 1) cap).ownBlock ∨ ∃ g'', (Value.slice (some ⟨g', 0, none⟩) ((T q).length + 1) cap).ownBlock = some g'' ∧ wq.heap.size ≤ g'' := by
            rcases hat3 with h3 | h3
            · exact .inl h3
            · exact .inr ⟨g', rfl, by omega⟩
          have Hown3 := Sp.hid hown3
          have Hgr := Sp.hid hgr
          have Hat4 := Sp.hid hat4
          refine hK _ _ ⟨fun _ => ⟨m1, m2, m3⟩, ?_⟩
          clear hK K HS hown3 hgrow3 hat3 hlt3 hgr hat4 Hrow2 f4 hl1 hl2 hl3 k1 k2 k3
          have HS : w4.cell? ⟨ab, 0, none⟩ = some (.string s) ∧ w4.cell? ⟨ab, 1, none⟩ = some (.int .i64 q) ∧ w4.cell? ⟨tb, q, none⟩ = some (V q) := ⟨m1, m2, m3⟩
          refine Open.take (i := 14) (v := ?_) rfl (by kernel_rfl) (by kernel_rfl) (by kernel_rfl) (by kernel_rfl) (fun _ _ _ h => h) HS (Or.inl ⟨rfl, ?_⟩) ?_
          rotate_left
          · rintro w' ⟨k1, k2, k3⟩
            go_simp
            try rfl
          simp only [Act.put, List.setIfInBounds_toArray, List.set_cons_zero, List.set_cons_succ]
          refine Open.one (i := 15) rfl (by kernel_rfl) rfl (fun K hK => ?_)
          go_simp
          refine hK _ _ ⟨fun e => absurd rfl e, ?_⟩
          clear hK K HS mf m1 m2 m3 o1 o2 o3 l1 l2 l3
          refine Open.end (by kernel_rfl) ?_
          have Hpush := Sp.hid (HIq.out.push (i := q) (by omega) (x := (s, k)) Hgr.out Hown3.out Hat4.out)
          have Hszp := Sp.hid (Nf.up1_len (i := q) (x := (s, k)) Hsz.out)
          obtain ⟨v2, hv2⟩ : ∃ v2, Value.slice (some ⟨g', 0, none⟩) ((T q).length + 1) cap = v2 := ⟨_, rfl⟩
          rw [hv2] at Hpush ⊢
          obtain ⟨w5, hw5⟩ : ∃ w5, w4.setCell ⟨tb, q, none⟩ v2 = w5 := ⟨_, rfl⟩
          rw [hw5] at Hpush ⊢
          clear hv2 hw5 Hown3 Hgr Hat4 hszp hHH
          go_wp2_with fail
          go_roundw
          case rel => exact ⟨m + 1, _, _, by go_num, hm, Hpush, HTp, Sp.hid (fun i => by have := Hszp.out i; omega)⟩
          case measure => simp [intOf]; omega
        · have HT2 := Sp.hid (Nf.relT_out HT.out (by omega))
          have Hsz2 : Hid (∀ i, (T i).length ≤ 1000000 * (k + 1)) := Sp.hid (fun i => by have := Hsz.out i; omega)
          go_wp2_with fail
          go_roundw
          case rel => exact ⟨k + 1, _, _, by go_num, hkN, HI, HT2, Hsz2⟩
          case measure => simp [intOf]; omega
    · have hkk : k = N := by omega
      have HT2 : Hid (Nf.RelT R N T) := Sp.hid (by rw [← hkk]; exact HT.out)
      have Hsz2 : Hid (∀ i, (T i).length ≤ 4000000000) := Sp.hid (fun i => by have := Hsz.out i; omega)
      clear hkk
      go_wp2_with fail
      go_ret
      exact ⟨_, _, _, rfl, HI.out.rows, HT2.out, Hsz2.out, HI.out.below⟩
end Go.Proofs.YtpoblcmjfcpiaaaGreat
