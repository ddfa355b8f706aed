/-
  The walk of the reference's reversed: the edges turned round.
-/
import Derived.Test.YtpoblcmjfcpiaaaGreatMgReSpMReSeM
import Derived.Test.YtpoblcmjfcpiaaaGreatMgReKpReOw
import Derived.LoopTactic
import Derived.Maps.AppendAt
set_option linter.unusedVariables false
set_option linter.unusedSimpArgs false
namespace Go.Proofs.YtpoblcmjfcpiaaaGreat
open Go.RowKit
namespace Nf
/-- The turned table under way. -/
structure RdAt (w0 w : World) (gB eb db tb N : Nat) (V : Nat → Value) (R : Nat → List (ByteArray × Nat)) : Prop where
  rows : RowsAt enE 102 100 2 w w0.heap.size tb N V R
  gblk : w.heap[gB]? = some (.cells (rfCells eb db N) 71 (0, 0))
  below : Below w0.heap.size w0 w
section
variable {w0 w w1 : World} {gB eb db tb N : Nat} {V : Nat → Value} {R : Nat → List (ByteArray × Nat)}
theorem RdAt.alloc (h : RdAt w0 w gB eb db tb N V R) (o : Obj) : RdAt w0 (w.alloc o) gB eb db tb N V R :=
  ⟨h.rows.alloc o, blk_alloc h.gblk o, h.below.alloc h.below.size o⟩
theorem RdAt.push (h : RdAt w0 w gB eb db tb N V R) {i : Nat} (hi : i < N) {v' : Value} {x : ByteArray × Nat} (hg : w.grownBy w1 (V i).ownBlock)
    (hown : w1.ownsRow w0.heap.size 102 2 v' ((R i).length + 1) ((R i).flatMap enE ++ enE x)) (hat : (V i).ownBlock = v'.ownBlock ∨ ∃ g, v'.ownBlock = some g ∧ w.heap.size ≤ g) :
    RdAt w0 (w1.setCell ⟨tb, i, none⟩ v') gB eb db tb N (up1 V i v') (up1 R i (R i ++ [x])) := by
  have hr := h.rows.row i hi
  obtain ⟨tc, htc⟩ := Vec.blk h.rows.tab
  have htc1 := blk_grown htc hg (own_vec_ne hr h.rows.tab (by decide))
  have hg1 := blk_grown h.gblk hg (own_ne hr h.gblk (by decide))
  exact ⟨h.rows.push (by decide) hi hg hown hat, blk_far hg1 (a := ⟨tb, i, none⟩) (fun e => blk_ne hg1 htc1 (by decide) e) _, (h.below.grown hg h.below.size (fun k hk => (hr.lt k hk).1)).setCell (p := ⟨tb, i, none⟩) h.rows.tbb _⟩
end
/-- What the edges of the first k states put there, turned round; and m edges of the next one. -/
def RelT (R : Nat → List (ByteArray × Nat)) (k : Nat) (T : Nat → List (ByteArray × Nat)) : Prop := ∀ q s p, (s, p) ∈ T q ↔ p < k ∧ (s, q) ∈ R p
def RelTi (R : Nat → List (ByteArray × Nat)) (k m : Nat) (T : Nat → List (ByteArray × Nat)) : Prop := ∀ q s p, (s, p) ∈ T q ↔ (p < k ∧ (s, q) ∈ R p) ∨ (p = k ∧ (s, q) ∈ (R k).take m)
theorem relT_nil (R : Nat → List (ByteArray × Nat)) : RelT R 0 (fun _ => []) := fun q s p => by simp
theorem relT_in {R T : Nat → List (ByteArray × Nat)} {k : Nat} (h : RelT R k T) : RelTi R k 0 T := fun q s p => by rw [h q s p]; simp
theorem relT_out {R T : Nat → List (ByteArray × Nat)} {k m : Nat} (h : RelTi R k m T) (hm : (R k).length ≤ m) : RelT R (k + 1) T := fun q s p => by
  rw [h q s p, List.take_of_length_le hm]
  constructor
  · rintro (⟨h1, h2⟩ | ⟨rfl, h2⟩)
    · exact ⟨by omega, h2⟩
    · exact ⟨by omega, h2⟩
  · rintro ⟨h1, h2⟩
    by_cases e : p = k
    · subst e; exact .inr ⟨rfl, h2⟩
    · exact .inl ⟨by omega, h2⟩
theorem relT_push {R T : Nat → List (ByteArray × Nat)} {k m i : Nat} {t : ByteArray} (h : RelTi R k m T) (htk : (R k).take (m + 1) = (R k).take m ++ [(t, i)]) : RelTi R k (m + 1) (up1 T i (T i ++ [(t, k)])) := fun q s p => by
  rw [htk]
  by_cases e : q = i
  · subst e
    rw [up1_same, List.mem_append, h q s p, List.mem_append, List.mem_singleton, List.mem_singleton, Prod.mk.injEq, Prod.mk.injEq]
    constructor
    · rintro ((h1 | ⟨h1, h2⟩) | ⟨h1, h2⟩)
      · exact .inl h1
      · exact .inr ⟨h1, .inl h2⟩
      · exact .inr ⟨h2, .inr ⟨h1, rfl⟩⟩
    · rintro (h1 | ⟨h1, h2 | ⟨h2, _⟩⟩)
      · exact .inl (.inl h1)
      · exact .inl (.inr ⟨h1, h2⟩)
      · exact .inr ⟨h2, h1⟩
  · rw [up1_ne _ _ e, h q s p, List.mem_append, List.mem_singleton, Prod.mk.injEq]
    constructor
    · rintro (h1 | ⟨h1, h2⟩)
      · exact .inl h1
      · exact .inr ⟨h1, .inl h2⟩
    · rintro (h1 | ⟨h1, h2 | ⟨_, h2⟩⟩)
      · exact .inl h1
      · exact .inr ⟨h1, h2⟩
      · exact absurd h2 e
/-- What hands the turned table back. -/
def RdPost (N : Nat) (R : Nat → List (ByteArray × Nat)) (w : World) (e : Ending) (w' : World) : Prop :=
  ∃ tb V T, e = .returned (.slice (some ⟨tb, 0, none⟩) N N) ∧ RowsAt enE 102 100 2 w' w.heap.size tb N V T ∧ RelT R N T ∧ (∀ i, (T i).length ≤ 4000000000) ∧ Below w.heap.size w w'
end Nf

set_option maxHeartbeats 8000000 in
set_option maxRecDepth 100000 in
theorem reversed_any (w : World) (eb db : Nat) (R : Nat → List (ByteArray × Nat)) (g : Nf.Gr) (hG : Nf.RfAt w eb db R g) :
    Calls Tryz.prog 61 #[Nf.rfVal eb db g.N] w (Nf.RdPost g.N R w) := by
  obtain ⟨i0, hi, hiz0, hiz1, hiz2⟩ := info_parts Nf.edgeInfo
  obtain ⟨j0, hj, hy0, hy1, hy2⟩ := info_parts Nf.edgesInfo
  have hp : Nf.RdPost g.N R w = fun e w' => ∃ tb V T, e = .returned (.slice (some ⟨tb, 0, none⟩) g.N g.N) ∧ Nf.RowsAt Nf.enE 102 100 2 w' w.heap.size tb g.N V T ∧ Nf.RelT R g.N T ∧ (∀ i, (T i).length ≤ 4000000000) ∧ Below w.heap.size w w' := rfl
  rw [hp]
  have hN := hG.small
  have HG := Sp.hid hG
  have HtoN : Hid (∀ p s q, (s, q) ∈ R p → q < g.N) := Sp.hid (fun p s q h => hG.to_lt h)
  obtain ⟨N, hNe⟩ : ∃ N, g.N = N := ⟨_, rfl⟩
  have Hedg := Sp.hid hG.edg
  rw [hNe] at hN HtoN Hedg ⊢
  unfold Nf.rfVal
  have hmk1 : ∀ w : World, (Instr.makeSlice 69 (.int .i64 (N : Int)) (.int .i64 (N : Int))).run Tryz.prog w = .ok (.slice (some ⟨w.heap.size, 0, none⟩) N N) (w.alloc (.cells (madeCells #[.slice none 0 0] N) 100)) := fun w => run_make_row' _ _ _ 24 Tryz.underlying69 Nf.edgesInfo rfl _ _ N (by omega) (by omega) w
  obtain ⟨w1, hw1⟩ : ∃ w1, w.alloc (.cells #[.int .i64 0, .slice (some ⟨eb, 0, none⟩) N N, .slice (some ⟨db, 0, none⟩) N N] 71) = w1 := ⟨_, rfl⟩
  have hgb : w1.heap[w.heap.size]? = some (.cells (Nf.rfCells eb db N) 71 (0, 0)) := by rw [← hw1]; exact Nf.Below.heap_new _ _
  have hbw : Below w.heap.size w w1 := by rw [← hw1]; exact (Below.refl _ w).alloc (Nat.le_refl _) _
  have hI0 : Nf.RdAt w (w1.alloc (.cells (madeCells #[.slice none 0 0] N) 100)) w.heap.size eb db w1.heap.size N (fun _ => .slice none 0 0) (fun _ => []) :=
    ⟨Nf.RowsAt.made (by omega) hbw.size (Nf.Below.heap_new w1 _), Nf.blk_alloc hgb _, hbw.alloc hbw.size _⟩
  have hz1 : w1.heap.size = w.heap.size + 1 := by rw [← hw1]; simp
  rw [hz1] at hI0
  have HI0 := Sp.hid hI0
  have Hw1 := Sp.hid hw1
  have c1 : w1.cell? ⟨w.heap.size, 1, none⟩ = some (.slice (some ⟨eb, 0, none⟩) N N) := Nf.blk_cell (i := 1) hgb rfl
  clear hp hG hw1 hgb hbw hI0 hNe hz1
  go_enter Tryz.func61, Tryz.ntmps61
  go_wp2_with fail
  rw [Hw1.out]
  go_wp2_with fail
  obtain ⟨w2, hw2⟩ : ∃ w2, w1.alloc (.cells (madeCells #[.slice none 0 0] N) 100) = w2 := ⟨_, rfl⟩
  rw [hw2] at HI0 ⊢
  obtain ⟨tb, htb⟩ : ∃ tb, w.heap.size + 1 = tb := ⟨_, rfl⟩
  rw [htb] at HI0 ⊢
  obtain ⟨gB, hgB⟩ : ∃ gB, w.heap.size = gB := ⟨_, rfl⟩
  have HgB := Sp.hid hgB
  have HI1 : Hid (Nf.RdAt w w2 gB eb db tb N (fun _ => .slice none 0 0) (fun _ => [])) := by rw [← hgB]; exact HI0
  rw [show (⟨w.heap.size, 0, none⟩ : Addr) = ⟨gB, 0, none⟩ by rw [hgB]]
  clear hw2 htb hgB Hw1 HI0 c1
  go_loopw [4, 5, 6] (fun i _ _ wr => ∃ (k : Nat) (V : Nat → Value) (T : Nat → List (ByteArray × Nat)), i = .int .i64 k ∧ k ≤ N ∧ Hid (Nf.RdAt w wr gB eb db tb N V T) ∧ Hid (Nf.RelT R k T) ∧ Hid (∀ i, (T i).length ≤ 1000000 * k)) (fun i _ _ _ => N - (intOf i).toNat)
  case atStart => exact ⟨0, _, _, rfl, Nat.zero_le _, HI1, Sp.hid (Nf.relT_nil R), Sp.hid (fun i => by simp)⟩
  case round =>
    clear HI1
    obtain ⟨k, V, T, rfl, hk, HI, HT, Hsz⟩ := hrel
    have cG : wr.cell? ⟨gB, 1, none⟩ = some (.slice (some ⟨eb, 0, none⟩) N N) := Nf.blk_cell (i := 1) HI.out.gblk rfl
    by_cases hkN : k < N
    · obtain ⟨ro, rcap, cE, hrl, hrc⟩ := Hedg.out k hkN
      have Hrc := Sp.hid hrc
      have HcE := Sp.hid cE
      have i1 : (0 : Int) ≤ (k : Int) := by omega
      have i2 : (k : Int) < (N : Int) := by omega
      clear cE hrc
      go_wp2_with fail
      clear cG
      rename World => wA
      go_loopw [5, 6] (fun i _ wr => ∃ (m : Nat) (V : Nat → Value) (T : Nat → List (ByteArray × Nat)), i = .int .i64 m ∧ m ≤ (R k).length ∧ Hid (Nf.RdAt w wr gB eb db tb N V T) ∧ Hid (Nf.RelTi R k m T) ∧ Hid (∀ i, (T i).length ≤ 1000000 * k + m)) (fun i _ _ => (R k).length - (intOf i).toNat)
      case atStart => exact ⟨0, V, T, rfl, Nat.zero_le _, HI, Sp.hid (Nf.relT_in HT.out), Sp.hid (fun i => by have := Hsz.out i; omega)⟩
      case round =>
        clear HI HT Hsz
        obtain ⟨m, V, T, rfl, hmle, HI, HT, Hsz⟩ := hrel
        have cG : wr.cell? ⟨gB, 1, none⟩ = some (.slice (some ⟨eb, 0, none⟩) N N) := Nf.blk_cell (i := 1) HI.out.gblk rfl
        have cE3 : wr.cell? ⟨eb, k, none⟩ = some (.slice ro (R k).length rcap) := by rw [HI.out.below.cell (p := ⟨eb, k, none⟩) (World.block_lt_of_cell? w _ HcE.out)]; exact HcE.out
        by_cases hm : m < (R k).length
        · obtain ⟨b2, off2, x, rfl, hx, hxc, htk⟩ := Hrc.out.at hm
          obtain ⟨s, q⟩ := x
          have hqN : q < N := HtoN.out k s q (List.mem_of_getElem? hx)
          have cX0' : w.cell? ⟨b2, off2 + (m * 2 + 0), none⟩ = some (.string s) := hxc 0 _ rfl
          have cX1' : w.cell? ⟨b2, off2 + (m * 2 + 1), none⟩ = some (.int .i64 q) := hxc 1 _ rfl
          have cX0 : wr.cell? ⟨b2, off2 + m * 2, none⟩ = some (.string s) := by rw [HI.out.below.cell (p := ⟨b2, off2 + m * 2, none⟩) (World.block_lt_of_cell? w _ cX0')]; exact cX0'
          have cX1 : wr.cell? ⟨b2, off2 + m * 2 + 1, none⟩ = some (.int .i64 q) := by rw [HI.out.below.cell (p := ⟨b2, off2 + m * 2 + 1, none⟩) (World.block_lt_of_cell? w _ cX1')]; exact cX1'
          have i5 : (0 : Int) ≤ (m : Int) := by omega
          have i6 : (m : Int) < ((R k).length : Int) := by omega
          have i7 : (0 : Int) ≤ (q : Int) := by omega
          have i8 : (q : Int) < (N : Int) := by omega
          have hHI := HI.out.alloc (.cells #[.string s, .int .i64 q] 102)
          obtain ⟨wq, hwq⟩ : ∃ wq, wr.alloc (.cells #[.string s, .int .i64 q] 102) = wq := ⟨_, rfl⟩
          have hab : wq.heap[wr.heap.size]? = some (.cells #[.string s, .int .i64 q] 102 (0, 0)) := by rw [← hwq]; exact Nf.Below.heap_new _ _
          rw [hwq] at hHI
          have HIq := Sp.hid hHI
          have Hwq := Sp.hid hwq
          obtain ⟨ab, hab2⟩ : ∃ ab, wr.heap.size = ab := ⟨_, rfl⟩
          have Hab2 := Sp.hid hab2
          rw [hab2] at hab
          have Hab := Sp.hid hab
          have HTp := Sp.hid (Nf.relT_push HT.out htk)
          clear hx hxc htk cX0' cX1' hHI hwq hab hab2
          go_wp2_with fail
          rw [Hwq.out, Hab2.out]
          clear cG cE3 cX0 cX1
          have hHH := HIq.out.below.size
          have hszp := Hsz.out q
          have k1 : wq.cell? ⟨ab, 0, none⟩ = some (.string s) := Nf.blk_cell (i := 0) Hab.out rfl
          have l1 : ab < wq.heap.size := Nf.blk_lt Hab.out
          have o1 : (V q).ownBlock ≠ some ab := (fun e => Nat.lt_irrefl _ (by have := ((HI.out.rows.row q (by omega)).lt _ e).2; rwa [Hab2.out] at this))
          have k2 : wq.cell? ⟨ab, 1, none⟩ = some (.int .i64 q) := Nf.blk_cell (i := 1) Hab.out rfl
          have l2 : ab < wq.heap.size := Nf.blk_lt Hab.out
          have o2 : (V q).ownBlock ≠ some ab := (fun e => Nat.lt_irrefl _ (by have := ((HI.out.rows.row q (by omega)).lt _ e).2; rwa [Hab2.out] at this))
          have k3 : wq.cell? ⟨tb, q, none⟩ = some (V q) := HIq.out.rows.tab.cell (by omega)
          have l3 : tb < wq.heap.size := HIq.out.rows.tab.lt
          have o3 : (V q).ownBlock ≠ some tb := Nf.own_vec_ne (HIq.out.rows.row q (by omega)) HIq.out.rows.tab (by decide)
          have hrow := (HIq.out.rows).row q (by omega)
          have f4 := (HIq.out.rows).tab.free q
          have hrow2 : ((wq.alloc (.cells #[.string s, .int .i64 k] 102)).drew).ownsRow w.heap.size 102 2 (V q) (T q).length ((T q).flatMap Nf.enE) := hrow.alloc _
          have Hrow2 := Sp.hid hrow2
          clear hrow2 hrow
          refine Open.begin (S := fun w' => w'.cell? ⟨ab, 0, none⟩ = some (.string s) ∧ w'.cell? ⟨ab, 1, none⟩ = some (.int .i64 q) ∧ w'.cell? ⟨tb, q, none⟩ = some (V q)) (z := 15) (by kernel_rfl) ?_
          have HS : wq.drew.cell? ⟨ab, 0, none⟩ = some (.string s) ∧ wq.drew.cell? ⟨ab, 1, none⟩ = some (.int .i64 q) ∧ wq.drew.cell? ⟨tb, q, none⟩ = some (V q) := ⟨k1, k2, k3⟩
          refine Open.take (i := 0) (v := ?_) rfl (by kernel_rfl) (by kernel_rfl) (by kernel_rfl) (by kernel_rfl) (fun _ _ _ h => h) HS (Or.inl ⟨rfl, ?_⟩) ?_
          rotate_left
          · rintro w' ⟨k1, k2, k3⟩
            go_simp
            try rfl
          simp only [Act.put, List.setIfInBounds_toArray, List.set_cons_zero, List.set_cons_succ]
          refine Open.take (i := 1) (v := ?_) rfl (by kernel_rfl) (by kernel_rfl) (by kernel_rfl) (by kernel_rfl) (fun _ _ _ h => h) HS (Or.inl ⟨rfl, ?_⟩) ?_
          rotate_left
          · rintro w' ⟨k1, k2, k3⟩
            go_simp
            try rfl
          simp only [Act.put, List.setIfInBounds_toArray, List.set_cons_zero, List.set_cons_succ]
          refine Open.take (i := 2) (v := ?_) rfl (by kernel_rfl) (by kernel_rfl) (by kernel_rfl) (by kernel_rfl) (fun _ _ _ h => h) HS (Or.inl ⟨rfl, ?_⟩) ?_
          rotate_left
          · rintro w' ⟨k1, k2, k3⟩
            go_simp
            try rfl
          simp only [Act.put, List.setIfInBounds_toArray, List.set_cons_zero, List.set_cons_succ]
          refine Open.take (i := 3) (v := ?_) rfl (by kernel_rfl) (by kernel_rfl) (by kernel_rfl) (by kernel_rfl) (fun _ _ _ h => h) HS (Or.inl ⟨rfl, ?_⟩) ?_
          rotate_left
          · rintro w' ⟨k1, k2, k3⟩
            go_simp
            try rfl
          simp only [Act.put, List.setIfInBounds_toArray, List.set_cons_zero, List.set_cons_succ]
          refine Open.take (i := 4) (v := ?_) rfl (by kernel_rfl) (by kernel_rfl) (by kernel_rfl) (by kernel_rfl) (fun _ _ _ h => h) HS (Or.inl ⟨rfl, ?_⟩) ?_
          rotate_left
          · rintro w' ⟨k1, k2, k3⟩
            go_simp
            try rfl
          simp only [Act.put, List.setIfInBounds_toArray, List.set_cons_zero, List.set_cons_succ]
          refine Open.take (i := 5) (v := ?_) rfl (by kernel_rfl) (by kernel_rfl) (by kernel_rfl) (by kernel_rfl) (fun _ _ _ h => h) HS (Or.inl ⟨rfl, ?_⟩) ?_
          rotate_left
          · rintro w' ⟨k1, k2, k3⟩
            go_simp
            try rfl
          simp only [Act.put, List.setIfInBounds_toArray, List.set_cons_zero, List.set_cons_succ]
          refine Open.take (i := 6) (v := ?_) rfl (by kernel_rfl) (by kernel_rfl) (by kernel_rfl) (by kernel_rfl) (fun _ _ _ h => h) HS (Or.inl ⟨rfl, ?_⟩) ?_
          rotate_left
          · rintro w' ⟨k1, k2, k3⟩
            go_simp
            try rfl
          simp only [Act.put, List.setIfInBounds_toArray, List.set_cons_zero, List.set_cons_succ]
          refine Open.take (i := 7) (v := ?_) rfl (by kernel_rfl) (by kernel_rfl) (by kernel_rfl) (by kernel_rfl) (fun _ _ _ h => h) HS (Or.inl ⟨rfl, ?_⟩) ?_
          rotate_left
          · rintro w' ⟨k1, k2, k3⟩
            go_simp
            try rfl
          simp only [Act.put, List.setIfInBounds_toArray, List.set_cons_zero, List.set_cons_succ]
          refine Open.take (i := 8) (v := ?_) rfl (by kernel_rfl) (by kernel_rfl) (by kernel_rfl) (by kernel_rfl) (fun _ _ _ h => h) HS (Or.inl ⟨rfl, ?_⟩) ?_
          rotate_left
          · rintro w' ⟨k1, k2, k3⟩
            go_simp
            try rfl
          simp only [Act.put, List.setIfInBounds_toArray, List.set_cons_zero, List.set_cons_succ]
          refine Open.take (i := 9) (v := ?_) rfl (by kernel_rfl) (by kernel_rfl) (by kernel_rfl) (by kernel_rfl) (fun _ _ _ h => h) HS (Or.inl ⟨rfl, ?_⟩) ?_
          rotate_left
          · rintro w' ⟨k1, k2, k3⟩
            go_simp
            try rfl
          simp only [Act.put, List.setIfInBounds_toArray, List.set_cons_zero, List.set_cons_succ]
          refine Open.take (i := 10) (v := ?_) rfl (by kernel_rfl) (by kernel_rfl) (by kernel_rfl) (by kernel_rfl) (fun _ _ _ h => h) HS (Or.inl ⟨rfl, ?_⟩) ?_
          rotate_left
          · rintro w' ⟨k1, k2, k3⟩
            go_simp
            try rfl
          simp only [Act.put, List.setIfInBounds_toArray, List.set_cons_zero, List.set_cons_succ]
          refine Open.take (i := 11) (v := ?_) rfl (by kernel_rfl) (by kernel_rfl) (by kernel_rfl) (by kernel_rfl) (fun _ _ _ h => h) HS (Or.inl ⟨rfl, ?_⟩) ?_
          rotate_left
          · rintro w' ⟨k1, k2, k3⟩
            go_simp
            try rfl
          simp only [Act.put, List.setIfInBounds_toArray, List.set_cons_zero, List.set_cons_succ]
          refine Open.one (i := 12) rfl (by kernel_rfl) rfl (fun K hK => ?_)
          go_simp
          refine hK _ _ ⟨fun _ => ⟨?_, ?_, ?_⟩, ?_⟩
          · simpa [World.cell?_alloc_past _ _ _ l1] using k1
          · simpa [World.cell?_alloc_past _ _ _ l2] using k2
          · simpa [World.cell?_alloc_past _ _ _ l3] using k3
          clear hK K
          refine Open.one (i := 13) rfl (by kernel_rfl) rfl (fun K hK => ?_)
          refine wp_append_lies _ _ _ 100 (by rfl) w.heap.size 102 i0 _ 2 24 Tryz.underlying100 hi hiz0 hiz1 hiz2 rfl (by decide) (V q) _ _ (by rfl) Hrow2.out ⟨wq.heap.size, 0, none⟩ 1 1 [.string s, .int .i64 k] (by rfl) rfl (World.news_of_block (cs := #[.string s, .int .i64 k]) (t := 102) (fr := (0, 0)) (heap_alloc_new wq _)) (by simp [Value.oneCell']) (by omega) ?_ ?_ ?_ (wq.heap.size + 1) (by simp) ?_
          · unfold maxLen; omega
          · omega
          · simp; omega
          intro g' cap w4 hown3 hgrow3 hat3 hlt3
          have hl1 : ab < ((wq.alloc (.cells #[.string s, .int .i64 k] 102)).drew).heap.size := by simp; omega
          have m1 : w4.cell? ⟨ab, 0, none⟩ = some (.string s) := by rw [hgrow3.cell_far ⟨ab, 0, none⟩ hl1 (Ne.symm o1)]; simpa [World.cell?_alloc_past _ _ _ l1] using k1
          have hl2 : ab < ((wq.alloc (.cells #[.string s, .int .i64 k] 102)).drew).heap.size := by simp; omega
          have m2 : w4.cell? ⟨ab, 1, none⟩ = some (.int .i64 q) := by rw [hgrow3.cell_far ⟨ab, 1, none⟩ hl2 (Ne.symm o2)]; simpa [World.cell?_alloc_past _ _ _ l2] using k2
          have hl3 : tb < ((wq.alloc (.cells #[.string s, .int .i64 k] 102)).drew).heap.size := by simp; omega
          have m3 : w4.cell? ⟨tb, q, none⟩ = some (V q) := by rw [hgrow3.cell_far ⟨tb, q, none⟩ hl3 (Ne.symm o3)]; simpa [World.cell?_alloc_past _ _ _ l3] using k3
          have mf : w4.frozen? ⟨tb, q, none⟩ = false := by rw [hgrow3.frozen_far ⟨tb, q, none⟩ hl3 (Ne.symm o3)]; simpa [World.frozen?_alloc_past _ _ _ l3] using f4
          have hgr : wq.grownBy w4 (V q).ownBlock := World.grownBy.trans (World.grownBy_alloc wq (.cells #[.string s, .int .i64 k] 102) _) ⟨hgrow3.os, hgrow3.tape, hgrow3.output, hgrow3.size, hgrow3.block⟩
          have hat4 : (V q).ownBlock = (Value.slice (some ⟨g', 0, none⟩) ((T q).length + 1) cap).ownBlock ∨ ∃ g'', (Value.slice (some ⟨g', 0, none⟩) ((T q).length + 1) cap).ownBlock = some g'' ∧ wq.heap.size ≤ g'' := by
            rcases hat3 with h3 | h3
            · exact .inl h3
            · exact .inr ⟨g', rfl, by omega⟩
          have Hown3 := Sp.hid hown3
          have Hgr := Sp.hid hgr
          have Hat4 := Sp.hid hat4
          refine hK _ _ ⟨fun _ => ⟨m1, m2, m3⟩, ?_⟩
          clear hK K HS hown3 hgrow3 hat3 hlt3 hgr hat4 Hrow2 f4 hl1 hl2 hl3 k1 k2 k3
          have HS : w4.cell? ⟨ab, 0, none⟩ = some (.string s) ∧ w4.cell? ⟨ab, 1, none⟩ = some (.int .i64 q) ∧ w4.cell? ⟨tb, q, none⟩ = some (V q) := ⟨m1, m2, m3⟩
          refine Open.take (i := 14) (v := ?_) rfl (by kernel_rfl) (by kernel_rfl) (by kernel_rfl) (by kernel_rfl) (fun _ _ _ h => h) HS (Or.inl ⟨rfl, ?_⟩) ?_
          rotate_left
          · rintro w' ⟨k1, k2, k3⟩
            go_simp
            try rfl
          simp only [Act.put, List.setIfInBounds_toArray, List.set_cons_zero, List.set_cons_succ]
          refine Open.one (i := 15) rfl (by kernel_rfl) rfl (fun K hK => ?_)
          go_simp
          refine hK _ _ ⟨fun e => absurd rfl e, ?_⟩
          clear hK K HS mf m1 m2 m3 o1 o2 o3 l1 l2 l3
          refine Open.end (by kernel_rfl) ?_
          have Hpush := Sp.hid (HIq.out.push (i := q) (by omega) (x := (s, k)) Hgr.out Hown3.out Hat4.out)
          have Hszp := Sp.hid (Nf.up1_len (i := q) (x := (s, k)) Hsz.out)
          obtain ⟨v2, hv2⟩ : ∃ v2, Value.slice (some ⟨g', 0, none⟩) ((T q).length + 1) cap = v2 := ⟨_, rfl⟩
          rw [hv2] at Hpush ⊢
          obtain ⟨w5, hw5⟩ : ∃ w5, w4.setCell ⟨tb, q, none⟩ v2 = w5 := ⟨_, rfl⟩
          rw [hw5] at Hpush ⊢
          clear hv2 hw5 Hown3 Hgr Hat4 hszp hHH
          go_wp2_with fail
          go_roundw
          case rel => exact ⟨m + 1, _, _, by go_num, hm, Hpush, HTp, Sp.hid (fun i => by have := Hszp.out i; omega)⟩
          case measure => simp [intOf]; omega
        · have HT2 := Sp.hid (Nf.relT_out HT.out (by omega))
          have Hsz2 : Hid (∀ i, (T i).length ≤ 1000000 * (k + 1)) := Sp.hid (fun i => by have := Hsz.out i; omega)
          go_wp2_with fail
          go_roundw
          case rel => exact ⟨k + 1, _, _, by go_num, hkN, HI, HT2, Hsz2⟩
          case measure => simp [intOf]; omega
    · have hkk : k = N := by omega
      have HT2 : Hid (Nf.RelT R N T) := Sp.hid (by rw [← hkk]; exact HT.out)
      have Hsz2 : Hid (∀ i, (T i).length ≤ 4000000000) := Sp.hid (fun i => by have := Hsz.out i; omega)
      clear hkk
      go_wp2_with fail
      go_ret
      exact ⟨_, _, _, rfl, HI.out.rows, HT2.out, Hsz2.out, HI.out.below⟩
end Go.Proofs.YtpoblcmjfcpiaaaGreat

/-
  The walk of the reference's spread (along edges of all symbols).
-/
set_option linter.unusedVariables false
set_option linter.unusedSimpArgs false
namespace Go.Proofs.YtpoblcmjfcpiaaaGreat
open Go.RowKit
namespace Nf
noncomputable def askAll (_ : ByteArray) : Bool := true
def SpPost (w0 : World) (tb hb cp N : Nat) (V : Nat → Value) (R : Nat → List (ByteArray × Nat)) (S : Nat → Prop) (e : Ending) (w' : World) : Prop :=
  e = .returned (.tuple #[]) ∧ ∃ L : List Nat, (∀ q, q ∈ L ↔ ∃ p, p < N ∧ S p ∧ Star (Rel [tabOf askAll R]) p q) ∧ Vec Value.bool w' hb 4 cp N (fun i => decide (i ∈ L)) ∧ RowKit.Below w0.heap.size w0 w'
end Nf
set_option maxHeartbeats 2000000 in
set_option maxRecDepth 100000 in
theorem spread_any (w0 w : World) (tb hb cp N : Nat) (V : Nat → Value) (R : Nat → List (ByteArray × Nat)) (S : Nat → Prop) (hN : N ≤ 3000) (hw : Below w0.heap.size w0 w) (hb0 : w0.heap.size ≤ hb)
    (hR : Nf.RowsAt Nf.enE 102 100 2 w w0.heap.size tb N V R) (hv : Vec Value.bool w hb 4 cp N (fun i => Nf.bl (S i))) (hlen : ∀ i, (R i).length ≤ 4000000000) (hto : ∀ p x, x ∈ R p → x.2 < N) :
    Calls Tryz.prog 60 #[.slice (some ⟨tb, 0, none⟩) N N, .slice (some ⟨hb, 0, none⟩) N cp, .bool false] w (Nf.SpPost w0 tb hb cp N V R S) := by
  have hp : Nf.SpPost w0 tb hb cp N V R S = fun e w' => e = .returned (.tuple #[]) ∧ ∃ L : List Nat, (∀ q, q ∈ L ↔ ∃ p, p < N ∧ S p ∧ Nf.Star (Nf.Rel [Nf.tabOf Nf.askAll R]) p q) ∧ Vec Value.bool w' hb 4 cp N (fun i => decide (i ∈ L)) ∧ RowKit.Below w0.heap.size w0 w' := rfl
  rw [hp]
  have Hw := Sp.hid hw
  have HR := Sp.hid hR
  have HV := Sp.hid hv
  have Hlen := Sp.hid hlen
  have Hto := Sp.hid hto
  have hsz0 := hw.size
  clear hp hw hR hv hlen hto
  go_enter Tryz.func60, Tryz.ntmps60
  go_wp2_with fail
  go_loopw [6, 7] (fun t i wr => ∃ (k : Nat) (lo : Option Addr) (n c : Nat), t = .slice lo n c ∧ i = .int .i64 k ∧ k ≤ N ∧ Hid ((Nf.keep S (List.range k)).length = n) ∧ Hid (wr.ownsRow w.heap.size 3 1 (.slice lo n c) n ((Nf.keep S (List.range k)).map Nf.num)) ∧ Hid (Below w.heap.size w wr)) (fun _ i _ => N - (intOf i).toNat)
  case atStart => exact ⟨0, none, 0, 0, rfl, rfl, Nat.zero_le _, Sp.hid rfl, Sp.hid (World.ownsRow_nil _ _ _ _), Sp.hid (Below.refl _ _)⟩
  case round =>
    obtain ⟨k, lo, n, c, rfl, rfl, hk, Hn, Hown, Hb⟩ := hrel
    by_cases hkn : k < N
    · have cm : wr.cell? ⟨hb, k, none⟩ = some (.bool (Nf.bl (S k))) := by
        have h1 := HV.out.cell hkn
        rw [Hb.out.cell (World.block_lt_of_cell? w _ h1)]; exact h1
      have hz := Hb.out.size
      have i1 : (0 : Int) ≤ (k : Int) := by omega
      have i2 : (k : Int) < (N : Int) := by omega
      by_cases hS : S k
      · rw [Nf.bl_true hS] at cm
        have Hkeep : Hid (Nf.keep S (List.range (k + 1)) = Nf.keep S (List.range k) ++ [k]) := Sp.hid (by unfold Nf.keep; rw [List.range_succ, List.filter_append]; simp [Nf.bl_true hS])
        have Hown2 := Sp.hid (show (wr.alloc (.cells #[.int .i64 k] 3)).ownsRow w.heap.size 3 1 (.slice lo n c) (Nf.keep S (List.range k)).length ((Nf.keep S (List.range k)).map Nf.num) from by rw [Hn.out]; exact Hown.out.alloc _)
        have Hb2 := Sp.hid (Hb.out.alloc hz (.cells #[.int .i64 k] 3))
        have hzz : w.heap.size ≤ (wr.alloc (.cells #[.int .i64 k] 3)).heap.size := by simp; omega
        have hk9 : (Nf.keep S (List.range k)).length ≤ 1000000000000 := by
          have h1 : (Nf.keep S (List.range k)).length ≤ (List.range k).length := List.length_filter_le _ _
          rw [List.length_range] at h1
          omega
        have Hk9 := Sp.hid hk9
        clear hS hk9
        go_wp2_with (first
          | (at_builtin; refine Nf.push_num2 rfl _ _ rfl w.heap.size (.slice lo n c) (Nf.keep S (List.range k)) rfl Hown2.out k ⟨wr.heap.size, 0, none⟩ 1 rfl ?c1 ?c2 ?c3 ?_)
          | fail)
        case c1 => simp [go_sem]
        case c2 => exact Hk9.out
        case c3 => exact hzz
        intro v3 w3 hown3 hg3 _
        have hown3 : w3.ownsRow w.heap.size 3 1 v3 (Nf.keep S (List.range (k + 1))).length ((Nf.keep S (List.range (k + 1))).map Nf.num) := by rw [Hkeep.out, List.length_append, List.map_append]; exact hown3
        have hL3 : (Nf.keep S (List.range (k + 1))).length = n + 1 := by rw [Hkeep.out, List.length_append, Hn.out]; rfl
        obtain ⟨lo3, c3, rfl, _, _⟩ := Nf.seq_of_own hown3 (by rw [hL3, ← Hn.out]; unfold maxLen; have := Hk9.out; omega)
        rw [hL3] at hown3 ⊢
        have Hown3 := Sp.hid hown3
        have HL3 := Sp.hid hL3
        have Hb3 : Hid (Below w.heap.size w w3) := Sp.hid (Hb2.out.grown hg3 hzz (fun k hk => (Hown2.out.lt k hk).1))
        clear hown3 hg3 hL3
        go_wp2_with fail
        go_roundw
        case rel => exact ⟨k + 1, lo3, n + 1, c3, rfl, by go_num, hkn, HL3, Hown3, Hb3⟩
        case measure => simp [intOf]; omega
      · rw [Nf.bl_false hS] at cm
        have Hkeep : Hid (Nf.keep S (List.range (k + 1)) = Nf.keep S (List.range k)) := Sp.hid (by unfold Nf.keep; rw [List.range_succ, List.filter_append]; simp [Nf.bl_false hS])
        clear hS
        go_wp2_with fail
        go_roundw
        case rel => exact ⟨k + 1, lo, n, c, rfl, by go_num, hkn, Sp.hid (by rw [Hkeep.out]; exact Hn.out), Sp.hid (by rw [Hkeep.out]; exact Hown.out), Hb⟩
        case measure => simp [intOf]; omega
    · have hke : k = N := by omega
      have hz := Hb.out.size
      obtain ⟨L1, hL1⟩ : ∃ L1, Nf.keep S (List.range k) = L1 := ⟨_, rfl⟩
      have HL1 : Hid (∀ q, q ∈ L1 ↔ q < N ∧ S q) := Sp.hid (fun q => by rw [← hL1, Nf.mem_keep, List.mem_range, hke])
      have hpl : Nf.Pool N L1 := ⟨by rw [← hL1]; exact List.Pairwise.filter _ List.nodup_range, fun q hq => ((HL1.out q).1 hq).1⟩
      rw [hL1] at Hn Hown
      have HC : Hid (Nf.SpAt w0 wr tb hb cp N V R L1 (.slice lo n c)) := Sp.hid ⟨HR.out.below Hb.out, ⟨hpl, by omega, hb0, (HV.out.grown (row := none) ⟨Hb.out.os, Hb.out.tape, Hb.out.output, Hb.out.size, fun k hk _ => Hb.out.block k hk⟩ (by simp)).congr (fun i hi => by
        rw [Nf.bl_decide]
        exact Nf.bl_congr ⟨fun h => (HL1.out i).2 ⟨hi, h⟩, fun h => ((HL1.out i).1 h).2⟩), by rw [Hn.out]; exact Nf.own_base Hown.out hsz0⟩, Hw.out.trans (Hb.out.mono hsz0)⟩
      have HF := Sp.hid (Nf.Fol.start (tabs := [Nf.tabOf Nf.askAll R]) hpl)
      clear hke hpl hL1
      obtain ⟨wA, hwA⟩ : ∃ wA : World, wA = wr := ⟨_, rfl⟩
      go_wp2_with fail
      go_loopw [6, 8] (fun o i wr => ∃ (k : Nat) (lv : Value) (L2 : List Nat), i = .int .i64 k ∧ lv = o ∧ Hid (Nf.SpAt w0 wr tb hb cp N V R L2 lv) ∧ Hid (Nf.Fol [Nf.tabOf Nf.askAll R] N L1 k L2)) (fun _ i _ => N - (intOf i).toNat)
      case atStart => exact ⟨0, _, L1, rfl, rfl, HC, HF⟩
      case round =>
        obtain ⟨k2, lv2, L2, rfl, rfl, HC2, HF2⟩ := hrel
        have hpl2 := HC2.out.pool.pool.len
        clear HC HF
        obtain ⟨lo2, lcap2, rfl, hseq2, hlc2⟩ := Nf.seq_of_own HC2.out.pool.list (by unfold maxLen; omega)
        have Hseq2 := Sp.hid hseq2
        clear hseq2 hlc2
        by_cases hk2 : k2 < L2.length
        · obtain ⟨p, hp⟩ : ∃ p, L2[k2]? = some p := ⟨_, List.getElem?_eq_getElem hk2⟩
          have hpN := HC2.out.pool.pool.lt p (List.mem_of_getElem? hp)
          have HFI := Sp.hid (HF2.out.at_ hp)
          clear hp
          obtain ⟨wB, hwB⟩ : ∃ wB : World, wB = wr := ⟨_, rfl⟩
          go_wp2_with fail
          go_loopw [6, 9] (fun o i wr => ∃ (m : Nat) (lv : Value) (L3 : List Nat), i = .int .i64 m ∧ lv = o ∧ m ≤ (R p).length ∧ Hid (Nf.SpAt w0 wr tb hb cp N V R L3 lv) ∧ Hid (Nf.FolIn [Nf.tabOf Nf.askAll R] N L1 k2 p 0 m L3)) (fun _ i _ => (R p).length - (intOf i).toNat)
          case atStart => exact ⟨0, _, L2, rfl, rfl, Nat.zero_le _, HC2, HFI⟩
          case round =>
            obtain ⟨m, lv3, L3, rfl, rfl, hmle, HC3, HF3⟩ := hrel
            have hpl3 := HC3.out.pool.pool.len
            have hk3 : k2 < L3.length := (List.getElem?_eq_some_iff.1 HF3.out.at_).1
            obtain ⟨lo3, lcap3, rfl, hseq3, hlc3⟩ := Nf.seq_of_own HC3.out.pool.list (by unfold maxLen; omega)
            obtain ⟨lb, loff, p', rfl, cI, hp', _⟩ := hseq3.at hk3
            have hpp : p' = p := by have h := HF3.out.at_; rw [hp'] at h; exact Option.some.inj h
            subst hpp
            obtain ⟨ro, rcap, cE, hrc⟩ := HC3.out.rows.at_ Nf.enE_len hpN
            have hrl := Hlen.out p'
            have i1 : (0 : Int) ≤ (k2 : Int) := by omega
            have i2 : (k2 : Int) < (L3.length : Int) := by omega
            have i3 : (0 : Int) ≤ (p' : Int) := by omega
            have i4 : (p' : Int) < (N : Int) := by omega
            unfold Nf.num at cI
            have Hrc := Sp.hid hrc
            clear hrc hp' hseq3 hlc3
            by_cases hm : m < (R p').length
            · obtain ⟨b2, off2, x, rfl, hx, hxc, _⟩ := Hrc.out.at hm
              obtain ⟨s, q⟩ := x
              have hqN : q < N := Hto.out p' (s, q) (List.mem_of_getElem? hx)
              have cX0 : wr.cell? ⟨b2, off2 + m * 2, none⟩ = some (.string s) := hxc 0 _ rfl
              have cX1 : wr.cell? ⟨b2, off2 + m * 2 + 1, none⟩ = some (.int .i64 q) := hxc 1 _ rfl
              have i5 : (0 : Int) ≤ (m : Int) := by omega
              have i6 : (m : Int) < ((R p').length : Int) := by omega
              have i7 : (0 : Int) ≤ (q : Int) := by omega
              have i8 : (q : Int) < (N : Int) := by omega
              have Hget := Sp.hid (show (Nf.tabOf Nf.askAll R p')[m]? = some q from by rw [Nf.tabOf_get hx]; rfl)
              have hhb := HC3.out.pool.has.lt
              have heh : wr.heap.size ≠ hb := by omega
              have heh2 : hb ≠ wr.heap.size := by omega
              have HC4 := Sp.hid (HC3.out.alloc (.cells #[.string s, .int .i64 q] 102))
              have d1 := HC4.out.pool.has.cell hqN
              have f1 := HC4.out.pool.has.free q
              have hz3 := HC3.out.below.size
              have HF4 := Sp.hid (HF3.out.add (R := Nf.tabOf Nf.askAll R) rfl Hget.out hqN)
              clear hx hxc
              by_cases hqm : q ∈ L3
              · rw [decide_eq_true hqm] at d1
                have Hqm := Sp.hid hqm
                clear hqm
                go_wp2_with fail
                go_roundw
                case rel => exact ⟨m + 1, _, L3, by go_num, rfl, hm, HC4, Sp.hid (by have h := HF4.out; rwa [Nf.ins_old Hqm.out] at h)⟩
                case measure => simp [intOf]; omega
              · rw [decide_eq_false hqm] at d1
                have Hqm := Sp.hid hqm
                have Hown := Sp.hid ((HC3.out.own q (.cells #[.string s, .int .i64 q] 102)).alloc (.cells #[.int .i64 q] 3))
                have hwB : w0.heap.size ≤ (((wr.setCell ⟨hb, q, none⟩ (.bool true)).alloc (.cells #[.string s, .int .i64 q] 102)).alloc (.cells #[.int .i64 q] 3)).heap.size := by simp [World.setCell]; omega
                have hl9 : L3.length ≤ 1000000000000 := by omega
                clear hqm
                go_wp2_with (first
                  | (at_builtin; refine Nf.push_num2 rfl _ _ rfl w0.heap.size _ L3 rfl Hown.out q _ 1 rfl ?c1 ?c2 ?c3 ?_)
                  | fail)
                case c1 => simp [go_sem]
                case c2 => exact hl9
                case c3 => exact hwB
                intro v2 w2 hown2 hgrow2 _
                have HC5 := Sp.hid (HC3.out.push Hqm.out hqN (o := .cells #[.string s, .int .i64 q] 102) (grownBy_trans (World.grownBy_alloc _ (.cells #[.int .i64 q] 3) _) hgrow2) (by simpa using hown2))
                clear hown2 hgrow2
                go_wp2_with fail
                go_roundw
                case rel => exact ⟨m + 1, v2, L3 ++ [q], by go_num, rfl, hm, HC5, Sp.hid (by have h := HF4.out; rwa [Nf.ins_new Hqm.out] at h)⟩
                case measure => simp [intOf]; omega
            · go_wp2_with fail
              go_roundw
              case rel => exact ⟨k2 + 1, _, L3, by go_num, rfl, HC3, Sp.hid ((HF3.out.next (R := Nf.tabOf Nf.askAll R) rfl (by rw [Nf.tabOf_len]; omega)).round (by simp))⟩
              case measure => simp [intOf]; omega
        · have Hmem := Sp.hid (HF2.out.mem (by omega))
          go_wp2_with fail
          go_end0
          exact ⟨rfl, L2, fun q => by rw [Hmem.out q]; exact ⟨fun ⟨p, h1, h2⟩ => ⟨p, ((HL1.out p).1 h1).1, ((HL1.out p).1 h1).2, h2⟩, fun ⟨p, h1, h2, h3⟩ => ⟨p, (HL1.out p).2 ⟨h1, h2⟩, h3⟩⟩, HC2.out.pool.has, HC2.out.below⟩
end Go.Proofs.YtpoblcmjfcpiaaaGreat

/-
  The walk of the reference's Alive: the states from which an end is reached.
-/
set_option linter.unusedVariables false
set_option linter.unusedSimpArgs false
namespace Go.Proofs.YtpoblcmjfcpiaaaGreat
open Go.RowKit
namespace Nf
/-- append(nil, marks...): new marks, perhaps with room behind. -/
theorem app_bools {w : World} {ops : Array Oper} {rest : List Oper} {o : Oper} {a : Act} {Q : Exit → Act → World → Prop} (hgd : o.guard = none) (s x : Operand)
    (ho : o.op = .call { callee := .builtin .append, args := #[s, x], argTypes := #[59, 59] }) (hs : a.eval s = .slice none 0 0) (db N : Nat) (hx : a.eval x = .slice (some ⟨db, 0, none⟩) N N) (S : Nat → Prop) (hB : BoolsAt w db N S) (hN : N ≤ 3000) (hN0 : 0 < N)
    (h : ∀ hb cp w', Vec Value.bool w' hb 4 cp N (fun i => bl (S i)) → w.heap.size ≤ hb → Below w.heap.size w w' → wpList Tryz.prog ops Q rest (a.put o.dst (.slice (some ⟨hb, 0, none⟩) N cp)) w') : wpList Tryz.prog ops Q (o :: rest) a w := by
  obtain ⟨i0, hi, hz0, hz1, hz2⟩ := info_parts boolInfo
  obtain ⟨F, hF⟩ : ∃ F : List Bool, F = (List.range N).map (fun i => bl (S i)) := ⟨_, rfl⟩
  have hFl : F.length = N := by rw [hF]; simp
  have hnews : ∀ j u, (F.map Value.bool)[j]? = some u → w.cell? ((⟨db, 0, none⟩ : Addr).add j) = some u := by
    intro j u hj
    have hjl : j < N := by have := (List.getElem?_eq_some_iff.1 hj).1; simpa [hFl] using this
    rw [plain_add, Nat.zero_add, hB j hjl]
    rw [hF, List.map_map, List.getElem?_map, List.getElem?_range hjl] at hj
    simpa using hj
  refine wpList_append_own_at w hgd s x 59 ho w.heap.size 4 i0 (.bool false) 1 1 Tryz.underlying59 hi hz0 hz1 hz2 rfl (by decide) (.slice none 0 0) 0 [] hs (World.ownsRow_nil _ _ _ _) ⟨db, 0, none⟩ N N (F.map Value.bool) hx (by simp [hFl]) hnews (fun u hu => by obtain ⟨b, _, rfl⟩ := List.mem_map.1 hu; rfl) (by unfold maxLen; omega) (by omega) (Nat.le_refl _) ?_
  intro v' w' hown hg _ _
  rw [Nat.zero_add, List.nil_append, ← hFl] at hown
  have hb : Below w.heap.size w w' := ⟨hg.os, hg.tape, hg.output, hg.size, fun k hk => hg.block k hk (by simp [Value.ownBlock])⟩
  rcases hown.2 with ⟨rfl, h0⟩ | ⟨g, cap, cur, rfl, _⟩
  · omega
  · obtain ⟨hv, hge⟩ := Vec.of_own hown
    rw [hFl] at hv ⊢
    exact h g cap w' (hv.congr fun i hi => by rw [hF]; simp [hi]) hge hb
def AlPost (g : Gr) (w : World) (e : Ending) (w' : World) : Prop :=
  ∃ hb cp, e = .returned (.slice (some ⟨hb, 0, none⟩) g.N cp) ∧ Vec Value.bool w' hb 4 cp g.N (fun i => bl (Live g i)) ∧ Below w.heap.size w w'
end Nf
set_option maxHeartbeats 2000000 in
set_option maxRecDepth 100000 in
theorem alive_any (w : World) (eb db : Nat) (R : Nat → List (ByteArray × Nat)) (g : Nf.Gr) (hG : Nf.RfAt w eb db R g) :
    Calls Tryz.prog 34 #[Nf.rfVal eb db g.N] w (Nf.AlPost g w) := by
  have hp : Nf.AlPost g w = fun e w' => ∃ hb cp, e = .returned (.slice (some ⟨hb, 0, none⟩) g.N cp) ∧ Vec Value.bool w' hb 4 cp g.N (fun i => Nf.bl (Nf.Live g i)) ∧ Below w.heap.size w w' := rfl
  rw [hp]
  have hN := hG.small
  have hN0 := hG.ok.pos
  have HG := Sp.hid hG
  have HRd : Hid (∀ w2 : World, Below w.heap.size w w2 → Calls Tryz.prog 61 #[Nf.rfVal eb db g.N] w2 (Nf.RdPost g.N R w2)) := Sp.hid (fun w2 hb => reversed_any w2 eb db R g (hG.below hb))
  have Hfin : Hid (∀ (T : Nat → List (ByteArray × Nat)) (q : Nat), q < g.N → Nf.RelT R g.N T → ((∃ p, p < g.N ∧ p ∈ g.ends ∧ Nf.Star (Nf.Rel [Nf.tabOf Nf.askAll T]) p q) ↔ Nf.Live g q)) := Sp.hid (fun T q hq hT => by
    have key : ∀ p q, Nf.Star (Nf.Rel [Nf.tabOf Nf.askAll T]) p q ↔ Nf.Star (fun p q => ∃ x, x ∈ T p ∧ x.2 = q) p q := fun p q => Nf.star_tabOf (fun a b => ⟨fun ⟨x, h1, h2⟩ => ⟨x, h1, rfl, h2⟩, fun ⟨x, h1, _, h2⟩ => ⟨x, h1, h2⟩⟩)
    have e1 : ∀ a b, (∃ x, x ∈ T a ∧ x.2 = b) → Nf.Any g b a := by
      rintro a b ⟨⟨s, b'⟩, h1, rfl⟩
      obtain ⟨h2, h3⟩ := (hT a s b').1 h1
      exact ⟨s, (hG.ed_iff _ _ _).1 h3⟩
    have e2 : ∀ a b, Nf.Any g a b → ∃ x, x ∈ T b ∧ x.2 = a := by
      rintro a b ⟨s, h1⟩
      exact ⟨(s, a), (hT b s a).2 ⟨hG.ok.from_ _ h1, (hG.ed_iff _ _ _).2 h1⟩, rfl⟩
    constructor
    · rintro ⟨p, h1, h2, h3⟩
      exact ⟨p, h2, Nf.Star.rev e1 ((key p q).1 h3)⟩
    · rintro ⟨p, h1, h2⟩
      exact ⟨p, hG.ok.end_ p h1, h1, (key p q).2 (Nf.Star.rev e2 h2)⟩)
  have Hlt : Hid (∀ (T : Nat → List (ByteArray × Nat)) (p : Nat) (x : ByteArray × Nat), Nf.RelT R g.N T → x ∈ T p → x.2 < g.N) := Sp.hid (fun T p x hT hx => ((hT p x.1 x.2).1 hx).1)
  have HE := Sp.hid hG.ends.2
  clear hp hG
  obtain ⟨N, hNe⟩ : ∃ N, g.N = N := ⟨_, rfl⟩
  rw [hNe] at hN hN0 HRd Hfin Hlt HE ⊢
  unfold Nf.rfVal at *
  obtain ⟨w1, hw1⟩ : ∃ w1, w.alloc (.cells #[.int .i64 0, .slice (some ⟨eb, 0, none⟩) N N, .slice (some ⟨db, 0, none⟩) N N] 71) = w1 := ⟨_, rfl⟩
  have hgb : w1.heap[w.heap.size]? = some (.cells #[.int .i64 0, .slice (some ⟨eb, 0, none⟩) N N, .slice (some ⟨db, 0, none⟩) N N] 71 (0, 0)) := by rw [← hw1]; exact Nf.Below.heap_new _ _
  have hbw : Below w.heap.size w w1 := by rw [← hw1]; exact (Below.refl _ w).alloc (Nat.le_refl _) _
  have c2 : w1.cell? ⟨w.heap.size, 2, none⟩ = some (.slice (some ⟨db, 0, none⟩) N N) := Nf.blk_cell (i := 2) hgb rfl
  have Hgb := Sp.hid hgb
  have Hbw := Sp.hid hbw
  have HE1 : Hid (Nf.BoolsAt (w.alloc (.cells #[.int .i64 0, .slice (some ⟨eb, 0, none⟩) N N, .slice (some ⟨db, 0, none⟩) N N] 71)) db N (· ∈ g.ends)) := Sp.hid (by rw [hw1]; exact HE.out.below hbw)
  have Hw1 := Sp.hid hw1
  clear hgb hbw hw1 hNe
  go_enter Tryz.func34, Tryz.ntmps34
  clear c2
  go_wp2_with (first
    | (at_builtin; refine Nf.app_bools rfl _ _ rfl rfl db N rfl _ HE1.out hN hN0 ?_)
    | fail)
  intro hb cp w2 hv2 hge2 hb2
  have hge2 : w1.heap.size ≤ hb := by rw [← Hw1.out]; simpa using hge2
  have hb2 : Below w1.heap.size w1 w2 := by rw [← Hw1.out]; first | exact hb2 | simpa using hb2
  have hblk2 := Nf.blk_below Hgb.out hb2 (Nf.blk_lt Hgb.out)
  have d0 : w2.cell? ⟨w.heap.size, 0, none⟩ = some (.int .i64 0) := Nf.blk_cell (i := 0) hblk2 rfl
  have d1 : w2.cell? ⟨w.heap.size, 1, none⟩ = some (.slice (some ⟨eb, 0, none⟩) N N) := Nf.blk_cell (i := 1) hblk2 rfl
  have d2 : w2.cell? ⟨w.heap.size, 2, none⟩ = some (.slice (some ⟨db, 0, none⟩) N N) := Nf.blk_cell (i := 2) hblk2 rfl
  have Hb2 := Sp.hid (Hbw.out.trans (hb2.mono Hbw.out.size))
  have Hv2 := Sp.hid hv2
  have Hge : Hid (w.heap.size ≤ hb) := Sp.hid (Nat.le_trans Hbw.out.size hge2)
  have HR2 := Sp.hid (HRd.out w2 Hb2.out)
  clear hv2 hge2 hb2 hblk2
  go_wp2_with fail
  refine HR2.out.mono ?_
  rintro e w3 ⟨tb, V, T, rfl, hrows, hT, hlen, hb3⟩
  have hbw3 := Hb2.out.trans (hb3.mono Hb2.out.size)
  have hv3 : Vec Value.bool w3 hb 4 cp N (fun i => Nf.bl (i ∈ g.ends)) := Hv2.out.grown (row := none) ⟨hb3.os, hb3.tape, hb3.output, hb3.size, fun k hk _ => hb3.block k hk⟩ (by simp)
  have HSp := Sp.hid (spread_any w w3 tb hb cp N V T (· ∈ g.ends) hN hbw3 Hge.out (hrows.base Hb2.out.size) hv3 hlen (fun p x hx => Hlt.out T p x hT hx))
  have HT := Sp.hid hT
  clear hrows hT hlen hb3 hbw3 hv3 d0 d1 d2
  go_wp2_with fail
  refine HSp.out.mono ?_
  rintro e w4 ⟨rfl, L, hL, hv4, hb4⟩
  have Hv4 : Hid (Vec Value.bool w4 hb 4 cp N (fun i => Nf.bl (Nf.Live g i))) := Sp.hid (hv4.congr fun i hi => by
    rw [Nf.bl_decide]
    exact Nf.bl_congr ((hL i).trans (Hfin.out T i hi HT.out)))
  have Hb4 := Sp.hid hb4
  clear hL hv4 hb4
  go_wp2_with fail
  go_ret
  exact ⟨hb, cp, rfl, Hv4.out, Hb4.out⟩
end Go.Proofs.YtpoblcmjfcpiaaaGreat
