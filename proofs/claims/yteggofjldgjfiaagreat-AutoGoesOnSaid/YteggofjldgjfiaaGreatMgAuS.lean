/-
  The walks of stepper and of what it hands back: the marks.
-/
import Derived.Test.YteggofjldgjfiaaGreatMgAuSp
import Derived.Test.YteggofjldgjfiaaGreatMgAuI
set_option linter.unusedVariables false
set_option linter.unusedSimpArgs false
namespace Go.Proofs.YteggofjldgjfiaaGreat
open Go.RowKit

set_option maxHeartbeats 1000000 in
set_option maxRecDepth 100000 in
theorem addS_no (w0 w : World) (bs sb bn nb bm mb : Nat) (sr : Nat → Nat) (k N : Nat) (F : Nat → Nat → Bool) (V : Nat → Value) (L : Nat → List Nat) (S : Nat → Prop) (x q : Nat) (h : Nf.StepSt w0 w bs sb bn nb bm mb sr k N F V L) (hM : Nf.BoolsAt w mb N S) (hx : x < k) (hq : q < N) (hk : k ≤ 40) (hN : N ≤ 3000) (hno : ¬ S q ∨ F x q = true) :
    Calls Tryz.prog 112 #[.int .i64 x, .int .i64 q, .pointer (some ⟨bm, 0, none⟩), .pointer (some ⟨bs, 0, none⟩), .pointer (some ⟨bn, 0, none⟩)] w fun e w' => e = .returned (.tuple #[]) ∧ w = w' := by
  have c0 : w.cell? ⟨bm, 0, none⟩ = some (.slice (some ⟨mb, 0, none⟩) N N) := Nf.blk_cell (i := 0) h.mvar rfl
  have c1 := hM q hq
  have c2 : w.cell? ⟨bs, 0, none⟩ = some (.slice (some ⟨sb, 0, none⟩) k k) := Nf.blk_cell (i := 0) h.seen.var rfl
  have c3 := h.seen.tab.cell hx
  simp only [id] at c3
  have c4 := (h.seen.row x hx).cell hq
  clear h hM
  by_cases hs : S q
  · rw [Nf.bl_true hs] at c1
    have hf := hno.resolve_left (fun h => h hs)
    rw [hf] at c4
    clear hno hs hf
    go_enter Tryz.func112, Tryz.ntmps112
    go_wp2_with fail
    go_end0
    exact ⟨rfl, rfl⟩
  · rw [Nf.bl_false hs] at c1
    clear hno hs c2 c3 c4
    go_enter Tryz.func112, Tryz.ntmps112
    go_wp2_with fail
    go_end0
    exact ⟨rfl, rfl⟩

/-- A state marked, and put into the next set of a symbol. -/
def Nf.AddPost (w0 : World) (bs sb bn nb bm mb : Nat) (sr : Nat → Nat) (k N : Nat) (F : Nat → Nat → Bool) (L : Nat → List Nat) (x q : Nat) (e : Ending) (w' : World) : Prop :=
  e = .returned (.tuple #[]) ∧ ∃ V, Nf.StepSt w0 w' bs sb bn nb bm mb sr k N (fun y r => if y = x ∧ r = q then true else F y r) V (fun y => if y = x then L x ++ [q] else L y)

set_option maxHeartbeats 2000000 in
set_option maxRecDepth 100000 in
theorem addS_yes (w0 w : World) (bs sb bn nb bm mb : Nat) (sr : Nat → Nat) (k N : Nat) (F : Nat → Nat → Bool) (V : Nat → Value) (L : Nat → List Nat) (S : Nat → Prop) (x q : Nat) (h : Nf.StepSt w0 w bs sb bn nb bm mb sr k N F V L) (hM : Nf.BoolsAt w mb N S) (hx : x < k) (hq : q < N) (hk : k ≤ 40) (hN : N ≤ 3000) (hs : S q) (hf : F x q = false) (hl : (L x).length ≤ N) :
    Calls Tryz.prog 112 #[.int .i64 x, .int .i64 q, .pointer (some ⟨bm, 0, none⟩), .pointer (some ⟨bs, 0, none⟩), .pointer (some ⟨bn, 0, none⟩)] w (Nf.AddPost w0 bs sb bn nb bm mb sr k N F L x q) := by
  obtain ⟨i0, hi, hiz0, hiz1, hiz2⟩ := info_parts Nf.intInfo
  have c0 : w.cell? ⟨bm, 0, none⟩ = some (.slice (some ⟨mb, 0, none⟩) N N) := Nf.blk_cell (i := 0) h.mvar rfl
  have c1 := hM q hq
  rw [Nf.bl_true hs] at c1
  have c2 : w.cell? ⟨bs, 0, none⟩ = some (.slice (some ⟨sb, 0, none⟩) k k) := Nf.blk_cell (i := 0) h.seen.var rfl
  have c3 := h.seen.tab.cell hx
  simp only [id] at c3
  have c4 := (h.seen.row x hx).cell hq
  rw [hf] at c4
  have f4 := (h.seen.row x hx).free q
  have hst := Sp.hid (h.mark (x := x) (q := q) hx true)
  have Hh := Sp.hid h
  have hx0 : (0 : Int) ≤ (x : Int) := by omega
  have hxk : (x : Int) < (k : Int) := by omega
  clear hs hf hM h
  go_enter Tryz.func112, Tryz.ntmps112
  go_wp2_with fail
  obtain ⟨w1, hw1⟩ : ∃ w1, w.setCell ⟨sr x, q, none⟩ (.bool true) = w1 := ⟨_, rfl⟩
  rw [hw1] at hst ⊢
  have k1 : w1.cell? ⟨bn, 0, none⟩ = some (.slice (some ⟨nb, 0, none⟩) k k) := Nf.blk_cell (i := 0) hst.out.nvar rfl
  have k2 : w1.cell? ⟨nb, x, none⟩ = some (V x) := hst.out.next.tab.cell hx
  have hrow := hst.out.next.row hx
  have o1 : (V x).ownBlock ≠ some bn := Nf.own_ne hrow hst.out.nvar (by decide)
  have o2 : (V x).ownBlock ≠ some nb := Nf.own_vec_ne hrow hst.out.next.tab (by decide)
  have l1 := Nf.blk_lt hst.out.nvar
  have l2 := hst.out.next.tab.lt
  have f2 := hst.out.next.tab.free x
  have hHH := hst.out.size
  have hrow2 : ((w1.alloc (.cells #[.int .i64 q] 3)).drew).ownsRow w0.heap.size 3 1 (V x) (L x).length ((L x).map Nf.num) := hrow.alloc _
  have Hrow2 := Sp.hid hrow2
  have Hw1 := Sp.hid hw1
  clear hrow2 hrow hw1 c0 c1 c2 c3 c4 f4
  refine Open.begin (S := fun w' => w'.cell? ⟨bn, 0, none⟩ = some (.slice (some ⟨nb, 0, none⟩) k k) ∧ w'.cell? ⟨nb, x, none⟩ = some (V x)) (z := 10) (by kernel_rfl) ?_
  have HS : w1.drew.cell? ⟨bn, 0, none⟩ = some (.slice (some ⟨nb, 0, none⟩) k k) ∧ w1.drew.cell? ⟨nb, x, none⟩ = some (V x) := ⟨k1, k2⟩
  refine Open.take (i := 0) (v := ?_) rfl (by kernel_rfl) (by kernel_rfl) (by kernel_rfl) (by kernel_rfl) (fun _ _ _ h => h) HS (Or.inl ⟨rfl, ?_⟩) ?_
  rotate_left
  · rintro w' ⟨k1, k2⟩
    go_simp
    try rfl
  simp only [Act.put, List.setIfInBounds_toArray, List.set_cons_zero, List.set_cons_succ]
  refine Open.take (i := 1) (v := ?_) rfl (by kernel_rfl) (by kernel_rfl) (by kernel_rfl) (by kernel_rfl) (fun _ _ _ h => h) HS (Or.inl ⟨rfl, ?_⟩) ?_
  rotate_left
  · rintro w' ⟨k1, k2⟩
    go_simp
    try rfl
  simp only [Act.put, List.setIfInBounds_toArray, List.set_cons_zero, List.set_cons_succ]
  refine Open.take (i := 2) (v := ?_) rfl (by kernel_rfl) (by kernel_rfl) (by kernel_rfl) (by kernel_rfl) (fun _ _ _ h => h) HS (Or.inl ⟨rfl, ?_⟩) ?_
  rotate_left
  · rintro w' ⟨k1, k2⟩
    go_simp
    try rfl
  simp only [Act.put, List.setIfInBounds_toArray, List.set_cons_zero, List.set_cons_succ]
  refine Open.take (i := 3) (v := ?_) rfl (by kernel_rfl) (by kernel_rfl) (by kernel_rfl) (by kernel_rfl) (fun _ _ _ h => h) HS (Or.inl ⟨rfl, ?_⟩) ?_
  rotate_left
  · rintro w' ⟨k1, k2⟩
    go_simp
    try rfl
  simp only [Act.put, List.setIfInBounds_toArray, List.set_cons_zero, List.set_cons_succ]
  refine Open.take (i := 4) (v := ?_) rfl (by kernel_rfl) (by kernel_rfl) (by kernel_rfl) (by kernel_rfl) (fun _ _ _ h => h) HS (Or.inl ⟨rfl, ?_⟩) ?_
  rotate_left
  · rintro w' ⟨k1, k2⟩
    go_simp
    try rfl
  simp only [Act.put, List.setIfInBounds_toArray, List.set_cons_zero, List.set_cons_succ]
  refine Open.take (i := 5) (v := ?_) rfl (by kernel_rfl) (by kernel_rfl) (by kernel_rfl) (by kernel_rfl) (fun _ _ _ h => h) HS (Or.inl ⟨rfl, ?_⟩) ?_
  rotate_left
  · rintro w' ⟨k1, k2⟩
    go_simp
    try rfl
  simp only [Act.put, List.setIfInBounds_toArray, List.set_cons_zero, List.set_cons_succ]
  refine Open.take (i := 6) (v := ?_) rfl (by kernel_rfl) (by kernel_rfl) (by kernel_rfl) (by kernel_rfl) (fun _ _ _ h => h) HS (Or.inl ⟨rfl, ?_⟩) ?_
  rotate_left
  · rintro w' ⟨k1, k2⟩
    go_simp
    try rfl
  simp only [Act.put, List.setIfInBounds_toArray, List.set_cons_zero, List.set_cons_succ]
  refine Open.one (i := 7) rfl (by kernel_rfl) rfl (fun K hK => ?_)
  go_simp
  refine hK _ _ ⟨fun _ => ⟨?_, ?_⟩, ?_⟩
  · simpa [World.cell?_alloc_past _ _ _ l1] using k1
  · simpa [World.cell?_alloc_past _ _ _ l2] using k2
  clear hK K
  refine Open.one (i := 8) rfl (by kernel_rfl) rfl (fun K hK => ?_)
  refine wp_append_lies _ _ _ 73 (by rfl) w0.heap.size 3 i0 _ 1 8 Tryz.underlying73 hi hiz0 hiz1 hiz2 rfl (by decide) (V x) _ _ (by rfl) Hrow2.out ⟨w1.heap.size, 0, none⟩ 1 1 [.int .i64 q] (by rfl) rfl (World.news_of_block (cs := #[.int .i64 q]) (t := 3) (fr := (0, 0)) (heap_alloc_new w1 _)) (by simp [Value.oneCell']) (by omega) ?_ ?_ ?_ (w1.heap.size + 1) (by simp) ?_
  · unfold maxLen; omega
  · omega
  · simp; omega
  intro g cap w3 hown3 hgrow3 hat3 hlt3
  have hl1 : bn < ((w1.alloc (.cells #[.int .i64 q] 3)).drew).heap.size := by simp; omega
  have hl2 : nb < ((w1.alloc (.cells #[.int .i64 q] 3)).drew).heap.size := by simp; omega
  have m1 : w3.cell? ⟨bn, 0, none⟩ = some (.slice (some ⟨nb, 0, none⟩) k k) := by rw [hgrow3.cell_far ⟨bn, 0, none⟩ hl1 (Ne.symm o1)]; simpa [World.cell?_alloc_past _ _ _ l1] using k1
  have m2 : w3.cell? ⟨nb, x, none⟩ = some (V x) := by rw [hgrow3.cell_far ⟨nb, x, none⟩ hl2 (Ne.symm o2)]; simpa [World.cell?_alloc_past _ _ _ l2] using k2
  have m3 : w3.frozen? ⟨nb, x, none⟩ = false := by rw [hgrow3.frozen_far ⟨nb, x, none⟩ hl2 (Ne.symm o2)]; simpa [World.frozen?_alloc_past _ _ _ l2] using f2
  have hgr : w1.grownBy w3 (V x).ownBlock := World.grownBy.trans (World.grownBy_alloc w1 (.cells #[.int .i64 q] 3) _) ⟨hgrow3.os, hgrow3.tape, hgrow3.output, hgrow3.size, hgrow3.block⟩
  have hat4 : (V x).ownBlock = (Value.slice (some ⟨g, 0, none⟩) ((L x).length + 1) cap).ownBlock ∨ ∃ g', (Value.slice (some ⟨g, 0, none⟩) ((L x).length + 1) cap).ownBlock = some g' ∧ w1.heap.size ≤ g' := by
    rcases hat3 with h3 | h3
    · exact .inl h3
    · exact .inr ⟨g, rfl, by omega⟩
  have Hpush := Sp.hid (hst.out.push (x := x) (q := q) hx hgr hown3 hat4)
  refine hK _ _ ⟨fun _ => ⟨m1, m2⟩, ?_⟩
  clear hK K HS hown3 hgrow3 hat3 hlt3 hl1 hl2 k1 k2 f2 hgr hat4 Hrow2
  have HS : w3.cell? ⟨bn, 0, none⟩ = some (.slice (some ⟨nb, 0, none⟩) k k) ∧ w3.cell? ⟨nb, x, none⟩ = some (V x) := ⟨m1, m2⟩
  refine Open.take (i := 9) (v := ?_) rfl (by kernel_rfl) (by kernel_rfl) (by kernel_rfl) (by kernel_rfl) (fun _ _ _ h => h) HS (Or.inl ⟨rfl, ?_⟩) ?_
  rotate_left
  · rintro w' ⟨k1, k2⟩
    go_simp
    try rfl
  simp only [Act.put, List.setIfInBounds_toArray, List.set_cons_zero, List.set_cons_succ]
  refine Open.one (i := 10) rfl (by kernel_rfl) rfl (fun K hK => ?_)
  go_simp
  refine hK _ _ ⟨fun e => absurd rfl e, ?_⟩
  clear hK K HS m1 m2 m3 o1 o2 l1 l2
  refine Open.end (by kernel_rfl) ?_
  go_wp2_with fail
  go_end0
  exact ⟨rfl, _, Hpush.out⟩

end Go.Proofs.YteggofjldgjfiaaGreat
