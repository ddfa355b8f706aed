/-
  The walk of AutoValidates.
-/
import Derived.Test.YtnkpgcmjnbgodaaMgAuRv
set_option linter.unusedVariables false
set_option linter.unusedSimpArgs false
namespace Go.Proofs.Ytnkpgcmjnbgodaa
open Go.RowKit

/-- Block B holds the net's four parts. -/
def Nf.NetB (B : Nat) (n : Nf.Net) (w2 : World) : Prop := w2.cell? ⟨B, 0, none⟩ = some (.slice n.so n.sn n.scap) ∧ w2.cell? ⟨B, 1, none⟩ = some (.int .i64 n.st) ∧ w2.cell? ⟨B, 2, none⟩ = some (.slice n.ao n.an n.acap) ∧ w2.cell? ⟨B, 3, none⟩ = some (.slice n.eo n.en n.ecap)

set_option maxHeartbeats 2000000 in
set_option maxRecDepth 100000 in
theorem autoValidates_any (w : World) (n : Nf.Net) (h : Nf.NetAt w n) (b1 : n.sn * 16 ≤ 140737488351232) (b2 : n.an * 56 ≤ 140737488351232) (b3 : n.en * 16 ≤ 140737488351232) :
    Calls Try.prog 3 #[n.val] w fun e w' => e = .returned (.bool true) ∧ Below w.heap.size w w' := by
  have hb0 : Below w.heap.size w (w.alloc (.cells n.cells 26)) := (Below.refl _ w).alloc (Nat.le_refl _) _
  have HO := Sp.hid (isOver_any _ n (h.below hb0))
  have hblk : (w.alloc (.cells n.cells 26)).heap[w.heap.size]? = some (.cells n.cells 26 (0, 0)) := Nf.Below.heap_new w _
  have Hblk := Sp.hid hblk
  have Hb0 := Sp.hid hb0
  have HN := Sp.hid h
  obtain ⟨r, hr⟩ : ∃ r, Nf.errNet n = r := ⟨_, rfl⟩
  obtain ⟨B, hB⟩ : ∃ B, w.heap.size = B := ⟨_, rfl⟩
  have keep : ∀ w2 w3 : World, Nf.NetB B n w2 → Below w2.heap.size w2 w3 → Nf.NetB B n w3 := fun w2 w3 ⟨c0, c1, c2, c3⟩ hb => by
    have l := World.block_lt_of_cell? w2 _ c0
    exact ⟨by rw [hb.cell (p := ⟨B, 0, none⟩) l]; exact c0, by rw [hb.cell (p := ⟨B, 1, none⟩) l]; exact c1, by rw [hb.cell (p := ⟨B, 2, none⟩) l]; exact c2, by rw [hb.cell (p := ⟨B, 3, none⟩) l]; exact c3⟩
  have HV : RowKit.Hid (∀ w2 : World, RowKit.Hid (Below w.heap.size w w2) → RowKit.Hid (Nf.NetB B n w2) → Calls Try.prog 10 #[.agg #[.slice n.so n.sn n.scap, .int .i64 n.st, .slice n.ao n.an n.acap, .slice n.eo n.en n.ecap]] w2 (fun e w3 => e = .returned (.int .i64 r) ∧ RowKit.Hid (Below w.heap.size w w3) ∧ RowKit.Hid (Nf.NetB B n w3))) := Sp.hid (fun w2 hb hk => by
    refine (netValidate_any w2 n (h.below hb.out)).mono ?_
    rintro e w3 ⟨rfl, hb3⟩
    exact ⟨by rw [hr], Sp.hid (hb.out.trans (hb3.mono hb.out.size)), Sp.hid (keep _ _ hk.out hb3)⟩)
  have HW : RowKit.Hid (∀ w2 : World, RowKit.Hid (Below w.heap.size w w2) → RowKit.Hid (Nf.NetB B n w2) → Calls Try.prog 11 #[.agg #[.slice n.so n.sn n.scap, .int .i64 n.st, .slice n.ao n.an n.acap, .slice n.eo n.en n.ecap]] w2 (fun e w3 => e = .returned (.int .i64 r) ∧ RowKit.Hid (Below w.heap.size w w3) ∧ RowKit.Hid (Nf.NetB B n w3))) := Sp.hid (fun w2 hb hk => by
    refine (refValidN_any w2 n (h.below hb.out)).mono ?_
    rintro e w3 ⟨rfl, hb3⟩
    exact ⟨by rw [hr], Sp.hid (hb.out.trans (hb3.mono hb.out.size)), Sp.hid (keep _ _ hk.out hb3)⟩)
  have HC : RowKit.Hid (∀ w2 : World, RowKit.Hid (Below w.heap.size w w2) → RowKit.Hid (Nf.NetB B n w2) → Calls Try.prog 13 #[.agg #[.slice n.so n.sn n.scap, .int .i64 n.st, .slice n.ao n.an n.acap, .slice n.eo n.en n.ecap]] w2 (fun e w3 => ∃ m : Nf.Net, e = .returned (.agg m.cells) ∧ RowKit.Hid (Nf.NetAt w3 m ∧ n.sig = m.sig ∧ n.st = m.st ∧ n.arcs = m.arcs ∧ n.ends = m.ends) ∧ RowKit.Hid (Below w.heap.size w w3) ∧ RowKit.Hid (Nf.NetB B n w3))) := Sp.hid (fun w2 hb hk => by
    refine (copy_any w2 n (h.below hb.out) b1 b2 b3).mono ?_
    rintro e w3 ⟨m, rfl, hm, e1, e2, e3, e4, hb3⟩
    exact ⟨m, rfl, Sp.hid ⟨hm, e1.symm, e2.symm, e3.symm, e4.symm⟩, Sp.hid (hb.out.trans (hb3.mono hb.out.size)), Sp.hid (keep _ _ hk.out hb3)⟩)
  have HS : RowKit.Hid (∀ (w2 : World) (m : Nf.Net), RowKit.Hid (Nf.NetAt w2 m ∧ n.sig = m.sig ∧ n.st = m.st ∧ n.arcs = m.arcs ∧ n.ends = m.ends) → RowKit.Hid (Below w.heap.size w w2) → RowKit.Hid (Nf.NetB B n w2) → Calls Try.prog 12 #[.agg m.cells, .agg #[.slice n.so n.sn n.scap, .int .i64 n.st, .slice n.ao n.an n.acap, .slice n.eo n.en n.ecap]] w2 (fun e w3 => e = .returned (.bool true) ∧ RowKit.Hid (Below w.heap.size w w3) ∧ RowKit.Hid (Nf.NetB B n w3))) := Sp.hid (fun w2 m hm hb hk => by
    refine (sameNet_any w2 m n hm.out.1 (h.below hb.out) hm.out.2.1.symm hm.out.2.2.1.symm hm.out.2.2.2.1.symm hm.out.2.2.2.2.symm).mono ?_
    rintro e w3 ⟨rfl, hb3⟩
    exact ⟨rfl, Sp.hid (hb.out.trans (hb3.mono hb.out.size)), Sp.hid (keep _ _ hk.out hb3)⟩)
  have HK : RowKit.Hid (∀ w2 : World, RowKit.Hid (Below w.heap.size w w2) → RowKit.Hid (Nf.NetB B n w2) → Calls Try.prog 9 #[] w2 (fun e w3 => e = .returned (.bool true) ∧ RowKit.Hid (Below w.heap.size w w3) ∧ RowKit.Hid (Nf.NetB B n w3))) := Sp.hid (fun w2 hb hk => by
    refine (known_any w2).mono ?_
    rintro e w3 ⟨rfl, hb3⟩
    exact ⟨rfl, Sp.hid (hb.out.trans (hb3.mono hb.out.size)), Sp.hid (keep _ _ hk.out hb3)⟩)
  have Hkeep := Sp.hid keep
  have hok0 : ∀ w2, Below (w.heap.size + 1) (w.alloc (.cells n.cells 26)) w2 → Nf.NetB B n w2 := fun w2 hb => by
    have hx := Nf.blk_below hblk hb (by omega)
    rw [hB] at hx
    exact ⟨Nf.blk_cell (i := 0) hx rfl, Nf.blk_cell (i := 1) hx rfl, Nf.blk_cell (i := 2) hx rfl, Nf.blk_cell (i := 3) hx rfl⟩
  have Hok0 := Sp.hid hok0
  clear keep h hblk hb0 hr hok0
  obtain ⟨so, sn, scap, sig, st, ao, an, acap, arcs, eo, en, ecap, ends⟩ := n
  unfold Nf.Net.val at *
  simp only [Nf.Net.cells] at *
  go_enter Try.func3, Try.ntmps3
  go_wp2_with fail
  refine HO.out.mono ?_
  rintro e w2 ⟨over, rfl, hb2⟩
  have hb2' := hb2
  simp only [World.size_alloc] at hb2'
  obtain ⟨d0, d1, d2, d3⟩ := Hok0.out w2 hb2'
  have Hb2 := Sp.hid (show Below w.heap.size w w2 from Hb0.out.trans (hb2.mono Hb0.out.size))
  have Hb2d := Sp.hid (show Below w.heap.size w w2.drew from Hb2.out.drew)
  have Hk2 := Sp.hid (show Nf.NetB B ⟨so, sn, scap, sig, st, ao, an, acap, arcs, eo, en, ecap, ends⟩ w2 from ⟨d0, d1, d2, d3⟩)
  have Hk2d := Sp.hid (show Nf.NetB B ⟨so, sn, scap, sig, st, ao, an, acap, arcs, eo, en, ecap, ends⟩ w2.drew from ⟨d0, d1, d2, d3⟩)
  have HK2 := Sp.hid (HK.out w2 Hb2 Hk2)
  clear hb2 hb2'
  simp only at d0 d1 d2 d3
  cases over with
  | true =>
    go_wp2_with fail
    refine HK2.out.mono ?_
    rintro e w3 ⟨rfl, Hb3, _⟩
    go_wp2_with fail
    go_ret
    exact ⟨rfl, Hb3.out⟩
  | false =>
    go_wp2_with fail
    go_region_held3 (fun w' => w'.cell? ⟨B, 0, none⟩ = some (.slice so sn scap) ∧ w'.cell? ⟨B, 1, none⟩ = some (.int .i64 st) ∧ w'.cell? ⟨B, 2, none⟩ = some (.slice ao an acap) ∧ w'.cell? ⟨B, 3, none⟩ = some (.slice eo en ecap)) (go_keep) ((first
      | (go_at_call 10; refine (HV.out w2.drew Hb2d Hk2d).mono ?_; rintro e w3 ⟨rfl, Hb3, Hk3⟩; obtain ⟨u0, u1, u2, u3⟩ := Hk3.out; simp only at u0 u1 u2 u3)
      | (go_at_call 11; refine (HW.out w3 Hb3 Hk3).mono ?_; rintro e w4 ⟨rfl, Hb4, Hk4⟩; obtain ⟨v0, v1, v2, v3⟩ := Hk4.out; simp only at v0 v1 v2 v3)
      | (go_at_call 13; refine (HC.out w4 Hb4 Hk4).mono ?_; rintro e w5 ⟨m, rfl, Hm, Hb5, Hk5⟩; obtain ⟨x0, x1, x2, x3⟩ := Hk5.out; simp only at x0 x1 x2 x3)
      | (go_at_call 12; refine (HS.out w5 m Hm Hb5 Hk5).mono ?_; rintro e w6 ⟨rfl, Hb6, Hk6⟩; obtain ⟨y0, y1, y2, y3⟩ := Hk6.out; simp only at y0 y1 y2 y3)
      | (go_at_call 9; refine (HK.out w6 Hb6 Hk6).mono ?_; rintro e w7 ⟨rfl, Hb7, Hk7⟩; obtain ⟨z0, z1, z2, z3⟩ := Hk7.out; simp only at z0 z1 z2 z3)))
    all_goals
      go_wp2_with fail
      go_ret
      exact ⟨rfl, Hb7.out⟩
end Go.Proofs.Ytnkpgcmjnbgodaa
