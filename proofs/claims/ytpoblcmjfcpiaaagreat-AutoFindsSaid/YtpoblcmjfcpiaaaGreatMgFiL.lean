/-
  The walk of AutoFinds.
-/
import Derived.Test.YtpoblcmjfcpiaaaGreatMgFiRFi
import Derived.Test.YtpoblcmjfcpiaaaGreatMgAskE
import Derived.Test.YtpoblcmjfcpiaaaGreatMgReSame
import Derived.Test.YtpoblcmjfcpiaaaGreatMgAuZAuZaAuKnAuLa
import Derived.IntWalk
set_option linter.unusedVariables false
set_option linter.unusedSimpArgs false
namespace Go.Proofs.YtpoblcmjfcpiaaaGreat
open Go.RowKit

set_option maxHeartbeats 4000000 in
set_option maxRecDepth 100000 in
theorem autoFinds_any (w : World) (n : Nf.Net) (h : Nf.NetAt w n) :
    Calls Tryz.prog 4 #[n.val] w fun e w' => e = .returned (.bool true) ∧ Below w.heap.size w w' := by
  have hb0 : Below w.heap.size w (w.alloc (.cells n.cells 26)) := (Below.refl _ w).alloc (Nat.le_refl _) _
  have hblk : (w.alloc (.cells n.cells 26)).heap[w.heap.size]? = some (.cells n.cells 26 (0, 0)) := Nf.Below.heap_new w _
  have HO := Sp.hid (isOver_any _ n (h.below hb0))
  have HA : Hid (∀ w2 : World, Below w.heap.size w w2 → Calls Tryz.prog 13 #[n.val] w2 (fun e w' => e = .returned (.tuple #[.bool (Nf.emptySpec n).1, .int .i64 (Nf.emptySpec n).2]) ∧ Hid (Below w2.heap.size w2 w'))) := Sp.hid (fun w2 hb => by
    refine (empty_any w2 n (h.below hb)).mono ?_
    rintro e w' ⟨he, h1⟩
    exact ⟨he, Sp.hid h1⟩)
  have HB : Hid (∀ w2 : World, Below w.heap.size w w2 → Calls Tryz.prog 14 #[n.val] w2 (fun e w' => e = .returned (.tuple #[.bool (Nf.emptySpec n).1, .int .i64 (Nf.emptySpec n).2]) ∧ Hid (Below w2.heap.size w2 w'))) := Sp.hid (fun w2 hb => by
    refine (refEmpty_any w2 n (h.below hb)).mono ?_
    rintro e w' ⟨he, h1⟩
    exact ⟨he, Sp.hid h1⟩)
  have HC : Hid (∀ w2 : World, Below w.heap.size w w2 → Calls Tryz.prog 15 #[n.val] w2 (fun e w' => e = .returned (.tuple #[.bool (Nf.finSpec n).1, .int .i64 (Nf.finSpec n).2]) ∧ Hid (Below w2.heap.size w2 w'))) := Sp.hid (fun w2 hb => by
    refine (finite_any w2 n (h.below hb)).mono ?_
    rintro e w' ⟨he, h1⟩
    exact ⟨he, Sp.hid h1⟩)
  have HD : Hid (∀ w2 : World, Below w.heap.size w w2 → Calls Tryz.prog 16 #[n.val] w2 (fun e w' => e = .returned (.tuple #[.bool (Nf.finSpec n).1, .int .i64 (Nf.finSpec n).2]) ∧ Hid (Below w2.heap.size w2 w'))) := Sp.hid (fun w2 hb => by
    refine (refFinite_any w2 n (h.below hb)).mono ?_
    rintro e w' ⟨he, h1⟩
    exact ⟨he, Sp.hid h1⟩)
  have HE : Hid (∀ w2 : World, Below w.heap.size w w2 → Calls Tryz.prog 17 #[n.val] w2 (fun e w' => ∃ lo ll lcap, e = .returned (.tuple #[.slice lo ll lcap, .bool (Nf.fstSpec n).2.1, .int .i64 (Nf.fstSpec n).2.2]) ∧ Hid (Sp.Row w' lo ll (Nf.fstSpec n).1) ∧ Hid (Below w2.heap.size w2 w'))) := Sp.hid (fun w2 hb => by
    refine (autoFirst_any w2 n (h.below hb)).mono ?_
    rintro e w' ⟨lo, ll, lcap, he, h0, h1⟩
    exact ⟨lo, ll, lcap, he, Sp.hid h0, Sp.hid h1⟩)
  have HF : Hid (∀ w2 : World, Below w.heap.size w w2 → Calls Tryz.prog 18 #[n.val] w2 (fun e w' => ∃ lo ll lcap, e = .returned (.tuple #[.slice lo ll lcap, .bool (Nf.fstSpec n).2.1, .int .i64 (Nf.fstSpec n).2.2]) ∧ Hid (Sp.Row w' lo ll (Nf.fstSpec n).1) ∧ Hid (Below w2.heap.size w2 w'))) := Sp.hid (fun w2 hb => by
    refine (refFirst_any w2 n (h.below hb)).mono ?_
    rintro e w' ⟨lo, ll, lcap, he, h0, h1⟩
    exact ⟨lo, ll, lcap, he, Sp.hid h0, Sp.hid h1⟩)
  have Hb0 := Sp.hid hb0
  have Hblk := Sp.hid hblk
  clear h hb0 hblk
  generalize Nf.fstSpec n = x at HE HF
  generalize Nf.emptySpec n = y at HA HB
  generalize Nf.finSpec n = z at HC HD
  obtain ⟨X, x1, x2⟩ := x
  obtain ⟨y1, y2⟩ := y
  obtain ⟨z1, z2⟩ := z
  simp only at HA HB HC HD HE HF
  obtain ⟨so, sn, scap, sig, st, ao, an, acap, arcs, eo, en, ecap, ends⟩ := n
  unfold Nf.Net.val at *
  simp only [Nf.Net.cells] at *
  go_enter Tryz.func4, Tryz.ntmps4
  go_wp2_with fail
  refine HO.out.mono ?_
  rintro e w2 ⟨over, rfl, hb2⟩
  have hblk2 := Nf.blk_below Hblk.out hb2 (by simp)
  have d0 : w2.cell? ⟨w.heap.size, 0, none⟩ = some (.slice so sn scap) := Nf.blk_cell (i := 0) hblk2 rfl
  have d1 : w2.cell? ⟨w.heap.size, 1, none⟩ = some (.int .i64 st) := Nf.blk_cell (i := 1) hblk2 rfl
  have d2 : w2.cell? ⟨w.heap.size, 2, none⟩ = some (.slice ao an acap) := Nf.blk_cell (i := 2) hblk2 rfl
  have d3 : w2.cell? ⟨w.heap.size, 3, none⟩ = some (.slice eo en ecap) := Nf.blk_cell (i := 3) hblk2 rfl
  have Hb2 := Sp.hid (Hb0.out.trans (hb2.mono Hb0.out.size))
  have Hblk2 := Sp.hid hblk2
  clear hb2 hblk2
  cases over with
  | true =>
    go_wp2_with fail
    refine (known_any w2).mono ?_
    rintro e wk ⟨rfl, hbk⟩
    have Hbk := Sp.hid (Hb2.out.trans (hbk.mono Hb2.out.size))
    clear hbk
    go_wp2_with fail
    go_ret
    exact ⟨rfl, Hbk.out⟩
  | false =>
    go_wp2_with fail
    refine (HA.out w2 Hb2.out).mono ?_
    rintro e w3 ⟨rfl, Hx⟩
    have hblkx := Nf.blk_below Hblk2.out Hx.out (Nf.blk_lt Hblk2.out)
    have HB3 := Sp.hid (Hb2.out.trans (Hx.out.mono Hb2.out.size))
    have Hblk3 := Sp.hid hblkx
    clear d0 d1 d2 d3
    have d0 : w3.cell? ⟨w.heap.size, 0, none⟩ = some (.slice so sn scap) := Nf.blk_cell (i := 0) hblkx rfl
    have d1 : w3.cell? ⟨w.heap.size, 1, none⟩ = some (.int .i64 st) := Nf.blk_cell (i := 1) hblkx rfl
    have d2 : w3.cell? ⟨w.heap.size, 2, none⟩ = some (.slice ao an acap) := Nf.blk_cell (i := 2) hblkx rfl
    have d3 : w3.cell? ⟨w.heap.size, 3, none⟩ = some (.slice eo en ecap) := Nf.blk_cell (i := 3) hblkx rfl
    clear Hx hblkx
    go_wp2_with fail
    refine (HB.out w3 HB3.out).mono ?_
    rintro e w4 ⟨rfl, Hx⟩
    have hblkx := Nf.blk_below Hblk3.out Hx.out (Nf.blk_lt Hblk3.out)
    have HB4 := Sp.hid (HB3.out.trans (Hx.out.mono HB3.out.size))
    have Hblk4 := Sp.hid hblkx
    clear d0 d1 d2 d3
    have d0 : w4.cell? ⟨w.heap.size, 0, none⟩ = some (.slice so sn scap) := Nf.blk_cell (i := 0) hblkx rfl
    have d1 : w4.cell? ⟨w.heap.size, 1, none⟩ = some (.int .i64 st) := Nf.blk_cell (i := 1) hblkx rfl
    have d2 : w4.cell? ⟨w.heap.size, 2, none⟩ = some (.slice ao an acap) := Nf.blk_cell (i := 2) hblkx rfl
    have d3 : w4.cell? ⟨w.heap.size, 3, none⟩ = some (.slice eo en ecap) := Nf.blk_cell (i := 3) hblkx rfl
    clear Hx hblkx
    go_wp2_with fail
    refine (HC.out w4 HB4.out).mono ?_
    rintro e w5 ⟨rfl, Hx⟩
    have hblkx := Nf.blk_below Hblk4.out Hx.out (Nf.blk_lt Hblk4.out)
    have HB5 := Sp.hid (HB4.out.trans (Hx.out.mono HB4.out.size))
    have Hblk5 := Sp.hid hblkx
    clear d0 d1 d2 d3
    have d0 : w5.cell? ⟨w.heap.size, 0, none⟩ = some (.slice so sn scap) := Nf.blk_cell (i := 0) hblkx rfl
    have d1 : w5.cell? ⟨w.heap.size, 1, none⟩ = some (.int .i64 st) := Nf.blk_cell (i := 1) hblkx rfl
    have d2 : w5.cell? ⟨w.heap.size, 2, none⟩ = some (.slice ao an acap) := Nf.blk_cell (i := 2) hblkx rfl
    have d3 : w5.cell? ⟨w.heap.size, 3, none⟩ = some (.slice eo en ecap) := Nf.blk_cell (i := 3) hblkx rfl
    clear Hx hblkx
    go_wp2_with fail
    refine (HD.out w5 HB5.out).mono ?_
    rintro e w6 ⟨rfl, Hx⟩
    have hblkx := Nf.blk_below Hblk5.out Hx.out (Nf.blk_lt Hblk5.out)
    have HB6 := Sp.hid (HB5.out.trans (Hx.out.mono HB5.out.size))
    have Hblk6 := Sp.hid hblkx
    clear d0 d1 d2 d3
    have d0 : w6.cell? ⟨w.heap.size, 0, none⟩ = some (.slice so sn scap) := Nf.blk_cell (i := 0) hblkx rfl
    have d1 : w6.cell? ⟨w.heap.size, 1, none⟩ = some (.int .i64 st) := Nf.blk_cell (i := 1) hblkx rfl
    have d2 : w6.cell? ⟨w.heap.size, 2, none⟩ = some (.slice ao an acap) := Nf.blk_cell (i := 2) hblkx rfl
    have d3 : w6.cell? ⟨w.heap.size, 3, none⟩ = some (.slice eo en ecap) := Nf.blk_cell (i := 3) hblkx rfl
    clear Hx hblkx
    go_wp2_with fail
    refine (HE.out w6 HB6.out).mono ?_
    rintro e w7 ⟨lo, ll, lcap, rfl, HR7, Hx⟩
    have hblkx := Nf.blk_below Hblk6.out Hx.out (Nf.blk_lt Hblk6.out)
    have HB7 := Sp.hid (HB6.out.trans (Hx.out.mono HB6.out.size))
    clear d0 d1 d2 d3
    have d0 : w7.cell? ⟨w.heap.size, 0, none⟩ = some (.slice so sn scap) := Nf.blk_cell (i := 0) hblkx rfl
    have d1 : w7.cell? ⟨w.heap.size, 1, none⟩ = some (.int .i64 st) := Nf.blk_cell (i := 1) hblkx rfl
    have d2 : w7.cell? ⟨w.heap.size, 2, none⟩ = some (.slice ao an acap) := Nf.blk_cell (i := 2) hblkx rfl
    have d3 : w7.cell? ⟨w.heap.size, 3, none⟩ = some (.slice eo en ecap) := Nf.blk_cell (i := 3) hblkx rfl
    clear Hx hblkx
    go_wp2_with fail
    refine (HF.out w7 HB7.out).mono ?_
    rintro e w8 ⟨mo, ml, mcap, rfl, HR8, Hy⟩
    have HB8 := Sp.hid (HB7.out.trans (Hy.out.mono HB7.out.size))
    have HSm : Hid (Calls Tryz.prog 12 #[.slice lo ll lcap, .slice mo ml mcap] w8 (fun e w' => e = .returned (.bool true) ∧ Below w8.heap.size w8 w')) := Sp.hid (by
      refine (refSame_any lo mo ll ml lcap mcap X X w8 (HR7.out.below Hy.out) HR8.out).mono ?_
      rintro e w' ⟨rfl, q, rfl⟩
      exact ⟨by rw [Sp.ord_self]; rfl, Sp.below_of_drew ⟨q, rfl⟩⟩)
    clear d0 d1 d2 d3 Hy
    have e1 : (x1 == x1) = true := by simp
    have e2 : (x2 == x2) = true := by simp
    have e3 : (y1 == y1) = true := by simp
    have e4 : (y2 == y2) = true := by simp
    have e5 : (z1 == z1) = true := by simp
    have e6 : (z2 == z2) = true := by simp
    go_wp2_with fail
    refine HSm.out.mono ?_
    rintro e w9 ⟨rfl, hb9⟩
    have HB9 := Sp.hid (HB8.out.trans (hb9.mono HB8.out.size))
    clear hb9
    go_wp2_with fail
    refine (known_any w9).mono ?_
    rintro e wk ⟨rfl, hbk⟩
    have Hbk := Sp.hid (HB9.out.trans (hbk.mono HB9.out.size))
    clear hbk
    go_wp2_with fail
    go_ret
    exact ⟨rfl, Hbk.out⟩
end Go.Proofs.YtpoblcmjfcpiaaaGreat
