/-
  The walk of AutoGoesOn.
-/
import Derived.Test.YteggofjldgjfiaaGreatMgReNx
import Derived.Test.YteggofjldgjfiaaGreatMgReSame
import Derived.Test.YteggofjldgjfiaaGreatMgReIl
import Derived.Test.YteggofjldgjfiaaGreatMgAuZAuZaAuKnAuLa
import Derived.IntWalk
set_option linter.unusedVariables false
set_option linter.unusedSimpArgs false
namespace Go.Proofs.YteggofjldgjfiaaGreat
open Go.RowKit

set_option maxHeartbeats 4000000 in
set_option maxRecDepth 100000 in
theorem autoGoesOn_any (w : World) (n : Nf.Net) (wo : Option Addr) (wn wcap : Nat) (W : List ByteArray) (h : Nf.NetAt w n) (hW : Sp.Row w wo wn W) :
    Calls Tryz.prog 3 #[n.val, .slice wo wn wcap] w fun e w' => e = .returned (.bool true) ∧ Below w.heap.size w w' := by
  have hb0 : Below w.heap.size w (w.alloc (.cells n.cells 26)) := (Below.refl _ w).alloc (Nat.le_refl _) _
  have hblk : (w.alloc (.cells n.cells 26)).heap[w.heap.size]? = some (.cells n.cells 26 (0, 0)) := Nf.Below.heap_new w _
  have HO := Sp.hid (isOver_any _ n (h.below hb0))
  have HNx : Hid (∀ w2 : World, Below w.heap.size w w2 → Calls Tryz.prog 10 #[n.val, .slice wo wn wcap] w2 (fun e w' => ∃ lo ll lcap, e = .returned (.tuple #[.slice lo ll lcap, .bool (Nf.nextSpec n W).2.1, .int .i64 (Nf.nextSpec n W).2.2]) ∧ Hid (Sp.Row w' lo ll (Nf.nextSpec n W).1) ∧ Hid (Below w2.heap.size w2 w'))) := Sp.hid (fun w2 hb => by
    refine (next_any w2 n wo wn wcap W (h.below hb) (hW.below hb)).mono ?_
    rintro e w' ⟨lo, ll, lcap, he, h0, h1⟩
    exact ⟨lo, ll, lcap, he, Sp.hid h0, Sp.hid h1⟩)
  have HNr : Hid (∀ w2 : World, Below w.heap.size w w2 → Calls Tryz.prog 11 #[n.val, .slice wo wn wcap] w2 (fun e w' => ∃ lo ll lcap, e = .returned (.tuple #[.slice lo ll lcap, .bool (Nf.nextSpec n W).2.1, .int .i64 (Nf.nextSpec n W).2.2]) ∧ Hid (Sp.Row w' lo ll (Nf.nextSpec n W).1) ∧ Hid (Below w2.heap.size w2 w'))) := Sp.hid (fun w2 hb => by
    refine (refNext_any w2 n wo wn wcap W (h.below hb) (hW.below hb)).mono ?_
    rintro e w' ⟨lo, ll, lcap, he, h0, h1⟩
    exact ⟨lo, ll, lcap, he, Sp.hid h0, Sp.hid h1⟩)
  have HW := Sp.hid hW
  have Hb0 := Sp.hid hb0
  have Hblk := Sp.hid hblk
  clear h hW hb0 hblk
  generalize Nf.nextSpec n W = x at HNx HNr
  obtain ⟨X, x1, x2⟩ := x
  simp only at HNx HNr
  obtain ⟨so, sn, scap, sig, st, ao, an, acap, arcs, eo, en, ecap, ends⟩ := n
  unfold Nf.Net.val at *
  simp only [Nf.Net.cells] at *
  go_enter Tryz.func3, Tryz.ntmps3
  go_wp2_with fail
  refine HO.out.mono ?_
  rintro e w2 ⟨over, rfl, hb2⟩
  have hblk2 := Nf.blk_below Hblk.out hb2 (by simp)
  have d0 : w2.cell? ⟨w.heap.size, 0, none⟩ = some (.slice so sn scap) := Nf.blk_cell (i := 0) hblk2 rfl
  have d1 : w2.cell? ⟨w.heap.size, 1, none⟩ = some (.int .i64 st) := Nf.blk_cell (i := 1) hblk2 rfl
  have d2 : w2.cell? ⟨w.heap.size, 2, none⟩ = some (.slice ao an acap) := Nf.blk_cell (i := 2) hblk2 rfl
  have d3 : w2.cell? ⟨w.heap.size, 3, none⟩ = some (.slice eo en ecap) := Nf.blk_cell (i := 3) hblk2 rfl
  have Hb2 := Sp.hid (Hb0.out.trans (hb2.mono Hb0.out.size))
  have Hblk2 := Sp.hid hblk2
  clear hb2 hblk2
  cases over with
  | true =>
    go_wp2_with fail
    refine (known_any w2).mono ?_
    rintro e w3 ⟨rfl, hb3⟩
    have Hb3 := Sp.hid (Hb2.out.trans (hb3.mono Hb2.out.size))
    clear hb3
    go_wp2_with fail
    go_ret
    exact ⟨rfl, Hb3.out⟩
  | false =>
    go_wp2_with fail
    have hb3 : Below w.heap.size w (w2.alloc (.cells #[.slice wo wn wcap] 22)) := Hb2.out.alloc (by have := Hb2.out.size; omega) _
    have hc3 : (w2.alloc (.cells #[.slice wo wn wcap] 22)).cell? ⟨w2.heap.size, 0, none⟩ = some (.slice wo wn wcap) := Nf.blk_cell (i := 0) (Nf.Below.heap_new w2 _) rfl
    have hblk3 := Nf.blk_alloc Hblk2.out (.cells #[.slice wo wn wcap] 22)
    have HL := Sp.hid (isLong_any _ w2.heap.size wo wn wcap W hc3 (HW.out.below hb3))
    have HB3 := Sp.hid hb3
    have Hblk3 := Sp.hid hblk3
    clear hb3 hc3 hblk3 d0 d1 d2 d3
    obtain ⟨w3, hw3⟩ : ∃ w3, w2.alloc (.cells #[.slice wo wn wcap] 22) = w3 := ⟨_, rfl⟩
    rw [hw3] at HL HB3 Hblk3 ⊢
    clear hw3
    refine HL.out.mono ?_
    rintro e w' ⟨lg, rfl, rfl⟩
    have d0 : w3.cell? ⟨w.heap.size, 0, none⟩ = some (.slice so sn scap) := Nf.blk_cell (i := 0) Hblk3.out rfl
    have d1 : w3.cell? ⟨w.heap.size, 1, none⟩ = some (.int .i64 st) := Nf.blk_cell (i := 1) Hblk3.out rfl
    have d2 : w3.cell? ⟨w.heap.size, 2, none⟩ = some (.slice ao an acap) := Nf.blk_cell (i := 2) Hblk3.out rfl
    have d3 : w3.cell? ⟨w.heap.size, 3, none⟩ = some (.slice eo en ecap) := Nf.blk_cell (i := 3) Hblk3.out rfl
    cases lg with
    | true =>
      go_wp2_with fail
      refine (known_any w3).mono ?_
      rintro e w4 ⟨rfl, hb4⟩
      have Hb4 := Sp.hid (HB3.out.trans (hb4.mono HB3.out.size))
      clear hb4
      go_wp2_with fail
      go_ret
      exact ⟨rfl, Hb4.out⟩
    | false =>
      go_wp2_with fail
      refine (HNx.out w3 HB3.out).mono ?_
      rintro e w4 ⟨lo, ll, lcap, rfl, HR4, Hx⟩
      have hblkx := Nf.blk_below Hblk3.out Hx.out (Nf.blk_lt Hblk3.out)
      have HB4 := Sp.hid (HB3.out.trans (Hx.out.mono HB3.out.size))
      clear d0 d1 d2 d3
      have d0 : w4.cell? ⟨w.heap.size, 0, none⟩ = some (.slice so sn scap) := Nf.blk_cell (i := 0) hblkx rfl
      have d1 : w4.cell? ⟨w.heap.size, 1, none⟩ = some (.int .i64 st) := Nf.blk_cell (i := 1) hblkx rfl
      have d2 : w4.cell? ⟨w.heap.size, 2, none⟩ = some (.slice ao an acap) := Nf.blk_cell (i := 2) hblkx rfl
      have d3 : w4.cell? ⟨w.heap.size, 3, none⟩ = some (.slice eo en ecap) := Nf.blk_cell (i := 3) hblkx rfl
      clear Hx hblkx
      go_wp2_with fail
      refine (HNr.out w4 HB4.out).mono ?_
      rintro e w5 ⟨mo, ml, mcap, rfl, HR5, Hy⟩
      have HB5 := Sp.hid (HB4.out.trans (Hy.out.mono HB4.out.size))
      have HSm : Hid (Calls Tryz.prog 12 #[.slice lo ll lcap, .slice mo ml mcap] w5 (fun e w' => e = .returned (.bool true) ∧ Below w5.heap.size w5 w')) := Sp.hid (by
        refine (refSame_any lo mo ll ml lcap mcap X X w5 (HR4.out.below Hy.out) HR5.out).mono ?_
        rintro e w' ⟨rfl, q, rfl⟩
        exact ⟨by rw [Sp.ord_self]; rfl, Sp.below_of_drew ⟨q, rfl⟩⟩)
      clear d0 d1 d2 d3 Hy
      have e1 : (x1 == x1) = true := by simp
      have e2 : (x2 == x2) = true := by simp
      go_wp2_with fail
      refine HSm.out.mono ?_
      rintro e w7 ⟨rfl, hb7⟩
      have HB7 := Sp.hid (HB5.out.trans (hb7.mono HB5.out.size))
      clear hb7
      go_wp2_with fail
      refine (known_any w7).mono ?_
      rintro e w8 ⟨rfl, hb8⟩
      have Hb8 := Sp.hid (HB7.out.trans (hb8.mono HB7.out.size))
      clear hb8
      go_wp2_with fail
      go_ret
      exact ⟨rfl, Hb8.out⟩
end Go.Proofs.YteggofjldgjfiaaGreat
