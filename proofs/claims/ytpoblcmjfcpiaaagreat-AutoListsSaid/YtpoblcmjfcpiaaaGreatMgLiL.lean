/-
  The walk of AutoLists.
-/
import Derived.Test.YtpoblcmjfcpiaaaGreatMgFiRFi
import Derived.Test.YtpoblcmjfcpiaaaGreatMgSw
import Derived.Test.YtpoblcmjfcpiaaaGreatMgReSame
import Derived.Test.YtpoblcmjfcpiaaaGreatMgAuZAuZaAuKnAuLa
import Derived.IntWalk
set_option linter.unusedVariables false
set_option linter.unusedSimpArgs false
namespace Go.Proofs.YtpoblcmjfcpiaaaGreat
open Go.RowKit

set_option maxHeartbeats 4000000 in
set_option maxRecDepth 100000 in
theorem autoLists_any (w : World) (n : Nf.Net) (most : Int) (h : Nf.NetAt w n) (hm1 : -9223372036854775808 ≤ most) (hm2 : most ≤ 9223372036854775807) :
    Calls Tryz.prog 5 #[n.val, .int .i64 most] w fun e w' => e = .returned (.bool true) ∧ Below w.heap.size w w' := by
  have hb0 : Below w.heap.size w (w.alloc (.cells n.cells 26)) := (Below.refl _ w).alloc (Nat.le_refl _) _
  have hblk : (w.alloc (.cells n.cells 26)).heap[w.heap.size]? = some (.cells n.cells 26 (0, 0)) := Nf.Below.heap_new w _
  have HO := Sp.hid (isOver_any _ n (h.below hb0))
  have HA : Hid (∀ w2 : World, Below w.heap.size w w2 → Calls Tryz.prog 19 #[n.val, .int .i64 most] w2 (fun e w' => ∃ (bo : Option Addr) (m cap : Nat) (els : List Lst), e = .returned (.tuple #[.slice bo m cap, .bool (Nf.wordsSpec n most).2.1, .int .i64 (Nf.wordsSpec n most).2.2]) ∧ Hid (Sp.RowE w' bo m els) ∧ Hid (Below w2.heap.size w2 w') ∧ Hid (Sp.lists els = (Nf.wordsSpec n most).1))) := Sp.hid (fun w2 hb => by
    refine (words_any w2 n most (h.below hb) hm1 hm2).mono ?_
    rintro e w' ⟨bo, m, cap, els, more, er, he, hrow, hb2, hsp⟩
    rw [← hsp]
    exact ⟨bo, m, cap, els, he, Sp.hid hrow, Sp.hid hb2, Sp.hid rfl⟩)
  have HB : Hid (∀ w2 : World, Below w.heap.size w w2 → Calls Tryz.prog 20 #[n.val, .int .i64 most] w2 (fun e w' => ∃ (bo : Option Addr) (m cap : Nat) (els : List Lst), e = .returned (.tuple #[.slice bo m cap, .bool (Nf.wordsSpec n most).2.1, .int .i64 (Nf.wordsSpec n most).2.2]) ∧ Hid (Sp.RowE w' bo m els) ∧ Hid (Below w2.heap.size w2 w') ∧ Hid (Sp.lists els = (Nf.wordsSpec n most).1))) := Sp.hid (fun w2 hb => by
    refine (refNWords_any w2 n most (h.below hb) hm1 hm2).mono ?_
    rintro e w' ⟨bo, m, cap, els, more, er, he, hrow, hb2, hsp⟩
    rw [← hsp]
    exact ⟨bo, m, cap, els, he, Sp.hid hrow, Sp.hid hb2, Sp.hid rfl⟩)
  have Hb0 := Sp.hid hb0
  have Hblk := Sp.hid hblk
  clear h hb0 hblk
  generalize Nf.wordsSpec n most = x at HA HB
  obtain ⟨X, x1, x2⟩ := x
  simp only at HA HB
  obtain ⟨so, sn, scap, sig, st, ao, an, acap, arcs, eo, en, ecap, ends⟩ := n
  unfold Nf.Net.val at *
  simp only [Nf.Net.cells] at *
  go_enter Tryz.func5, Tryz.ntmps5
  go_wp2_with fail
  refine HO.out.mono ?_
  rintro e w2 ⟨over, rfl, hb2⟩
  have hblk2 := Nf.blk_below Hblk.out hb2 (by simp)
  have d0 : w2.cell? ⟨w.heap.size, 0, none⟩ = some (.slice so sn scap) := Nf.blk_cell (i := 0) hblk2 rfl
  have d1 : w2.cell? ⟨w.heap.size, 1, none⟩ = some (.int .i64 st) := Nf.blk_cell (i := 1) hblk2 rfl
  have d2 : w2.cell? ⟨w.heap.size, 2, none⟩ = some (.slice ao an acap) := Nf.blk_cell (i := 2) hblk2 rfl
  have d3 : w2.cell? ⟨w.heap.size, 3, none⟩ = some (.slice eo en ecap) := Nf.blk_cell (i := 3) hblk2 rfl
  have Hb2 := Sp.hid (Hb0.out.trans (hb2.mono Hb0.out.size))
  have Hblk2 := Sp.hid hblk2
  clear hb2 hblk2
  cases over with
  | true =>
    go_wp2_with fail
    refine (known_any w2).mono ?_
    rintro e wk ⟨rfl, hbk⟩
    have Hbk := Sp.hid (Hb2.out.trans (hbk.mono Hb2.out.size))
    clear hbk
    go_wp2_with fail
    go_ret
    exact ⟨rfl, Hbk.out⟩
  | false =>
    go_wp2_with fail
    refine (HA.out w2 Hb2.out).mono ?_
    rintro e w3 ⟨bo, m, cap, els, rfl, HR3, Hx, HL3⟩
    have hblkx := Nf.blk_below Hblk2.out Hx.out (Nf.blk_lt Hblk2.out)
    have HB3 := Sp.hid (Hb2.out.trans (Hx.out.mono Hb2.out.size))
    clear d0 d1 d2 d3
    have d0 : w3.cell? ⟨w.heap.size, 0, none⟩ = some (.slice so sn scap) := Nf.blk_cell (i := 0) hblkx rfl
    have d1 : w3.cell? ⟨w.heap.size, 1, none⟩ = some (.int .i64 st) := Nf.blk_cell (i := 1) hblkx rfl
    have d2 : w3.cell? ⟨w.heap.size, 2, none⟩ = some (.slice ao an acap) := Nf.blk_cell (i := 2) hblkx rfl
    have d3 : w3.cell? ⟨w.heap.size, 3, none⟩ = some (.slice eo en ecap) := Nf.blk_cell (i := 3) hblkx rfl
    clear Hx hblkx
    go_wp2_with fail
    refine (HB.out w3 HB3.out).mono ?_
    rintro e w4 ⟨co, k, ccap, els', rfl, HR4, Hy, HL4⟩
    have HB4 := Sp.hid (HB3.out.trans (Hy.out.mono HB3.out.size))
    have HSm := Sp.hid (sameWords_any w4 bo co m k cap ccap els els' (HR3.out.below Hy.out) HR4.out (HL3.out.trans HL4.out.symm))
    clear d0 d1 d2 d3 Hy
    have e1 : (x1 == x1) = true := by simp
    have e2 : (x2 == x2) = true := by simp
    go_wp2_with fail
    refine HSm.out.mono ?_
    rintro e w5 ⟨rfl, hb5⟩
    have HB5 := Sp.hid (HB4.out.trans (hb5.mono HB4.out.size))
    clear hb5
    go_wp2_with fail
    refine (known_any w5).mono ?_
    rintro e wk ⟨rfl, hbk⟩
    have Hbk := Sp.hid (HB5.out.trans (hbk.mono HB5.out.size))
    clear hbk
    go_wp2_with fail
    go_ret
    exact ⟨rfl, Hbk.out⟩
end Go.Proofs.YtpoblcmjfcpiaaaGreat
