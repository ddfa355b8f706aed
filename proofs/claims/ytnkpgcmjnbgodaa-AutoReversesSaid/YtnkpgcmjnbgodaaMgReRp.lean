/-
  The walk of Reverse.
-/
import Derived.Test.YtnkpgcmjnbgodaaMgReIlReRvMReLm
import Derived.Test.YtnkpgcmjnbgodaaMgAuF
import Derived.Deep.RegionHeld3
import Derived.Deep.DrawnRows
import Derived.Deep.DeepCutAuto
import Derived.Deep.RegionWith
import Derived.IntWalk
set_option linter.unusedVariables false
set_option linter.unusedSimpArgs false
namespace Go.Proofs.Ytnkpgcmjnbgodaa
open Go.RowKit

set_option maxHeartbeats 4000000 in
set_option maxRecDepth 100000 in
theorem reverse_any (w : World) (n : Nf.Net) (h : Nf.NetAt w n) (hr : n.sn * 16 ≤ 140737488351232) :
    Calls Try.prog 19 #[n.val] w (Nf.RevPost n w) := by
  have nB : (((w.alloc (.cells n.cells 26)).alloc (.cells #[.slice none 0 0, .int .i64 0, .slice none 0 0, .slice none 0 0] 26))).heap[w.heap.size]? = some (.cells n.cells 26 (0, 0)) := Nf.blk_alloc (Nf.Below.heap_new w _) _
  have nR : (((w.alloc (.cells n.cells 26)).alloc (.cells #[.slice none 0 0, .int .i64 0, .slice none 0 0, .slice none 0 0] 26))).heap[w.heap.size + 1]? = some (.cells #[.slice none 0 0, .int .i64 0, .slice none 0 0, .slice none 0 0] 26 (0, 0)) := by
    have h3 := Nf.Below.heap_new (w.alloc (.cells n.cells 26)) (.cells #[.slice none 0 0, .int .i64 0, .slice none 0 0, .slice none 0 0] 26)
    simpa using h3
  have b01 : Below w.heap.size w ((w.alloc (.cells n.cells 26)).alloc (.cells #[.slice none 0 0, .int .i64 0, .slice none 0 0, .slice none 0 0] 26)) := ((Below.refl _ w).alloc (Nat.le_refl _) _).alloc (by simp) _
  have HV := Sp.hid (netValidate_any _ n (h.below b01))
  have HN := Sp.hid h
  have NB := Sp.hid nB
  have NR := Sp.hid nR
  have B01 := Sp.hid b01
  obtain ⟨r, hre⟩ : ∃ r, Nf.errNet n = r := ⟨_, rfl⟩
  rw [hre] at HV
  have Hre := Sp.hid hre
  have Hlo := h.lo
  have Hhi := h.hi
  have hla := h.arcs.2.1
  have hle := h.ends.2.1
  have Hla := Sp.hid h.arcs.1
  have Hle := Sp.hid h.ends.1
  have Hn : RowKit.Hid (∃ n' : Nf.Net, n' = n) := Sp.hid ⟨n, rfl⟩
  clear h nB nR b01 hre
  obtain ⟨w1, hw1⟩ : ∃ w1, ((w.alloc (.cells n.cells 26)).alloc (.cells #[.slice none 0 0, .int .i64 0, .slice none 0 0, .slice none 0 0] 26)) = w1 := ⟨_, rfl⟩
  rw [hw1] at NB NR B01 HV
  have Hw1 := Sp.hid hw1
  have Hcells := Sp.hid (show n.cells = #[.slice n.so n.sn n.scap, .int .i64 n.st, .slice n.ao n.an n.acap, .slice n.eo n.en n.ecap] from rfl)
  clear hw1 Hn
  unfold Nf.Net.val at HV ⊢
  rw [Hcells.out] at Hw1 NB HV ⊢
  obtain ⟨so, sn, scap, sig, st, ao, an, acap, arcs, eo, en, ecap, ends⟩ := n
  simp only at *
  by_cases h0 : r = 0
  · subst h0
    have HE := Sp.hid (fun w2 (hb : Below w.heap.size w w2) => (Nf.errNet_pre (HN.out.below hb) Hre.out))
    have hst2 : st ≤ 3000 := (HE.out w (Below.refl _ _)).2.1
    have hst1 : 1 ≤ st := by have h1 : st = (st.toNat : Int) := (HE.out w (Below.refl _ _)).1; have h2 : 1 ≤ st.toNat := (HE.out w (Below.refl _ _)).2.2.hpos; omega
    by_cases h1 : st = 3000
    · skip
      have HNE := Sp.hid (show (3 : Int) ≠ 0 by decide)
      subst h1
      have hst : ((3000 : Int) == 3000) = true := by decide
      go_enter Try.func19, Try.ntmps19
      go_wp2_with fail
      rw [Hw1.out]
      refine HV.out.mono ?_
      rintro e w2 ⟨rfl, hb2⟩
      have nB2 := Nf.blk_below NB.out hb2 (Nf.blk_lt NB.out)
      have nR2 := Nf.blk_below NR.out hb2 (Nf.blk_lt NR.out)
      have B02 := Sp.hid (B01.out.trans (hb2.mono B01.out.size))
      have d1 : w2.cell? ⟨w.heap.size, 1, none⟩ = some (.int .i64 3000) := Nf.blk_cell (i := 1) nB2 rfl
      have d2 : w2.cell? ⟨w.heap.size, 2, none⟩ = some (.slice ao an acap) := Nf.blk_cell (i := 2) nB2 rfl
      have d3 : w2.cell? ⟨w.heap.size, 3, none⟩ = some (.slice eo en ecap) := Nf.blk_cell (i := 3) nB2 rfl
      have y0 : w2.cell? ⟨w.heap.size + 1, 0, none⟩ = some (.slice none 0 0) := Nf.blk_cell (i := 0) nR2 rfl
      have y1 : w2.cell? ⟨w.heap.size + 1, 1, none⟩ = some (.int .i64 0) := Nf.blk_cell (i := 1) nR2 rfl
      have y2 : w2.cell? ⟨w.heap.size + 1, 2, none⟩ = some (.slice none 0 0) := Nf.blk_cell (i := 2) nR2 rfl
      have y3 : w2.cell? ⟨w.heap.size + 1, 3, none⟩ = some (.slice none 0 0) := Nf.blk_cell (i := 3) nR2 rfl
      have f0 := Nf.blk_free (i := 0) nR2
      have f1 := Nf.blk_free (i := 1) nR2
      have f2 := Nf.blk_free (i := 2) nR2
      have f3 := Nf.blk_free (i := 3) nR2
      have hR5 := Nf.blk_set (i := 3) (Nf.blk_set (i := 2) (Nf.blk_set (i := 1) (Nf.blk_set (i := 0) nR2 (.slice none 0 0)) (.int .i64 0)) (.slice none 0 0)) (.slice none 0 0)
      have B05 := Sp.hid ((((B02.out.setCell (p := ⟨w.heap.size + 1, 0, none⟩) (show w.heap.size ≤ w.heap.size + 1 by omega) (.slice none 0 0)).setCell (p := ⟨w.heap.size + 1, 1, none⟩) (show w.heap.size ≤ w.heap.size + 1 by omega) (.int .i64 0)).setCell (p := ⟨w.heap.size + 1, 2, none⟩) (show w.heap.size ≤ w.heap.size + 1 by omega) (.slice none 0 0)).setCell (p := ⟨w.heap.size + 1, 3, none⟩) (show w.heap.size ≤ w.heap.size + 1 by omega) (.slice none 0 0))
      have HR5 := Sp.hid hR5
      have Hrev := Sp.hid (show Nf.revErr ⟨so, sn, scap, sig, 3000, ao, an, acap, arcs, eo, en, ecap, ends⟩ = 3 by
        unfold Nf.revErr
        rw [Hre.out, if_neg (by simp), if_pos (show (3000 : Int) = 3000 ∨ 60000 < arcs.length + ends.length from Or.inl rfl)])
      clear hR5 nB2 nR2 hb2
      go_wp2_with fail
      obtain ⟨w6, hw6⟩ : ∃ w6, (((w2.setCell ⟨w.heap.size + 1, 0, none⟩ (.slice none 0 0)).setCell ⟨w.heap.size + 1, 1, none⟩ (.int .i64 0)).setCell ⟨w.heap.size + 1, 2, none⟩ (.slice none 0 0)).setCell ⟨w.heap.size + 1, 3, none⟩ (.slice none 0 0) = w6 := ⟨_, rfl⟩
      rw [hw6] at B05 HR5 ⊢
      have q0 := Nf.blk_cell (i := 0) (v := .slice none 0 0) HR5.out rfl
      have q1 := Nf.blk_cell (i := 1) (v := .int .i64 0) HR5.out rfl
      have q2 := Nf.blk_cell (i := 2) (v := .slice none 0 0) HR5.out rfl
      have q3 := Nf.blk_cell (i := 3) (v := .slice none 0 0) HR5.out rfl
      refine bodyPost_ret (v := .tuple #[.agg #[.slice none 0 0, .int .i64 0, .slice none 0 0, .slice none 0 0], .int .i64 3]) (by simp [results, Try.results19, go_sem, Try.underlying26, Try.isAgg26, Try.sizeOf26, q0, q1, q2, q3]) rfl ?_
      exact ⟨Nf.zeroNet, by rw [Hrev.out]; rfl, Nf.zeroNet_at _, B05.out, fun h => absurd (Hrev.out.symm.trans h) HNE.out, fun _ => ⟨rfl, rfl, rfl, rfl⟩⟩
    · by_cases h2 : 60000 < an + en
      · skip
        have HNE := Sp.hid (show (3 : Int) ≠ 0 by decide)
        have hst : (st == 3000) = false := by simpa using h1
        have hd1 : decide ((60000 : Int) < (an : Int) + (en : Int)) = true := by simp; omega
        go_enter Try.func19, Try.ntmps19
        go_wp2_with fail
        rw [Hw1.out]
        refine HV.out.mono ?_
        rintro e w2 ⟨rfl, hb2⟩
        have nB2 := Nf.blk_below NB.out hb2 (Nf.blk_lt NB.out)
        have nR2 := Nf.blk_below NR.out hb2 (Nf.blk_lt NR.out)
        have B02 := Sp.hid (B01.out.trans (hb2.mono B01.out.size))
        have d1 : w2.cell? ⟨w.heap.size, 1, none⟩ = some (.int .i64 st) := Nf.blk_cell (i := 1) nB2 rfl
        have d2 : w2.cell? ⟨w.heap.size, 2, none⟩ = some (.slice ao an acap) := Nf.blk_cell (i := 2) nB2 rfl
        have d3 : w2.cell? ⟨w.heap.size, 3, none⟩ = some (.slice eo en ecap) := Nf.blk_cell (i := 3) nB2 rfl
        have y0 : w2.cell? ⟨w.heap.size + 1, 0, none⟩ = some (.slice none 0 0) := Nf.blk_cell (i := 0) nR2 rfl
        have y1 : w2.cell? ⟨w.heap.size + 1, 1, none⟩ = some (.int .i64 0) := Nf.blk_cell (i := 1) nR2 rfl
        have y2 : w2.cell? ⟨w.heap.size + 1, 2, none⟩ = some (.slice none 0 0) := Nf.blk_cell (i := 2) nR2 rfl
        have y3 : w2.cell? ⟨w.heap.size + 1, 3, none⟩ = some (.slice none 0 0) := Nf.blk_cell (i := 3) nR2 rfl
        have f0 := Nf.blk_free (i := 0) nR2
        have f1 := Nf.blk_free (i := 1) nR2
        have f2 := Nf.blk_free (i := 2) nR2
        have f3 := Nf.blk_free (i := 3) nR2
        have hR5 := Nf.blk_set (i := 3) (Nf.blk_set (i := 2) (Nf.blk_set (i := 1) (Nf.blk_set (i := 0) nR2 (.slice none 0 0)) (.int .i64 0)) (.slice none 0 0)) (.slice none 0 0)
        have B05 := Sp.hid ((((B02.out.setCell (p := ⟨w.heap.size + 1, 0, none⟩) (show w.heap.size ≤ w.heap.size + 1 by omega) (.slice none 0 0)).setCell (p := ⟨w.heap.size + 1, 1, none⟩) (show w.heap.size ≤ w.heap.size + 1 by omega) (.int .i64 0)).setCell (p := ⟨w.heap.size + 1, 2, none⟩) (show w.heap.size ≤ w.heap.size + 1 by omega) (.slice none 0 0)).setCell (p := ⟨w.heap.size + 1, 3, none⟩) (show w.heap.size ≤ w.heap.size + 1 by omega) (.slice none 0 0))
        have HR5 := Sp.hid hR5
        have Hrev := Sp.hid (show Nf.revErr ⟨so, sn, scap, sig, st, ao, an, acap, arcs, eo, en, ecap, ends⟩ = 3 by
          unfold Nf.revErr
          rw [Hre.out, if_neg (by simp), if_pos (show st = 3000 ∨ 60000 < arcs.length + ends.length from (Or.inr (by have h8 : arcs.length = an := Hla.out; have h9 : ends.length = en := Hle.out; omega)))])
        clear hR5 nB2 nR2 hb2
        go_wp2_with fail
        obtain ⟨w6, hw6⟩ : ∃ w6, (((w2.setCell ⟨w.heap.size + 1, 0, none⟩ (.slice none 0 0)).setCell ⟨w.heap.size + 1, 1, none⟩ (.int .i64 0)).setCell ⟨w.heap.size + 1, 2, none⟩ (.slice none 0 0)).setCell ⟨w.heap.size + 1, 3, none⟩ (.slice none 0 0) = w6 := ⟨_, rfl⟩
        rw [hw6] at B05 HR5 ⊢
        have q0 := Nf.blk_cell (i := 0) (v := .slice none 0 0) HR5.out rfl
        have q1 := Nf.blk_cell (i := 1) (v := .int .i64 0) HR5.out rfl
        have q2 := Nf.blk_cell (i := 2) (v := .slice none 0 0) HR5.out rfl
        have q3 := Nf.blk_cell (i := 3) (v := .slice none 0 0) HR5.out rfl
        refine bodyPost_ret (v := .tuple #[.agg #[.slice none 0 0, .int .i64 0, .slice none 0 0, .slice none 0 0], .int .i64 3]) (by simp [results, Try.results19, go_sem, Try.underlying26, Try.isAgg26, Try.sizeOf26, q0, q1, q2, q3]) rfl ?_
        exact ⟨Nf.zeroNet, by rw [Hrev.out]; rfl, Nf.zeroNet_at _, B05.out, fun h => absurd (Hrev.out.symm.trans h) HNE.out, fun _ => ⟨rfl, rfl, rfl, rfl⟩⟩
      · have hst : (st == 3000) = false := by simpa using h1
        have hd1 : decide ((60000 : Int) < (an : Int) + (en : Int)) = false := by simp; omega
        go_enter Try.func19, Try.ntmps19
        go_wp2_with fail
        rw [Hw1.out]
        refine HV.out.mono ?_
        rintro e w2 ⟨rfl, hb2⟩
        have nB2 := Nf.blk_below NB.out hb2 (Nf.blk_lt NB.out)
        have nR2 := Nf.blk_below NR.out hb2 (Nf.blk_lt NR.out)
        have B02 := Sp.hid (B01.out.trans (hb2.mono B01.out.size))
        have d0 : w2.cell? ⟨w.heap.size, 0, none⟩ = some (.slice so sn scap) := Nf.blk_cell (i := 0) nB2 rfl
        have d1 : w2.cell? ⟨w.heap.size, 1, none⟩ = some (.int .i64 st) := Nf.blk_cell (i := 1) nB2 rfl
        have d2 : w2.cell? ⟨w.heap.size, 2, none⟩ = some (.slice ao an acap) := Nf.blk_cell (i := 2) nB2 rfl
        have d3 : w2.cell? ⟨w.heap.size, 3, none⟩ = some (.slice eo en ecap) := Nf.blk_cell (i := 3) nB2 rfl
        have NB2 := Sp.hid nB2
        have NR2 := Sp.hid nR2
        clear hb2 nB2 nR2
        go_wp2_with fail
        go_cut [5] (fun s5 wx => ∃ rB eB sv, s5 = .pointer (some ⟨rB, 0, none⟩) ∧ Nf.RvAt w wx w.heap.size (w.heap.size + 1) rB eB #[.slice so sn scap, .int .i64 st, .slice ao an acap, .slice eo en ecap] sv sig (st + 1) [] (.slice none 0 0))
        case first =>
          have HCl : RowKit.Hid (∀ w5 : World, RowKit.Hid (Below w2.heap.size w2 w5) → Calls Try.prog 34 #[.slice so sn scap] w5 (fun e w6 => ∃ so' sn' scap', e = .returned (.slice so' sn' scap') ∧ RowKit.Hid (w6.ownsRow w.heap.size 9 1 (.slice so' sn' scap') sig.length (sig.map Value.string)) ∧ RowKit.Hid (Below w2.heap.size w2 w6) ∧ RowKit.Hid (Below w5.heap.size w5 w6) ∧ w6.cell? ⟨w.heap.size, 0, none⟩ = some (.slice so sn scap) ∧ w6.cell? ⟨w.heap.size, 1, none⟩ = some (.int .i64 st) ∧ w.heap.size < w6.heap.size)) := Sp.hid (fun w5 hb => by
            have hb5 := B02.out.trans (hb.out.mono B02.out.size)
            refine (cloneOwn_any so sn scap sig w5 (HN.out.sig.below hb5) hr).mono ?_
            rintro e w6 ⟨sv, rfl, hown, hbel⟩
            have hb6 := hb.out.trans (hbel.mono hb.out.size)
            have k := Nf.blk_below NB2.out hb6 (Nf.blk_lt NB2.out)
            obtain ⟨so', scap', rfl, _, _⟩ := Nf.row_of_own hown (by have := HN.out.sig.2.1; rw [HN.out.sig.1]; exact this) HN.out.sig.2.2.2
            exact ⟨so', _, scap', rfl, Sp.hid (Nf.own_base hown hb5.size), Sp.hid hb6, Sp.hid hbel, Nf.blk_cell (i := 0) k rfl, Nf.blk_cell (i := 1) k rfl, Nf.blk_lt k⟩)
          have HClZ : RowKit.Hid (∀ (w5 : World) (zb : Nat), RowKit.Hid (Below w2.heap.size w2 w5) → RowKit.Hid (w5.heap[zb]? = some (.cells #[.slice none 0 0, .int .i64 0, .slice none 0 0, .slice none 0 0] 26 (0, 0))) → Calls Try.prog 34 #[.slice so sn scap] w5 (fun e w6 => ∃ so' sn' scap', e = .returned (.slice so' sn' scap') ∧ RowKit.Hid (w6.ownsRow w.heap.size 9 1 (.slice so' sn' scap') sig.length (sig.map Value.string)) ∧ RowKit.Hid (Below w2.heap.size w2 w6) ∧ RowKit.Hid (Below w5.heap.size w5 w6) ∧ RowKit.Hid (w6.heap[zb]? = some (.cells #[.slice none 0 0, .int .i64 0, .slice none 0 0, .slice none 0 0] 26 (0, 0))) ∧ w6.cell? ⟨w.heap.size, 0, none⟩ = some (.slice so sn scap) ∧ w6.cell? ⟨w.heap.size, 1, none⟩ = some (.int .i64 st) ∧
              (w6.cell? ⟨zb, 0, none⟩ = some (.slice none 0 0) ∧ w6.cell? ⟨zb, 1, none⟩ = some (.int .i64 0) ∧ w6.cell? ⟨zb, 2, none⟩ = some (.slice none 0 0) ∧ w6.cell? ⟨zb, 3, none⟩ = some (.slice none 0 0)) ∧ (w6.frozen? ⟨zb, 0, none⟩ = false ∧ w6.frozen? ⟨zb, 1, none⟩ = false ∧ w6.frozen? ⟨zb, 2, none⟩ = false ∧ w6.frozen? ⟨zb, 3, none⟩ = false) ∧ zb < w6.heap.size ∧ w.heap.size < w6.heap.size)) := Sp.hid (fun w5 zb hb hz => by
            have hb5 := B02.out.trans (hb.out.mono B02.out.size)
            refine (cloneOwn_any so sn scap sig w5 (HN.out.sig.below hb5) hr).mono ?_
            rintro e w6 ⟨sv, rfl, hown, hbel⟩
            have hb6 := hb.out.trans (hbel.mono hb.out.size)
            have k := Nf.blk_below NB2.out hb6 (Nf.blk_lt NB2.out)
            have kz := Nf.blk_below hz.out hbel (Nf.blk_lt hz.out)
            obtain ⟨so', scap', rfl, _, _⟩ := Nf.row_of_own hown (by have := HN.out.sig.2.1; rw [HN.out.sig.1]; exact this) HN.out.sig.2.2.2
            exact ⟨so', _, scap', rfl, Sp.hid (Nf.own_base hown hb5.size), Sp.hid hb6, Sp.hid hbel, Sp.hid kz, Nf.blk_cell (i := 0) k rfl, Nf.blk_cell (i := 1) k rfl, ⟨Nf.blk_cell (i := 0) kz rfl, Nf.blk_cell (i := 1) kz rfl, Nf.blk_cell (i := 2) kz rfl, Nf.blk_cell (i := 3) kz rfl⟩, ⟨Nf.blk_free (i := 0) kz, Nf.blk_free (i := 1) kz, Nf.blk_free (i := 2) kz, Nf.blk_free (i := 3) kz⟩, Nf.blk_lt kz, Nf.blk_lt k⟩)
          have lB := Nf.blk_lt NR2.out
          have q1 : w.heap.size ≠ w2.heap.size := by omega
          have q2 : w.heap.size ≠ w2.heap.size + 1 := by omega
          have q3 : w2.heap.size ≠ w.heap.size := by omega
          have q4 : w2.heap.size + 1 ≠ w.heap.size := by omega
          have hwr : IntKind.i64.wrap (st + 1) = st + 1 := IntWalk.i64_in _ (by omega)
          go_region_held3 (fun w' => w'.cell? ⟨w.heap.size, 0, none⟩ = some (.slice so sn scap) ∧ w'.cell? ⟨w.heap.size, 1, none⟩ = some (.int .i64 st)) (go_keep) ((first
            | (go_at_call 34; refine (HClZ.out _ w2.heap.size (Sp.hid (by first | exact ((Below.refl _ w2).alloc (Nat.le_refl _) _).drew | exact (((Below.refl _ w2).alloc (Nat.le_refl _) _).alloc (by simp) _).drew)) (Sp.hid (by first | exact Nf.Below.heap_new w2 _ | exact Nf.blk_alloc (Nf.Below.heap_new w2 _) _))).mono ?_; rintro e w3 ⟨so', sn', scap', rfl, Hown3, Hbel3, Hb53, Hkz, k30, k31, ⟨z0, z1, z2, z3⟩, ⟨y0, y1, y2, y3⟩, lz, lw⟩)
            | (go_at_call 34; refine (HClZ.out _ (w2.heap.size + 1) (Sp.hid (by first | exact ((Below.refl _ w2).alloc (Nat.le_refl _) _).drew | exact (((Below.refl _ w2).alloc (Nat.le_refl _) _).alloc (by simp) _).drew)) (Sp.hid (by have h := Nf.Below.heap_new (w2.alloc (.cells #[.int .i64 1, .int .i64 0] 55)) (.cells #[.slice none 0 0, .int .i64 0, .slice none 0 0, .slice none 0 0] 26); simp only [World.size_alloc] at h; exact h))).mono ?_; rintro e w3 ⟨so', sn', scap', rfl, Hown3, Hbel3, Hb53, Hkz, k30, k31, ⟨z0, z1, z2, z3⟩, ⟨y0, y1, y2, y3⟩, lz, lw⟩)
            | (go_at_call 34; refine (HCl.out _ (Sp.hid (by first | exact (Below.refl _ w2).drew | exact ((Below.refl _ w2).alloc (Nat.le_refl _) _).drew))).mono ?_; rintro e w3 ⟨so', sn', scap', rfl, Hown3, Hbel3, Hb53, k30, k31, lw⟩)))
          · go_wp2_with fail
            go_meet
            have hz3 := Hbel3.out.size
            have hRw : w.heap.size ≤ w.heap.size + 1 := by omega
            have g1 : Below w2.heap.size w2 ((w3.alloc (.cells #[.int .i64 1, .int .i64 0] 55)).alloc (.cells #[.slice so' sn' scap', .int .i64 (st + 1), .slice none 0 0, .slice (some ⟨w3.heap.size, 0, none⟩) 1 1] 26)) := (Hbel3.out.alloc hz3 _).alloc (by rw [World.size_alloc]; omega) _
            have g2 : w2.heap.size ≤ (w3.heap.size + 1) := by omega
            have g3 : ((w3.alloc (.cells #[.int .i64 1, .int .i64 0] 55)).alloc (.cells #[.slice so' sn' scap', .int .i64 (st + 1), .slice none 0 0, .slice (some ⟨w3.heap.size, 0, none⟩) 1 1] 26)).heap[(w3.heap.size + 1)]? = some (.cells #[.slice so' sn' scap', .int .i64 (st + 1), .slice none 0 0, .slice (some ⟨w3.heap.size, 0, none⟩) 1 1] 26 (0, 0)) := by have h := Nf.Below.heap_new (w3.alloc (.cells #[.int .i64 1, .int .i64 0] 55)) (.cells #[.slice so' sn' scap', .int .i64 (st + 1), .slice none 0 0, .slice (some ⟨w3.heap.size, 0, none⟩) 1 1] 26); rwa [World.size_alloc] at h
            have g4 : ((w3.alloc (.cells #[.int .i64 1, .int .i64 0] 55)).alloc (.cells #[.slice so' sn' scap', .int .i64 (st + 1), .slice none 0 0, .slice (some ⟨w3.heap.size, 0, none⟩) 1 1] 26)).heap[w3.heap.size]? = some (.cells #[.int .i64 1, .int .i64 0] 55 (0, 0)) := Nf.blk_alloc (Nf.Below.heap_new w3 _) _
            have g5 : ((w3.alloc (.cells #[.int .i64 1, .int .i64 0] 55)).alloc (.cells #[.slice so' sn' scap', .int .i64 (st + 1), .slice none 0 0, .slice (some ⟨w3.heap.size, 0, none⟩) 1 1] 26)).ownsRow w.heap.size 9 1 (.slice so' sn' scap') sig.length (sig.map Value.string) := (Hown3.out.alloc _).alloc _
            exact ⟨(w3.heap.size + 1), w3.heap.size, .slice so' sn' scap', rfl, Nf.RvAt.start NB2.out NR2.out B02.out hRw g1 g2 g3 g4 g5⟩
          · go_wp2_with fail
            go_meet
            have hz3 := Hbel3.out.size
            have hRw : w.heap.size ≤ w.heap.size + 1 := by omega
            have g1 : Below w2.heap.size w2 ((w3.alloc (.cells #[.slice so' sn' scap', .int .i64 (st + 1), .slice none 0 0, .slice (some ⟨w3.heap.size + 1, 0, none⟩) 1 1] 26)).alloc (.cells #[.int .i64 1, .int .i64 0] 55)) := (Hbel3.out.alloc hz3 _).alloc (by rw [World.size_alloc]; omega) _
            have g2 : w2.heap.size ≤ w3.heap.size := hz3
            have g3 : ((w3.alloc (.cells #[.slice so' sn' scap', .int .i64 (st + 1), .slice none 0 0, .slice (some ⟨w3.heap.size + 1, 0, none⟩) 1 1] 26)).alloc (.cells #[.int .i64 1, .int .i64 0] 55)).heap[w3.heap.size]? = some (.cells #[.slice so' sn' scap', .int .i64 (st + 1), .slice none 0 0, .slice (some ⟨(w3.heap.size + 1), 0, none⟩) 1 1] 26 (0, 0)) := Nf.blk_alloc (Nf.Below.heap_new w3 _) _
            have g4 : ((w3.alloc (.cells #[.slice so' sn' scap', .int .i64 (st + 1), .slice none 0 0, .slice (some ⟨w3.heap.size + 1, 0, none⟩) 1 1] 26)).alloc (.cells #[.int .i64 1, .int .i64 0] 55)).heap[(w3.heap.size + 1)]? = some (.cells #[.int .i64 1, .int .i64 0] 55 (0, 0)) := by have h := Nf.Below.heap_new (w3.alloc (.cells #[.slice so' sn' scap', .int .i64 (st + 1), .slice none 0 0, .slice (some ⟨w3.heap.size + 1, 0, none⟩) 1 1] 26)) (.cells #[.int .i64 1, .int .i64 0] 55); rwa [World.size_alloc] at h
            have g5 : ((w3.alloc (.cells #[.slice so' sn' scap', .int .i64 (st + 1), .slice none 0 0, .slice (some ⟨w3.heap.size + 1, 0, none⟩) 1 1] 26)).alloc (.cells #[.int .i64 1, .int .i64 0] 55)).ownsRow w.heap.size 9 1 (.slice so' sn' scap') sig.length (sig.map Value.string) := (Hown3.out.alloc _).alloc _
            exact ⟨w3.heap.size, (w3.heap.size + 1), .slice so' sn' scap', rfl, Nf.RvAt.start NB2.out NR2.out B02.out hRw g1 g2 g3 g4 g5⟩
          · go_wp2_with fail
            go_meet
            have hz3 := Hbel3.out.size
            have hRw : w.heap.size ≤ w.heap.size + 1 := by omega
            have g1 : Below w2.heap.size w2 (w3.alloc (.cells #[.slice so' sn' scap', .int .i64 (st + 1), .slice none 0 0, .slice (some ⟨w2.heap.size, 0, none⟩) 1 1] 26)) := Hbel3.out.alloc hz3 _
            have g2 : w2.heap.size ≤ w3.heap.size := hz3
            have g3 : (w3.alloc (.cells #[.slice so' sn' scap', .int .i64 (st + 1), .slice none 0 0, .slice (some ⟨w2.heap.size, 0, none⟩) 1 1] 26)).heap[w3.heap.size]? = some (.cells #[.slice so' sn' scap', .int .i64 (st + 1), .slice none 0 0, .slice (some ⟨w2.heap.size, 0, none⟩) 1 1] 26 (0, 0)) := Nf.Below.heap_new w3 _
            have g4 : (w3.alloc (.cells #[.slice so' sn' scap', .int .i64 (st + 1), .slice none 0 0, .slice (some ⟨w2.heap.size, 0, none⟩) 1 1] 26)).heap[w2.heap.size]? = some (.cells #[.int .i64 1, .int .i64 0] 55 (0, 0)) := Nf.blk_alloc (Nf.blk_below (Nf.blk_drew (Nf.Below.heap_new w2 (.cells #[.int .i64 1, .int .i64 0] 55))) Hb53.out (by show w2.heap.size < (w2.alloc (.cells #[.int .i64 1, .int .i64 0] 55)).heap.size; rw [World.size_alloc]; omega)) _
            have g5 : (w3.alloc (.cells #[.slice so' sn' scap', .int .i64 (st + 1), .slice none 0 0, .slice (some ⟨w2.heap.size, 0, none⟩) 1 1] 26)).ownsRow w.heap.size 9 1 (.slice so' sn' scap') sig.length (sig.map Value.string) := Hown3.out.alloc _
            exact ⟨w3.heap.size, w2.heap.size, .slice so' sn' scap', rfl, Nf.RvAt.start NB2.out NR2.out B02.out hRw g1 g2 g3 g4 g5⟩
          · go_wp2_with fail
            go_meet
            have hz3 := Hbel3.out.size
            have hRw : w.heap.size ≤ w.heap.size + 1 := by omega
            obtain ⟨s1, s2, s3, s4, s5⟩ := Nf.rv_set4 Hkz.out (.slice so' sn' scap') (.int .i64 (st + 1)) (.slice none 0 0) (.slice (some ⟨w2.heap.size, 0, none⟩) 1 1) rfl
            have g1 : Below w2.heap.size w2 ((((w3.setCell ⟨w2.heap.size + 1, 0, none⟩ (.slice so' sn' scap')).setCell ⟨w2.heap.size + 1, 1, none⟩ (.int .i64 (st + 1))).setCell ⟨w2.heap.size + 1, 2, none⟩ (.slice none 0 0)).setCell ⟨w2.heap.size + 1, 3, none⟩ (.slice (some ⟨w2.heap.size, 0, none⟩) 1 1)) := s5 _ _ Hbel3.out (by omega)
            have g2 : w2.heap.size ≤ (w2.heap.size + 1) := by omega
            have g3 : ((((w3.setCell ⟨w2.heap.size + 1, 0, none⟩ (.slice so' sn' scap')).setCell ⟨w2.heap.size + 1, 1, none⟩ (.int .i64 (st + 1))).setCell ⟨w2.heap.size + 1, 2, none⟩ (.slice none 0 0)).setCell ⟨w2.heap.size + 1, 3, none⟩ (.slice (some ⟨w2.heap.size, 0, none⟩) 1 1)).heap[(w2.heap.size + 1)]? = some (.cells #[.slice so' sn' scap', .int .i64 (st + 1), .slice none 0 0, .slice (some ⟨w2.heap.size, 0, none⟩) 1 1] 26 (0, 0)) := s1
            have g4 : ((((w3.setCell ⟨w2.heap.size + 1, 0, none⟩ (.slice so' sn' scap')).setCell ⟨w2.heap.size + 1, 1, none⟩ (.int .i64 (st + 1))).setCell ⟨w2.heap.size + 1, 2, none⟩ (.slice none 0 0)).setCell ⟨w2.heap.size + 1, 3, none⟩ (.slice (some ⟨w2.heap.size, 0, none⟩) 1 1)).heap[w2.heap.size]? = some (.cells #[.int .i64 1, .int .i64 0] 55 (0, 0)) := s2 _ _ (by omega) (Nf.blk_below (Nf.blk_drew (Nf.blk_alloc (Nf.Below.heap_new w2 (.cells #[.int .i64 1, .int .i64 0] 55)) _)) Hb53.out (by show w2.heap.size < ((w2.alloc (.cells #[.int .i64 1, .int .i64 0] 55)).alloc (.cells #[.slice none 0 0, .int .i64 0, .slice none 0 0, .slice none 0 0] 26)).heap.size; rw [World.size_alloc, World.size_alloc]; omega))
            have g5 : ((((w3.setCell ⟨w2.heap.size + 1, 0, none⟩ (.slice so' sn' scap')).setCell ⟨w2.heap.size + 1, 1, none⟩ (.int .i64 (st + 1))).setCell ⟨w2.heap.size + 1, 2, none⟩ (.slice none 0 0)).setCell ⟨w2.heap.size + 1, 3, none⟩ (.slice (some ⟨w2.heap.size, 0, none⟩) 1 1)).ownsRow w.heap.size 9 1 (.slice so' sn' scap') sig.length (sig.map Value.string) := s3 _ _ _ _ Hown3.out
            exact ⟨(w2.heap.size + 1), w2.heap.size, .slice so' sn' scap', rfl, Nf.RvAt.start NB2.out NR2.out B02.out hRw g1 g2 g3 g4 g5⟩
          · go_wp2_with fail
            go_meet
            have hz3 := Hbel3.out.size
            have hRw : w.heap.size ≤ w.heap.size + 1 := by omega
            obtain ⟨s1, s2, s3, s4, s5⟩ := Nf.rv_set4 Hkz.out (.slice so' sn' scap') (.int .i64 (st + 1)) (.slice none 0 0) (.slice (some ⟨w3.heap.size, 0, none⟩) 1 1) rfl
            have g1 : Below w2.heap.size w2 (((((w3.setCell ⟨w2.heap.size, 0, none⟩ (.slice so' sn' scap')).setCell ⟨w2.heap.size, 1, none⟩ (.int .i64 (st + 1))).setCell ⟨w2.heap.size, 2, none⟩ (.slice none 0 0)).setCell ⟨w2.heap.size, 3, none⟩ (.slice (some ⟨w3.heap.size, 0, none⟩) 1 1)).alloc (.cells #[.int .i64 1, .int .i64 0] 55)) := (s5 _ _ Hbel3.out (Nat.le_refl _)).alloc (by rw [s4]; exact hz3) _
            have g2 : w2.heap.size ≤ w2.heap.size := Nat.le_refl _
            have g3 : (((((w3.setCell ⟨w2.heap.size, 0, none⟩ (.slice so' sn' scap')).setCell ⟨w2.heap.size, 1, none⟩ (.int .i64 (st + 1))).setCell ⟨w2.heap.size, 2, none⟩ (.slice none 0 0)).setCell ⟨w2.heap.size, 3, none⟩ (.slice (some ⟨w3.heap.size, 0, none⟩) 1 1)).alloc (.cells #[.int .i64 1, .int .i64 0] 55)).heap[w2.heap.size]? = some (.cells #[.slice so' sn' scap', .int .i64 (st + 1), .slice none 0 0, .slice (some ⟨w3.heap.size, 0, none⟩) 1 1] 26 (0, 0)) := Nf.blk_alloc s1 _
            have g4 : (((((w3.setCell ⟨w2.heap.size, 0, none⟩ (.slice so' sn' scap')).setCell ⟨w2.heap.size, 1, none⟩ (.int .i64 (st + 1))).setCell ⟨w2.heap.size, 2, none⟩ (.slice none 0 0)).setCell ⟨w2.heap.size, 3, none⟩ (.slice (some ⟨w3.heap.size, 0, none⟩) 1 1)).alloc (.cells #[.int .i64 1, .int .i64 0] 55)).heap[w3.heap.size]? = some (.cells #[.int .i64 1, .int .i64 0] 55 (0, 0)) := by have h := Nf.Below.heap_new ((((w3.setCell ⟨w2.heap.size, 0, none⟩ (.slice so' sn' scap')).setCell ⟨w2.heap.size, 1, none⟩ (.int .i64 (st + 1))).setCell ⟨w2.heap.size, 2, none⟩ (.slice none 0 0)).setCell ⟨w2.heap.size, 3, none⟩ (.slice (some ⟨w3.heap.size, 0, none⟩) 1 1)) (.cells #[.int .i64 1, .int .i64 0] 55); rwa [s4] at h
            have g5 : (((((w3.setCell ⟨w2.heap.size, 0, none⟩ (.slice so' sn' scap')).setCell ⟨w2.heap.size, 1, none⟩ (.int .i64 (st + 1))).setCell ⟨w2.heap.size, 2, none⟩ (.slice none 0 0)).setCell ⟨w2.heap.size, 3, none⟩ (.slice (some ⟨w3.heap.size, 0, none⟩) 1 1)).alloc (.cells #[.int .i64 1, .int .i64 0] 55)).ownsRow w.heap.size 9 1 (.slice so' sn' scap') sig.length (sig.map Value.string) := (s3 _ _ _ _ Hown3.out).alloc _
            exact ⟨w2.heap.size, w3.heap.size, .slice so' sn' scap', rfl, Nf.RvAt.start NB2.out NR2.out B02.out hRw g1 g2 g3 g4 g5⟩
          · go_wp2_with fail
            go_meet
            have hz3 := Hbel3.out.size
            have hRw : w.heap.size ≤ w.heap.size + 1 := by omega
            obtain ⟨s1, s2, s3, s4, s5⟩ := Nf.rv_set4 Hkz.out (.slice so' sn' scap') (.int .i64 (st + 1)) (.slice none 0 0) (.slice (some ⟨w2.heap.size + 1, 0, none⟩) 1 1) rfl
            have g1 : Below w2.heap.size w2 ((((w3.setCell ⟨w2.heap.size, 0, none⟩ (.slice so' sn' scap')).setCell ⟨w2.heap.size, 1, none⟩ (.int .i64 (st + 1))).setCell ⟨w2.heap.size, 2, none⟩ (.slice none 0 0)).setCell ⟨w2.heap.size, 3, none⟩ (.slice (some ⟨w2.heap.size + 1, 0, none⟩) 1 1)) := s5 _ _ Hbel3.out (Nat.le_refl _)
            have g2 : w2.heap.size ≤ w2.heap.size := Nat.le_refl _
            have g3 : ((((w3.setCell ⟨w2.heap.size, 0, none⟩ (.slice so' sn' scap')).setCell ⟨w2.heap.size, 1, none⟩ (.int .i64 (st + 1))).setCell ⟨w2.heap.size, 2, none⟩ (.slice none 0 0)).setCell ⟨w2.heap.size, 3, none⟩ (.slice (some ⟨w2.heap.size + 1, 0, none⟩) 1 1)).heap[w2.heap.size]? = some (.cells #[.slice so' sn' scap', .int .i64 (st + 1), .slice none 0 0, .slice (some ⟨(w2.heap.size + 1), 0, none⟩) 1 1] 26 (0, 0)) := s1
            have g4 : ((((w3.setCell ⟨w2.heap.size, 0, none⟩ (.slice so' sn' scap')).setCell ⟨w2.heap.size, 1, none⟩ (.int .i64 (st + 1))).setCell ⟨w2.heap.size, 2, none⟩ (.slice none 0 0)).setCell ⟨w2.heap.size, 3, none⟩ (.slice (some ⟨w2.heap.size + 1, 0, none⟩) 1 1)).heap[(w2.heap.size + 1)]? = some (.cells #[.int .i64 1, .int .i64 0] 55 (0, 0)) := s2 _ _ (by omega) (Nf.blk_below (by have h := Nf.Below.heap_new (w2.alloc (.cells #[.slice none 0 0, .int .i64 0, .slice none 0 0, .slice none 0 0] 26)) (.cells #[.int .i64 1, .int .i64 0] 55); rwa [World.size_alloc] at h) Hb53.out (by show w2.heap.size + 1 < ((w2.alloc (.cells #[.slice none 0 0, .int .i64 0, .slice none 0 0, .slice none 0 0] 26)).alloc (.cells #[.int .i64 1, .int .i64 0] 55)).heap.size; rw [World.size_alloc, World.size_alloc]; omega))
            have g5 : ((((w3.setCell ⟨w2.heap.size, 0, none⟩ (.slice so' sn' scap')).setCell ⟨w2.heap.size, 1, none⟩ (.int .i64 (st + 1))).setCell ⟨w2.heap.size, 2, none⟩ (.slice none 0 0)).setCell ⟨w2.heap.size, 3, none⟩ (.slice (some ⟨w2.heap.size + 1, 0, none⟩) 1 1)).ownsRow w.heap.size 9 1 (.slice so' sn' scap') sig.length (sig.map Value.string) := s3 _ _ _ _ Hown3.out
            exact ⟨w2.heap.size, (w2.heap.size + 1), .slice so' sn' scap', rfl, Nf.RvAt.start NB2.out NR2.out B02.out hRw g1 g2 g3 g4 g5⟩
        case rest =>
          clear d0 d1 d2 d3
          obtain ⟨rB, eB, sv, rfl, hRv⟩ := hcut
          have HRv := Sp.hid hRv
          have d3 := Nf.blk_cell (i := 3) (v := .slice eo en ecap) hRv.nblk rfl
          clear hRv
          go_wp2_with fail
          go_loopw [7, 42] (fun _ i wr => ∃ (k : Nat) (lv : Value), i = .int .i64 k ∧ k ≤ en ∧ Nf.RvAt w wr w.heap.size (w.heap.size + 1) rB eB #[.slice so sn scap, .int .i64 st, .slice ao an acap, .slice eo en ecap] sv sig (st + 1) ((ends.take k).map fun d => ⟨0, Nf.eps, Nf.eps, d.s + 1, 0⟩) lv) (fun _ i _ => en - (intOf i).toNat)
          case atStart => exact ⟨0, _, rfl, Nat.zero_le _, HRv.out⟩
          case round =>
            clear d3
            obtain ⟨k, lv, rfl, hk, hRv⟩ := hrel
            have HRv := Sp.hid hRv
            clear hRv
            by_cases hkn : k < en
            · have hlk : ((ends.take k).map fun d : EndV => (⟨0, Nf.eps, Nf.eps, d.s + 1, 0⟩ : ArcV)).length ≤ k := by simp; omega
              obtain ⟨LA, hLA⟩ : ∃ LA : List ArcV, ((ends.take k).map fun d : EndV => (⟨0, Nf.eps, Nf.eps, d.s + 1, 0⟩ : ArcV)) = LA := ⟨_, rfl⟩
              rw [hLA] at HRv hlk
              have HLA := Sp.hid hLA
              have Hlk := Sp.hid hlk
              clear hLA hlk
              obtain ⟨b, off, x, rfl, ⟨c0, c1⟩, hx, htk⟩ := (HN.out.ends.below HRv.out.below).at hkn
              obtain ⟨xs, xc⟩ := x
              simp only at c0 c1
              have hxs := (HE.out wr HRv.out.below).2.2.hd _ (List.mem_of_getElem? hx)
              simp only at hxs
              have hx1 : xs ≤ 3000 := by have h8 : st ≤ 3000 := (HE.out wr HRv.out.below).2.1; have h9 : st = (st.toNat : Int) := (HE.out wr HRv.out.below).1; omega
              have hR1 := HRv.out.alloc (.cells #[.int .i64 xs, .int .i64 xc] 55)
              have hd := Nf.Below.heap_new wr (.cells #[.int .i64 xs, .int .i64 xc] 55)
              have cL : (wr.alloc (.cells #[.int .i64 xs, .int .i64 xc] 55)).cell? ⟨rB, 2, none⟩ = some lv := Nf.blk_cell (i := 2) hR1.rblk rfl
              have cD : (wr.alloc (.cells #[.int .i64 xs, .int .i64 xc] 55)).cell? ⟨wr.heap.size, 0, none⟩ = some (.int .i64 xs) := Nf.blk_cell (i := 0) hd rfl
              have HR2 := Sp.hid (hR1.alloc (.cells #[.int .i64 0, .string ⟨#[]⟩, .string ⟨#[]⟩, .int .i64 (xs + 1), .int .i64 0] 53))
              have Hnew := Sp.hid (Nf.Below.heap_new (wr.alloc (.cells #[.int .i64 xs, .int .i64 xc] 55)) (.cells #[.int .i64 0, .string ⟨#[]⟩, .string ⟨#[]⟩, .int .i64 (xs + 1), .int .i64 0] 53))
              have Htk := Sp.hid htk
              have hx0 := hxs.1
              have hen := Hle.out
              have hen6 : en ≤ 60000 := (HE.out wr HRv.out.below).2.2.hen
              have Hk6 := Sp.hid (show k ≤ 1000000 by omega)
              clear hR1 hd htk hx hxs hen
              go_wp2_with (at_builtin; refine Nf.push_arc rfl _ _ rfl w.heap.size lv _ rfl HR2.out.lown ⟨0, Nf.eps, Nf.eps, xs + 1, 0⟩ (wr.heap.size + 1) 1 rfl ?c1 ?c2 ?c3 ?_)
              case c1 => have h := Hnew.out; simp at h ⊢; exact h
              case c2 => exact Nat.le_trans Hlk.out Hk6.out
              case c3 => have h := HR2.out.below.size; simpa using h
              intro v2 w5 hown5 hgrow5 hat5
              obtain ⟨g2, cap2, rfl⟩ := Nf.own_form hown5 (by simp)
              have hP := HR2.out.push (a := ⟨0, Nf.eps, Nf.eps, xs + 1, 0⟩) hgrow5 (by simpa using hown5)
              have hr5 := Nf.blk_grown HR2.out.rblk hgrow5 (Nf.own_ne HR2.out.lown HR2.out.rblk (by decide))
              have cL5 : w5.cell? ⟨rB, 2, none⟩ = some lv := Nf.blk_cell (i := 2) hr5 rfl
              have fL5 := Nf.blk_free (i := 2) hr5
              have HP := Sp.hid hP
              clear hP hr5 hown5 hgrow5 hat5
              go_wp2_with fail
              go_roundw
              case rel =>
                refine ⟨k + 1, .slice (some ⟨g2, 0, none⟩) (LA.length + 1) cap2, by go_num, hkn, ?_⟩
                rw [Htk.out, List.map_append, HLA.out]
                exact HP.out
              case measure => simp [intOf]; omega
            · have HRe := Sp.hid (show Nf.RvAt w wr w.heap.size (w.heap.size + 1) rB eB #[.slice so sn scap, .int .i64 st, .slice ao an acap, .slice eo en ecap] sv sig (st + 1) (ends.map fun d => ⟨0, Nf.eps, Nf.eps, d.s + 1, 0⟩) lv by
                have h := HRv.out
                rwa [List.take_of_length_le (show ends.length ≤ k by have h8 : ends.length = en := Hle.out; omega)] at h)
              have d2 := Nf.blk_cell (i := 2) (v := .slice ao an acap) HRe.out.nblk rfl
              clear HRv
              go_wp2_with fail
              rename World => wA
              go_loopw [9, 59] (fun _ i wr => ∃ (k : Nat) (lv : Value), i = .int .i64 k ∧ k ≤ an ∧ Nf.RvAt w wr w.heap.size (w.heap.size + 1) rB eB #[.slice so sn scap, .int .i64 st, .slice ao an acap, .slice eo en ecap] sv sig (st + 1) ((ends.map fun d => ⟨0, Nf.eps, Nf.eps, d.s + 1, 0⟩) ++ (arcs.take k).map fun a => ⟨a.t + 1, a.i, a.o, a.f + 1, 0⟩) lv) (fun _ i _ => an - (intOf i).toNat)
              case atStart => exact ⟨0, _, rfl, Nat.zero_le _, by simpa using HRe.out⟩
              case round =>
                clear d2 HRe
                obtain ⟨j, lv, rfl, hj, hRv⟩ := hrel
                have HRv := Sp.hid hRv
                clear hRv
                by_cases hjn : j < an
                · have hen6 : en ≤ 60000 := (HE.out wr HRv.out.below).2.2.hen
                  have han6 : an ≤ 60000 := (HE.out wr HRv.out.below).2.2.han
                  have hlk : ((ends.map fun d : EndV => (⟨0, Nf.eps, Nf.eps, d.s + 1, 0⟩ : ArcV)) ++ (arcs.take j).map fun a : ArcV => (⟨a.t + 1, a.i, a.o, a.f + 1, 0⟩ : ArcV)).length ≤ 1000000 := by
                    have h1 : ends.length = en := Hle.out
                    simp; omega
                  obtain ⟨LA, hLA⟩ : ∃ LA : List ArcV, ((ends.map fun d : EndV => (⟨0, Nf.eps, Nf.eps, d.s + 1, 0⟩ : ArcV)) ++ (arcs.take j).map fun a : ArcV => (⟨a.t + 1, a.i, a.o, a.f + 1, 0⟩ : ArcV)) = LA := ⟨_, rfl⟩
                  rw [hLA] at HRv hlk
                  have HLA := Sp.hid hLA
                  have Hlk := Sp.hid hlk
                  clear hLA hlk
                  obtain ⟨b, off, x, rfl, ⟨c0, c1, c2, c3, c4⟩, hi1, ho1, hx, htk⟩ := (HN.out.arcs.below HRv.out.below).at hjn
                  obtain ⟨xf, xi, xo, xt, xc⟩ := x
                  simp only at c0 c1 c2 c3 c4 hi1 ho1
                  have hxf := (HE.out wr HRv.out.below).2.2.hf _ (List.mem_of_getElem? hx)
                  have hxt := (HE.out wr HRv.out.below).2.2.ht _ (List.mem_of_getElem? hx)
                  simp only at hxf hxt
                  have h9 : st = (st.toNat : Int) := (HE.out wr HRv.out.below).1
                  have hf0 := hxf.1
                  have ht0 := hxt.1
                  have hf1 : xf ≤ 3000 := by omega
                  have ht1 : xt ≤ 3000 := by omega
                  have hR1 := HRv.out.alloc (.cells #[.int .i64 xf, .string xi, .string xo, .int .i64 xt, .int .i64 xc] 53)
                  have hd := Nf.Below.heap_new wr (.cells #[.int .i64 xf, .string xi, .string xo, .int .i64 xt, .int .i64 xc] 53)
                  have cL : (wr.alloc (.cells #[.int .i64 xf, .string xi, .string xo, .int .i64 xt, .int .i64 xc] 53)).cell? ⟨rB, 2, none⟩ = some lv := Nf.blk_cell (i := 2) hR1.rblk rfl
                  have cD0 : (wr.alloc (.cells #[.int .i64 xf, .string xi, .string xo, .int .i64 xt, .int .i64 xc] 53)).cell? ⟨wr.heap.size, 0, none⟩ = some (.int .i64 xf) := Nf.blk_cell (i := 0) hd rfl
                  have cD1 : (wr.alloc (.cells #[.int .i64 xf, .string xi, .string xo, .int .i64 xt, .int .i64 xc] 53)).cell? ⟨wr.heap.size, 1, none⟩ = some (.string xi) := Nf.blk_cell (i := 1) hd rfl
                  have cD2 : (wr.alloc (.cells #[.int .i64 xf, .string xi, .string xo, .int .i64 xt, .int .i64 xc] 53)).cell? ⟨wr.heap.size, 2, none⟩ = some (.string xo) := Nf.blk_cell (i := 2) hd rfl
                  have cD3 : (wr.alloc (.cells #[.int .i64 xf, .string xi, .string xo, .int .i64 xt, .int .i64 xc] 53)).cell? ⟨wr.heap.size, 3, none⟩ = some (.int .i64 xt) := Nf.blk_cell (i := 3) hd rfl
                  have HR2 := Sp.hid (hR1.alloc (.cells #[.int .i64 (xt + 1), .string xi, .string xo, .int .i64 (xf + 1), .int .i64 0] 53))
                  have Hnew := Sp.hid (Nf.Below.heap_new (wr.alloc (.cells #[.int .i64 xf, .string xi, .string xo, .int .i64 xt, .int .i64 xc] 53)) (.cells #[.int .i64 (xt + 1), .string xi, .string xo, .int .i64 (xf + 1), .int .i64 0] 53))
                  have Htk := Sp.hid htk
                  clear hR1 hd htk hx hxf hxt h9
                  go_wp2_with (at_builtin; refine Nf.push_arc rfl _ _ rfl w.heap.size lv _ rfl HR2.out.lown ⟨xt + 1, xi, xo, xf + 1, 0⟩ (wr.heap.size + 1) 1 rfl ?c4 ?c5 ?c6 ?_)
                  case c4 => simpa using Hnew.out
                  case c5 => exact Hlk.out
                  case c6 => have h := HR2.out.below.size; simpa using h
                  intro v2 w5 hown5 hgrow5 hat5
                  obtain ⟨g2, cap2, rfl⟩ := Nf.own_form hown5 (by simp)
                  have hP := HR2.out.push (a := ⟨xt + 1, xi, xo, xf + 1, 0⟩) hgrow5 (by simpa using hown5)
                  have hr5 := Nf.blk_grown HR2.out.rblk hgrow5 (Nf.own_ne HR2.out.lown HR2.out.rblk (by decide))
                  have cL5 : w5.cell? ⟨rB, 2, none⟩ = some lv := Nf.blk_cell (i := 2) hr5 rfl
                  have fL5 := Nf.blk_free (i := 2) hr5
                  have HP := Sp.hid hP
                  clear hP hr5 hown5 hgrow5 hat5
                  go_wp2_with fail
                  go_roundw
                  case rel =>
                    refine ⟨j + 1, .slice (some ⟨g2, 0, none⟩) (LA.length + 1) cap2, by go_num, hjn, ?_⟩
                    rw [Htk.out, List.map_append, ← List.append_assoc, HLA.out]
                    exact HP.out
                  case measure => simp [intOf]; omega
                · have hst3 : sig.length ≤ maxLen := by have h := HN.out.sig.1; simp only at h; rw [h]; exact HN.out.sig.2.1
                  have hRf : Nf.RvAt w wr w.heap.size (w.heap.size + 1) rB eB #[.slice so sn scap, .int .i64 st, .slice ao an acap, .slice eo en ecap] sv sig (st + 1) (Nf.turnArcs ⟨so, sn, scap, sig, st, ao, an, acap, arcs, eo, en, ecap, ends⟩) lv := by
                    have h := HRv.out
                    rw [List.take_of_length_le (show arcs.length ≤ j by have h8 : arcs.length = an := Hla.out; omega)] at h
                    exact h
                  have hsz : ∀ x ∈ Nf.turnArcs ⟨so, sn, scap, sig, st, ao, an, acap, arcs, eo, en, ecap, ends⟩, x.i.size ≤ maxLen ∧ x.o.size ≤ maxLen := by
                    intro x hx
                    rcases List.mem_append.1 hx with hx | hx
                    · obtain ⟨d, _, rfl⟩ := List.mem_map.1 hx
                      exact ⟨show Nf.eps.size ≤ maxLen by decide, show Nf.eps.size ≤ maxLen by decide⟩
                    · obtain ⟨a, ha, rfl⟩ := List.mem_map.1 hx
                      exact HN.out.arcs.2.2.2 a ha
                  have hln : (Nf.turnArcs ⟨so, sn, scap, sig, st, ao, an, acap, arcs, eo, en, ecap, ends⟩).length ≤ 60000 := by
                    have h8 : arcs.length = an := Hla.out
                    have h9 : ends.length = en := Hle.out
                    simp [Nf.turnArcs]; omega
                  obtain ⟨m, hm, hm1, hm2, hm3, hm4, hmall⟩ := hRf.res hln hsz HN.out.sig.2.2.2 hst3 (by omega) (by omega)
                  obtain ⟨mso, msn, mscap, msig, mst, mao, man, macap, marcs, meo, men, mecap, mends⟩ := m
                  simp only [Nf.Net.cells, Array.mk.injEq, List.cons.injEq, and_true] at hm
                  obtain ⟨rfl, hm5, rfl, hm6⟩ := hm
                  have k0 := Nf.blk_cell (i := 0) hRf.rblk rfl
                  have k1 : wr.cell? ⟨rB, 1, none⟩ = some (.int .i64 (st + 1)) := Nf.blk_cell (i := 1) hRf.rblk rfl
                  have k2 := Nf.blk_cell (i := 2) hRf.rblk rfl
                  have k3 : wr.cell? ⟨rB, 3, none⟩ = some (.slice (some ⟨eB, 0, none⟩) 1 1) := Nf.blk_cell (i := 3) hRf.rblk rfl
                  have y0 : wr.cell? ⟨w.heap.size + 1, 0, none⟩ = some (.slice none 0 0) := Nf.blk_cell (i := 0) hRf.zblk rfl
                  have y1 : wr.cell? ⟨w.heap.size + 1, 1, none⟩ = some (.int .i64 0) := Nf.blk_cell (i := 1) hRf.zblk rfl
                  have y2 : wr.cell? ⟨w.heap.size + 1, 2, none⟩ = some (.slice none 0 0) := Nf.blk_cell (i := 2) hRf.zblk rfl
                  have y3 : wr.cell? ⟨w.heap.size + 1, 3, none⟩ = some (.slice none 0 0) := Nf.blk_cell (i := 3) hRf.zblk rfl
                  have f0 := Nf.blk_free (i := 0) hRf.zblk
                  have f1 := Nf.blk_free (i := 1) hRf.zblk
                  have f2 := Nf.blk_free (i := 2) hRf.zblk
                  have f3 := Nf.blk_free (i := 3) hRf.zblk
                  have Hm := Sp.hid (hmall (.slice mso msn mscap) (.int .i64 (st + 1)) (.slice mao man macap) (.slice (some ⟨eB, 0, none⟩) 1 1))
                  have Hmc := Sp.hid (show #[Value.slice mso msn mscap, .int .i64 (st + 1), .slice mao man macap, .slice (some ⟨eB, 0, none⟩) 1 1] = (⟨mso, msn, mscap, msig, mst, mao, man, macap, marcs, meo, men, mecap, mends⟩ : Nf.Net).cells by simp only [Nf.Net.cells]; rw [hm5, hm6])
                  have Ht := Sp.hid (show Nf.IsTurn ⟨so, sn, scap, sig, st, ao, an, acap, arcs, eo, en, ecap, ends⟩ ⟨mso, msn, mscap, msig, mst, mao, man, macap, marcs, meo, men, mecap, mends⟩ from ⟨hm1, hm2, hm3, hm4⟩)
                  have Hrev := Sp.hid (show Nf.revErr ⟨so, sn, scap, sig, st, ao, an, acap, arcs, eo, en, ecap, ends⟩ = 0 by
                    unfold Nf.revErr
                    have h8 : arcs.length = an := Hla.out
                    have h9 : ends.length = en := Hle.out
                    rw [Hre.out, if_neg (by simp), if_neg (show ¬ (st = 3000 ∨ 60000 < arcs.length + ends.length) by rw [h8, h9]; omega)])
                  clear hRf hsz hln hmall hm1 hm2 hm3 hm4 hm5 hm6 HRv hst3
                  go_wp2_with fail
                  obtain ⟨w6, hw6⟩ : ∃ w6, (((wr.setCell ⟨w.heap.size + 1, 0, none⟩ (.slice mso msn mscap)).setCell ⟨w.heap.size + 1, 1, none⟩ (.int .i64 (st + 1))).setCell ⟨w.heap.size + 1, 2, none⟩ (.slice mao man macap)).setCell ⟨w.heap.size + 1, 3, none⟩ (.slice (some ⟨eB, 0, none⟩) 1 1) = w6 := ⟨_, rfl⟩
                  rw [hw6] at Hm ⊢
                  obtain ⟨g1, g2, g3⟩ := Hm.out
                  have q0 := Nf.blk_cell (i := 0) (v := .slice mso msn mscap) g2 rfl
                  have q1 := Nf.blk_cell (i := 1) (v := .int .i64 (st + 1)) g2 rfl
                  have q2 := Nf.blk_cell (i := 2) (v := .slice mao man macap) g2 rfl
                  have q3 := Nf.blk_cell (i := 3) (v := .slice (some ⟨eB, 0, none⟩) 1 1) g2 rfl
                  refine bodyPost_ret (v := .tuple #[.agg #[.slice mso msn mscap, .int .i64 (st + 1), .slice mao man macap, .slice (some ⟨eB, 0, none⟩) 1 1], .int .i64 0]) (by simp [results, Try.results19, go_sem, Try.underlying26, Try.isAgg26, Try.sizeOf26, q0, q1, q2, q3]) rfl ?_
                  refine ⟨_, by rw [Hrev.out, Hmc.out], g1, g3, fun _ => Ht.out, fun h => absurd Hrev.out h⟩
  · skip
    have HNE := Sp.hid h0
    have h3 : (r != 0) = true := by simpa using h0
    go_enter Try.func19, Try.ntmps19
    go_wp2_with fail
    rw [Hw1.out]
    refine HV.out.mono ?_
    rintro e w2 ⟨rfl, hb2⟩
    have nB2 := Nf.blk_below NB.out hb2 (Nf.blk_lt NB.out)
    have nR2 := Nf.blk_below NR.out hb2 (Nf.blk_lt NR.out)
    have B02 := Sp.hid (B01.out.trans (hb2.mono B01.out.size))
    have y0 : w2.cell? ⟨w.heap.size + 1, 0, none⟩ = some (.slice none 0 0) := Nf.blk_cell (i := 0) nR2 rfl
    have y1 : w2.cell? ⟨w.heap.size + 1, 1, none⟩ = some (.int .i64 0) := Nf.blk_cell (i := 1) nR2 rfl
    have y2 : w2.cell? ⟨w.heap.size + 1, 2, none⟩ = some (.slice none 0 0) := Nf.blk_cell (i := 2) nR2 rfl
    have y3 : w2.cell? ⟨w.heap.size + 1, 3, none⟩ = some (.slice none 0 0) := Nf.blk_cell (i := 3) nR2 rfl
    have f0 := Nf.blk_free (i := 0) nR2
    have f1 := Nf.blk_free (i := 1) nR2
    have f2 := Nf.blk_free (i := 2) nR2
    have f3 := Nf.blk_free (i := 3) nR2
    have hR5 := Nf.blk_set (i := 3) (Nf.blk_set (i := 2) (Nf.blk_set (i := 1) (Nf.blk_set (i := 0) nR2 (.slice none 0 0)) (.int .i64 0)) (.slice none 0 0)) (.slice none 0 0)
    have B05 := Sp.hid ((((B02.out.setCell (p := ⟨w.heap.size + 1, 0, none⟩) (show w.heap.size ≤ w.heap.size + 1 by omega) (.slice none 0 0)).setCell (p := ⟨w.heap.size + 1, 1, none⟩) (show w.heap.size ≤ w.heap.size + 1 by omega) (.int .i64 0)).setCell (p := ⟨w.heap.size + 1, 2, none⟩) (show w.heap.size ≤ w.heap.size + 1 by omega) (.slice none 0 0)).setCell (p := ⟨w.heap.size + 1, 3, none⟩) (show w.heap.size ≤ w.heap.size + 1 by omega) (.slice none 0 0))
    have HR5 := Sp.hid hR5
    have Hrev := Sp.hid (show Nf.revErr ⟨so, sn, scap, sig, st, ao, an, acap, arcs, eo, en, ecap, ends⟩ = r by
      unfold Nf.revErr
      rw [Hre.out, if_pos h0])
    clear hR5 nB2 nR2 hb2
    go_wp2_with fail
    obtain ⟨w6, hw6⟩ : ∃ w6, (((w2.setCell ⟨w.heap.size + 1, 0, none⟩ (.slice none 0 0)).setCell ⟨w.heap.size + 1, 1, none⟩ (.int .i64 0)).setCell ⟨w.heap.size + 1, 2, none⟩ (.slice none 0 0)).setCell ⟨w.heap.size + 1, 3, none⟩ (.slice none 0 0) = w6 := ⟨_, rfl⟩
    rw [hw6] at B05 HR5 ⊢
    have q0 := Nf.blk_cell (i := 0) (v := .slice none 0 0) HR5.out rfl
    have q1 := Nf.blk_cell (i := 1) (v := .int .i64 0) HR5.out rfl
    have q2 := Nf.blk_cell (i := 2) (v := .slice none 0 0) HR5.out rfl
    have q3 := Nf.blk_cell (i := 3) (v := .slice none 0 0) HR5.out rfl
    refine bodyPost_ret (v := .tuple #[.agg #[.slice none 0 0, .int .i64 0, .slice none 0 0, .slice none 0 0], .int .i64 r]) (by simp [results, Try.results19, go_sem, Try.underlying26, Try.isAgg26, Try.sizeOf26, q0, q1, q2, q3]) rfl ?_
    exact ⟨Nf.zeroNet, by rw [Hrev.out]; rfl, Nf.zeroNet_at _, B05.out, fun h => absurd (Hrev.out.symm.trans h) HNE.out, fun _ => ⟨rfl, rfl, rfl, rfl⟩⟩
end Go.Proofs.Ytnkpgcmjnbgodaa
