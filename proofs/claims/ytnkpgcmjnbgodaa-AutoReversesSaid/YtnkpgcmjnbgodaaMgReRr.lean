/-
  The walk of the reference's Reverse.
-/
import Derived.Test.YtnkpgcmjnbgodaaMgReIlReRvMReLm
import Derived.Test.YtnkpgcmjnbgodaaMgReRa
import Derived.Test.YtnkpgcmjnbgodaaMgAuRv
import Derived.Deep.RegionHeld3
import Derived.Deep.DrawnRows
import Derived.Deep.DeepCutAuto
import Derived.Deep.RegionWith
import Derived.Deep.AppendLies
import Derived.Test.YtnkpgcmjnbgodaaMgAuReg
import Derived.IntWalk
set_option linter.unusedVariables false
set_option linter.unusedSimpArgs false
namespace Go.Proofs.Ytnkpgcmjnbgodaa
open Go.RowKit

/-- The error alone. -/
def Nf.RefRevPost (n : Nf.Net) (w : World) (e : Ending) (w' : World) : Prop := ∃ m : Nf.Net, e = .returned (.tuple #[.agg m.cells, .int .i64 (Nf.revErr n)]) ∧ Below w.heap.size w w'
set_option maxHeartbeats 4000000 in
set_option maxRecDepth 100000 in
theorem refReverse_any (w : World) (n : Nf.Net) (h : Nf.NetAt w n) (hr : n.sn * 16 ≤ 140737488351232) :
    Calls Try.prog 20 #[n.val] w (Nf.RefRevPost n w) := by
  obtain ⟨i0, hi, hiz0, hiz1, hiz2⟩ := info_parts Nf.arcInfo
  have nB : (((w.alloc (.cells n.cells 26)).alloc (.cells #[.slice none 0 0, .int .i64 0, .slice none 0 0, .slice none 0 0] 26))).heap[w.heap.size]? = some (.cells n.cells 26 (0, 0)) := Nf.blk_alloc (Nf.Below.heap_new w _) _
  have nR : (((w.alloc (.cells n.cells 26)).alloc (.cells #[.slice none 0 0, .int .i64 0, .slice none 0 0, .slice none 0 0] 26))).heap[w.heap.size + 1]? = some (.cells #[.slice none 0 0, .int .i64 0, .slice none 0 0, .slice none 0 0] 26 (0, 0)) := by
    have h3 := Nf.Below.heap_new (w.alloc (.cells n.cells 26)) (.cells #[.slice none 0 0, .int .i64 0, .slice none 0 0, .slice none 0 0] 26)
    simpa using h3
  have b01 : Below w.heap.size w ((w.alloc (.cells n.cells 26)).alloc (.cells #[.slice none 0 0, .int .i64 0, .slice none 0 0, .slice none 0 0] 26)) := ((Below.refl _ w).alloc (Nat.le_refl _) _).alloc (by simp) _
  have HV := Sp.hid (refValidN_any _ n (h.below b01))
  have HN := Sp.hid h
  have NB := Sp.hid nB
  have NR := Sp.hid nR
  have B01 := Sp.hid b01
  obtain ⟨r, hre⟩ : ∃ r, Nf.errNet n = r := ⟨_, rfl⟩
  rw [hre] at HV
  have Hre := Sp.hid hre
  have Hlo := h.lo
  have Hhi := h.hi
  have hla := h.arcs.2.1
  have hle := h.ends.2.1
  have Hla := Sp.hid h.arcs.1
  have Hle := Sp.hid h.ends.1
  have Hn : RowKit.Hid (∃ n' : Nf.Net, n' = n) := Sp.hid ⟨n, rfl⟩
  clear h nB nR b01 hre
  obtain ⟨w1, hw1⟩ : ∃ w1, ((w.alloc (.cells n.cells 26)).alloc (.cells #[.slice none 0 0, .int .i64 0, .slice none 0 0, .slice none 0 0] 26)) = w1 := ⟨_, rfl⟩
  rw [hw1] at NB NR B01 HV
  have Hw1 := Sp.hid hw1
  have Hcells := Sp.hid (show n.cells = #[.slice n.so n.sn n.scap, .int .i64 n.st, .slice n.ao n.an n.acap, .slice n.eo n.en n.ecap] from rfl)
  clear hw1 Hn
  unfold Nf.Net.val at HV ⊢
  rw [Hcells.out] at Hw1 NB HV ⊢
  obtain ⟨so, sn, scap, sig, st, ao, an, acap, arcs, eo, en, ecap, ends⟩ := n
  simp only at *
  by_cases h0 : r = 0
  · subst h0
    have HE := Sp.hid (fun w2 (hb : Below w.heap.size w w2) => (Nf.errNet_pre (HN.out.below hb) Hre.out))
    have hst2 : st ≤ 3000 := (HE.out w (Below.refl _ _)).2.1
    have hst1 : 1 ≤ st := by have h1 : st = (st.toNat : Int) := (HE.out w (Below.refl _ _)).1; have h2 : 1 ≤ st.toNat := (HE.out w (Below.refl _ _)).2.2.hpos; omega
    by_cases h1 : st = 3000
    · skip
      have HNE := Sp.hid (show (3 : Int) ≠ 0 by decide)
      subst h1
      go_enter Try.func20, Try.ntmps20
      go_wp2_with fail
      rw [Hw1.out]
      refine HV.out.mono ?_
      rintro e w2 ⟨rfl, hb2⟩
      have nB2 := Nf.blk_below NB.out hb2 (Nf.blk_lt NB.out)
      have nR2 := Nf.blk_below NR.out hb2 (Nf.blk_lt NR.out)
      have B02 := Sp.hid (B01.out.trans (hb2.mono B01.out.size))
      have d1 : w2.cell? ⟨w.heap.size, 1, none⟩ = some (.int .i64 3000) := Nf.blk_cell (i := 1) nB2 rfl
      have d2 : w2.cell? ⟨w.heap.size, 2, none⟩ = some (.slice ao an acap) := Nf.blk_cell (i := 2) nB2 rfl
      have d3 : w2.cell? ⟨w.heap.size, 3, none⟩ = some (.slice eo en ecap) := Nf.blk_cell (i := 3) nB2 rfl
      have y0 : w2.cell? ⟨w.heap.size + 1, 0, none⟩ = some (.slice none 0 0) := Nf.blk_cell (i := 0) nR2 rfl
      have y1 : w2.cell? ⟨w.heap.size + 1, 1, none⟩ = some (.int .i64 0) := Nf.blk_cell (i := 1) nR2 rfl
      have y2 : w2.cell? ⟨w.heap.size + 1, 2, none⟩ = some (.slice none 0 0) := Nf.blk_cell (i := 2) nR2 rfl
      have y3 : w2.cell? ⟨w.heap.size + 1, 3, none⟩ = some (.slice none 0 0) := Nf.blk_cell (i := 3) nR2 rfl
      have f0 := Nf.blk_free (i := 0) nR2
      have f1 := Nf.blk_free (i := 1) nR2
      have f2 := Nf.blk_free (i := 2) nR2
      have f3 := Nf.blk_free (i := 3) nR2
      have hR5 := Nf.blk_set (i := 3) (Nf.blk_set (i := 2) (Nf.blk_set (i := 1) (Nf.blk_set (i := 0) nR2 (.slice none 0 0)) (.int .i64 0)) (.slice none 0 0)) (.slice none 0 0)
      have B05 := Sp.hid ((((B02.out.setCell (p := ⟨w.heap.size + 1, 0, none⟩) (show w.heap.size ≤ w.heap.size + 1 by omega) (.slice none 0 0)).setCell (p := ⟨w.heap.size + 1, 1, none⟩) (show w.heap.size ≤ w.heap.size + 1 by omega) (.int .i64 0)).setCell (p := ⟨w.heap.size + 1, 2, none⟩) (show w.heap.size ≤ w.heap.size + 1 by omega) (.slice none 0 0)).setCell (p := ⟨w.heap.size + 1, 3, none⟩) (show w.heap.size ≤ w.heap.size + 1 by omega) (.slice none 0 0))
      have HR5 := Sp.hid hR5
      have Hrev := Sp.hid (show Nf.revErr ⟨so, sn, scap, sig, 3000, ao, an, acap, arcs, eo, en, ecap, ends⟩ = 3 by
        unfold Nf.revErr
        rw [Hre.out, if_neg (by simp), if_pos (show (3000 : Int) = 3000 ∨ 60000 < arcs.length + ends.length from Or.inl rfl)])
      clear hR5 nB2 nR2 hb2
      go_wp2_with fail
      obtain ⟨w6, hw6⟩ : ∃ w6, (((w2.setCell ⟨w.heap.size + 1, 0, none⟩ (.slice none 0 0)).setCell ⟨w.heap.size + 1, 1, none⟩ (.int .i64 0)).setCell ⟨w.heap.size + 1, 2, none⟩ (.slice none 0 0)).setCell ⟨w.heap.size + 1, 3, none⟩ (.slice none 0 0) = w6 := ⟨_, rfl⟩
      rw [hw6] at B05 HR5 ⊢
      have q0 := Nf.blk_cell (i := 0) (v := .slice none 0 0) HR5.out rfl
      have q1 := Nf.blk_cell (i := 1) (v := .int .i64 0) HR5.out rfl
      have q2 := Nf.blk_cell (i := 2) (v := .slice none 0 0) HR5.out rfl
      have q3 := Nf.blk_cell (i := 3) (v := .slice none 0 0) HR5.out rfl
      refine bodyPost_ret (v := .tuple #[.agg #[.slice none 0 0, .int .i64 0, .slice none 0 0, .slice none 0 0], .int .i64 3]) (by simp [results, Try.results20, go_sem, Try.underlying26, Try.isAgg26, Try.sizeOf26, q0, q1, q2, q3]) rfl ?_
      exact ⟨Nf.zeroNet, by rw [Hrev.out]; rfl, B05.out⟩
    · by_cases h2 : 60000 < an + en
      · skip
        have HNE := Sp.hid (show (3 : Int) ≠ 0 by decide)
        have hst4 : st < 3000 := by omega
        have hd1 : decide ((60000 : Int) < (an : Int) + (en : Int)) = true := by simp; omega
        go_enter Try.func20, Try.ntmps20
        go_wp2_with fail
        rw [Hw1.out]
        refine HV.out.mono ?_
        rintro e w2 ⟨rfl, hb2⟩
        have nB2 := Nf.blk_below NB.out hb2 (Nf.blk_lt NB.out)
        have nR2 := Nf.blk_below NR.out hb2 (Nf.blk_lt NR.out)
        have B02 := Sp.hid (B01.out.trans (hb2.mono B01.out.size))
        have d1 : w2.cell? ⟨w.heap.size, 1, none⟩ = some (.int .i64 st) := Nf.blk_cell (i := 1) nB2 rfl
        have d2 : w2.cell? ⟨w.heap.size, 2, none⟩ = some (.slice ao an acap) := Nf.blk_cell (i := 2) nB2 rfl
        have d3 : w2.cell? ⟨w.heap.size, 3, none⟩ = some (.slice eo en ecap) := Nf.blk_cell (i := 3) nB2 rfl
        have y0 : w2.cell? ⟨w.heap.size + 1, 0, none⟩ = some (.slice none 0 0) := Nf.blk_cell (i := 0) nR2 rfl
        have y1 : w2.cell? ⟨w.heap.size + 1, 1, none⟩ = some (.int .i64 0) := Nf.blk_cell (i := 1) nR2 rfl
        have y2 : w2.cell? ⟨w.heap.size + 1, 2, none⟩ = some (.slice none 0 0) := Nf.blk_cell (i := 2) nR2 rfl
        have y3 : w2.cell? ⟨w.heap.size + 1, 3, none⟩ = some (.slice none 0 0) := Nf.blk_cell (i := 3) nR2 rfl
        have f0 := Nf.blk_free (i := 0) nR2
        have f1 := Nf.blk_free (i := 1) nR2
        have f2 := Nf.blk_free (i := 2) nR2
        have f3 := Nf.blk_free (i := 3) nR2
        have hR5 := Nf.blk_set (i := 3) (Nf.blk_set (i := 2) (Nf.blk_set (i := 1) (Nf.blk_set (i := 0) nR2 (.slice none 0 0)) (.int .i64 0)) (.slice none 0 0)) (.slice none 0 0)
        have B05 := Sp.hid ((((B02.out.setCell (p := ⟨w.heap.size + 1, 0, none⟩) (show w.heap.size ≤ w.heap.size + 1 by omega) (.slice none 0 0)).setCell (p := ⟨w.heap.size + 1, 1, none⟩) (show w.heap.size ≤ w.heap.size + 1 by omega) (.int .i64 0)).setCell (p := ⟨w.heap.size + 1, 2, none⟩) (show w.heap.size ≤ w.heap.size + 1 by omega) (.slice none 0 0)).setCell (p := ⟨w.heap.size + 1, 3, none⟩) (show w.heap.size ≤ w.heap.size + 1 by omega) (.slice none 0 0))
        have HR5 := Sp.hid hR5
        have Hrev := Sp.hid (show Nf.revErr ⟨so, sn, scap, sig, st, ao, an, acap, arcs, eo, en, ecap, ends⟩ = 3 by
          unfold Nf.revErr
          rw [Hre.out, if_neg (by simp), if_pos (show st = 3000 ∨ 60000 < arcs.length + ends.length from (Or.inr (by have h8 : arcs.length = an := Hla.out; have h9 : ends.length = en := Hle.out; omega)))])
        clear hR5 nB2 nR2 hb2
        go_wp2_with fail
        obtain ⟨w6, hw6⟩ : ∃ w6, (((w2.setCell ⟨w.heap.size + 1, 0, none⟩ (.slice none 0 0)).setCell ⟨w.heap.size + 1, 1, none⟩ (.int .i64 0)).setCell ⟨w.heap.size + 1, 2, none⟩ (.slice none 0 0)).setCell ⟨w.heap.size + 1, 3, none⟩ (.slice none 0 0) = w6 := ⟨_, rfl⟩
        rw [hw6] at B05 HR5 ⊢
        have q0 := Nf.blk_cell (i := 0) (v := .slice none 0 0) HR5.out rfl
        have q1 := Nf.blk_cell (i := 1) (v := .int .i64 0) HR5.out rfl
        have q2 := Nf.blk_cell (i := 2) (v := .slice none 0 0) HR5.out rfl
        have q3 := Nf.blk_cell (i := 3) (v := .slice none 0 0) HR5.out rfl
        refine bodyPost_ret (v := .tuple #[.agg #[.slice none 0 0, .int .i64 0, .slice none 0 0, .slice none 0 0], .int .i64 3]) (by simp [results, Try.results20, go_sem, Try.underlying26, Try.isAgg26, Try.sizeOf26, q0, q1, q2, q3]) rfl ?_
        exact ⟨Nf.zeroNet, by rw [Hrev.out]; rfl, B05.out⟩
      · have hst4 : st < 3000 := by omega
        have hd1 : decide ((60000 : Int) < (an : Int) + (en : Int)) = false := by simp; omega
        go_enter Try.func20, Try.ntmps20
        go_wp2_with fail
        rw [Hw1.out]
        refine HV.out.mono ?_
        rintro e w2 ⟨rfl, hb2⟩
        have nB2 := Nf.blk_below NB.out hb2 (Nf.blk_lt NB.out)
        have nR2 := Nf.blk_below NR.out hb2 (Nf.blk_lt NR.out)
        have B02 := Sp.hid (B01.out.trans (hb2.mono B01.out.size))
        have d0 : w2.cell? ⟨w.heap.size, 0, none⟩ = some (.slice so sn scap) := Nf.blk_cell (i := 0) nB2 rfl
        have d1 : w2.cell? ⟨w.heap.size, 1, none⟩ = some (.int .i64 st) := Nf.blk_cell (i := 1) nB2 rfl
        have d2 : w2.cell? ⟨w.heap.size, 2, none⟩ = some (.slice ao an acap) := Nf.blk_cell (i := 2) nB2 rfl
        have d3 : w2.cell? ⟨w.heap.size, 3, none⟩ = some (.slice eo en ecap) := Nf.blk_cell (i := 3) nB2 rfl
        have NB2 := Sp.hid nB2
        have NR2 := Sp.hid nR2
        clear hb2 nB2 nR2
        go_wp2_with fail
        go_cut [5] (fun s5 wx => ∃ rB eB sv, s5 = .pointer (some ⟨rB, 0, none⟩) ∧ Nf.RvAt w wx w.heap.size (w.heap.size + 1) rB eB #[.slice so sn scap, .int .i64 st, .slice ao an acap, .slice eo en ecap] sv sig (st + 1) [] (.slice none 0 0))
        case first =>
          have lB := Nf.blk_lt NR2.out
          have q1 : w.heap.size ≠ w2.heap.size := by omega
          have q2 : w.heap.size ≠ w2.heap.size + 1 := by omega
          have q3 : w2.heap.size ≠ w.heap.size := by omega
          have q4 : w2.heap.size + 1 ≠ w.heap.size := by omega
          have hwr : IntKind.i64.wrap (st + 1) = st + 1 := IntWalk.i64_in _ (by omega)
          go_region_held3 (fun w' => w'.cell? ⟨w.heap.size, 0, none⟩ = some (.slice so sn scap) ∧ w'.cell? ⟨w.heap.size, 1, none⟩ = some (.int .i64 st)) (go_keep) ((first
            | (refine Nf.step_appZ NB2.out B02.out (by first | exact ((Below.refl _ w2).alloc (Nat.le_refl _) _).drew | exact (((Below.refl _ w2).alloc (Nat.le_refl _) _).alloc (by simp) _).drew) HN.out.sig hr w2.heap.size (by first | exact Nf.Below.heap_new w2 _ | exact Nf.blk_alloc (Nf.Below.heap_new w2 _) _) rfl _ _ rfl rfl rfl ?_; intro so' sn' scap' w3 Hown3 Hbel3 Hb53 k30 k31 lw Hkz z y lz; obtain ⟨z0, z1, z2, z3⟩ := z; obtain ⟨y0, y1, y2, y3⟩ := y)
            | (refine Nf.step_appZ NB2.out B02.out (by first | exact ((Below.refl _ w2).alloc (Nat.le_refl _) _).drew | exact (((Below.refl _ w2).alloc (Nat.le_refl _) _).alloc (by simp) _).drew) HN.out.sig hr (w2.heap.size + 1) (by have h := Nf.Below.heap_new (w2.alloc (.cells #[.int .i64 1, .int .i64 0] 55)) (.cells #[.slice none 0 0, .int .i64 0, .slice none 0 0, .slice none 0 0] 26); simp only [World.size_alloc] at h; exact h) rfl _ _ rfl rfl rfl ?_; intro so' sn' scap' w3 Hown3 Hbel3 Hb53 k30 k31 lw Hkz z y lz; obtain ⟨z0, z1, z2, z3⟩ := z; obtain ⟨y0, y1, y2, y3⟩ := y)
            | (refine Nf.step_app NB2.out B02.out (by first | exact (Below.refl _ w2).drew | exact ((Below.refl _ w2).alloc (Nat.le_refl _) _).drew) HN.out.sig hr rfl _ _ rfl rfl rfl ?_; intro so' sn' scap' w3 Hown3 Hbel3 Hb53 k30 k31 lw)))
          · go_wp2_with fail
            go_meet
            have hz3 := Hbel3.out.size
            have hRw : w.heap.size ≤ w.heap.size + 1 := by omega
            have g1 : Below w2.heap.size w2 ((w3.alloc (.cells #[.int .i64 1, .int .i64 0] 55)).alloc (.cells #[.slice so' sn' scap', .int .i64 (st + 1), .slice none 0 0, .slice (some ⟨w3.heap.size, 0, none⟩) 1 1] 26)) := (Hbel3.out.alloc hz3 _).alloc (by rw [World.size_alloc]; omega) _
            have g2 : w2.heap.size ≤ (w3.heap.size + 1) := by omega
            have g3 : ((w3.alloc (.cells #[.int .i64 1, .int .i64 0] 55)).alloc (.cells #[.slice so' sn' scap', .int .i64 (st + 1), .slice none 0 0, .slice (some ⟨w3.heap.size, 0, none⟩) 1 1] 26)).heap[(w3.heap.size + 1)]? = some (.cells #[.slice so' sn' scap', .int .i64 (st + 1), .slice none 0 0, .slice (some ⟨w3.heap.size, 0, none⟩) 1 1] 26 (0, 0)) := by have h := Nf.Below.heap_new (w3.alloc (.cells #[.int .i64 1, .int .i64 0] 55)) (.cells #[.slice so' sn' scap', .int .i64 (st + 1), .slice none 0 0, .slice (some ⟨w3.heap.size, 0, none⟩) 1 1] 26); rwa [World.size_alloc] at h
            have g4 : ((w3.alloc (.cells #[.int .i64 1, .int .i64 0] 55)).alloc (.cells #[.slice so' sn' scap', .int .i64 (st + 1), .slice none 0 0, .slice (some ⟨w3.heap.size, 0, none⟩) 1 1] 26)).heap[w3.heap.size]? = some (.cells #[.int .i64 1, .int .i64 0] 55 (0, 0)) := Nf.blk_alloc (Nf.Below.heap_new w3 _) _
            have g5 : ((w3.alloc (.cells #[.int .i64 1, .int .i64 0] 55)).alloc (.cells #[.slice so' sn' scap', .int .i64 (st + 1), .slice none 0 0, .slice (some ⟨w3.heap.size, 0, none⟩) 1 1] 26)).ownsRow w.heap.size 9 1 (.slice so' sn' scap') sig.length (sig.map Value.string) := (Hown3.out.alloc _).alloc _
            exact ⟨(w3.heap.size + 1), w3.heap.size, .slice so' sn' scap', rfl, Nf.RvAt.start NB2.out NR2.out B02.out hRw g1 g2 g3 g4 g5⟩
          · go_wp2_with fail
            go_meet
            have hz3 := Hbel3.out.size
            have hRw : w.heap.size ≤ w.heap.size + 1 := by omega
            have g1 : Below w2.heap.size w2 ((w3.alloc (.cells #[.slice so' sn' scap', .int .i64 (st + 1), .slice none 0 0, .slice (some ⟨w3.heap.size + 1, 0, none⟩) 1 1] 26)).alloc (.cells #[.int .i64 1, .int .i64 0] 55)) := (Hbel3.out.alloc hz3 _).alloc (by rw [World.size_alloc]; omega) _
            have g2 : w2.heap.size ≤ w3.heap.size := hz3
            have g3 : ((w3.alloc (.cells #[.slice so' sn' scap', .int .i64 (st + 1), .slice none 0 0, .slice (some ⟨w3.heap.size + 1, 0, none⟩) 1 1] 26)).alloc (.cells #[.int .i64 1, .int .i64 0] 55)).heap[w3.heap.size]? = some (.cells #[.slice so' sn' scap', .int .i64 (st + 1), .slice none 0 0, .slice (some ⟨(w3.heap.size + 1), 0, none⟩) 1 1] 26 (0, 0)) := Nf.blk_alloc (Nf.Below.heap_new w3 _) _
            have g4 : ((w3.alloc (.cells #[.slice so' sn' scap', .int .i64 (st + 1), .slice none 0 0, .slice (some ⟨w3.heap.size + 1, 0, none⟩) 1 1] 26)).alloc (.cells #[.int .i64 1, .int .i64 0] 55)).heap[(w3.heap.size + 1)]? = some (.cells #[.int .i64 1, .int .i64 0] 55 (0, 0)) := by have h := Nf.Below.heap_new (w3.alloc (.cells #[.slice so' sn' scap', .int .i64 (st + 1), .slice none 0 0, .slice (some ⟨w3.heap.size + 1, 0, none⟩) 1 1] 26)) (.cells #[.int .i64 1, .int .i64 0] 55); rwa [World.size_alloc] at h
            have g5 : ((w3.alloc (.cells #[.slice so' sn' scap', .int .i64 (st + 1), .slice none 0 0, .slice (some ⟨w3.heap.size + 1, 0, none⟩) 1 1] 26)).alloc (.cells #[.int .i64 1, .int .i64 0] 55)).ownsRow w.heap.size 9 1 (.slice so' sn' scap') sig.length (sig.map Value.string) := (Hown3.out.alloc _).alloc _
            exact ⟨w3.heap.size, (w3.heap.size + 1), .slice so' sn' scap', rfl, Nf.RvAt.start NB2.out NR2.out B02.out hRw g1 g2 g3 g4 g5⟩
          · go_wp2_with fail
            go_meet
            have hz3 := Hbel3.out.size
            have hRw : w.heap.size ≤ w.heap.size + 1 := by omega
            have g1 : Below w2.heap.size w2 (w3.alloc (.cells #[.slice so' sn' scap', .int .i64 (st + 1), .slice none 0 0, .slice (some ⟨w2.heap.size, 0, none⟩) 1 1] 26)) := Hbel3.out.alloc hz3 _
            have g2 : w2.heap.size ≤ w3.heap.size := hz3
            have g3 : (w3.alloc (.cells #[.slice so' sn' scap', .int .i64 (st + 1), .slice none 0 0, .slice (some ⟨w2.heap.size, 0, none⟩) 1 1] 26)).heap[w3.heap.size]? = some (.cells #[.slice so' sn' scap', .int .i64 (st + 1), .slice none 0 0, .slice (some ⟨w2.heap.size, 0, none⟩) 1 1] 26 (0, 0)) := Nf.Below.heap_new w3 _
            have g4 : (w3.alloc (.cells #[.slice so' sn' scap', .int .i64 (st + 1), .slice none 0 0, .slice (some ⟨w2.heap.size, 0, none⟩) 1 1] 26)).heap[w2.heap.size]? = some (.cells #[.int .i64 1, .int .i64 0] 55 (0, 0)) := Nf.blk_alloc (Nf.blk_below (Nf.blk_drew (Nf.Below.heap_new w2 (.cells #[.int .i64 1, .int .i64 0] 55))) Hb53.out (by show w2.heap.size < (w2.alloc (.cells #[.int .i64 1, .int .i64 0] 55)).heap.size; rw [World.size_alloc]; omega)) _
            have g5 : (w3.alloc (.cells #[.slice so' sn' scap', .int .i64 (st + 1), .slice none 0 0, .slice (some ⟨w2.heap.size, 0, none⟩) 1 1] 26)).ownsRow w.heap.size 9 1 (.slice so' sn' scap') sig.length (sig.map Value.string) := Hown3.out.alloc _
            exact ⟨w3.heap.size, w2.heap.size, .slice so' sn' scap', rfl, Nf.RvAt.start NB2.out NR2.out B02.out hRw g1 g2 g3 g4 g5⟩
          · go_wp2_with fail
            go_meet
            have hz3 := Hbel3.out.size
            have hRw : w.heap.size ≤ w.heap.size + 1 := by omega
            obtain ⟨s1, s2, s3, s4, s5⟩ := Nf.rv_set4 Hkz.out (.slice so' sn' scap') (.int .i64 (st + 1)) (.slice none 0 0) (.slice (some ⟨w2.heap.size, 0, none⟩) 1 1) rfl
            have g1 : Below w2.heap.size w2 ((((w3.setCell ⟨w2.heap.size + 1, 0, none⟩ (.slice so' sn' scap')).setCell ⟨w2.heap.size + 1, 1, none⟩ (.int .i64 (st + 1))).setCell ⟨w2.heap.size + 1, 2, none⟩ (.slice none 0 0)).setCell ⟨w2.heap.size + 1, 3, none⟩ (.slice (some ⟨w2.heap.size, 0, none⟩) 1 1)) := s5 _ _ Hbel3.out (by omega)
            have g2 : w2.heap.size ≤ (w2.heap.size + 1) := by omega
            have g3 : ((((w3.setCell ⟨w2.heap.size + 1, 0, none⟩ (.slice so' sn' scap')).setCell ⟨w2.heap.size + 1, 1, none⟩ (.int .i64 (st + 1))).setCell ⟨w2.heap.size + 1, 2, none⟩ (.slice none 0 0)).setCell ⟨w2.heap.size + 1, 3, none⟩ (.slice (some ⟨w2.heap.size, 0, none⟩) 1 1)).heap[(w2.heap.size + 1)]? = some (.cells #[.slice so' sn' scap', .int .i64 (st + 1), .slice none 0 0, .slice (some ⟨w2.heap.size, 0, none⟩) 1 1] 26 (0, 0)) := s1
            have g4 : ((((w3.setCell ⟨w2.heap.size + 1, 0, none⟩ (.slice so' sn' scap')).setCell ⟨w2.heap.size + 1, 1, none⟩ (.int .i64 (st + 1))).setCell ⟨w2.heap.size + 1, 2, none⟩ (.slice none 0 0)).setCell ⟨w2.heap.size + 1, 3, none⟩ (.slice (some ⟨w2.heap.size, 0, none⟩) 1 1)).heap[w2.heap.size]? = some (.cells #[.int .i64 1, .int .i64 0] 55 (0, 0)) := s2 _ _ (by omega) (Nf.blk_below (Nf.blk_drew (Nf.blk_alloc (Nf.Below.heap_new w2 (.cells #[.int .i64 1, .int .i64 0] 55)) _)) Hb53.out (by show w2.heap.size < ((w2.alloc (.cells #[.int .i64 1, .int .i64 0] 55)).alloc (.cells #[.slice none 0 0, .int .i64 0, .slice none 0 0, .slice none 0 0] 26)).heap.size; rw [World.size_alloc, World.size_alloc]; omega))
            have g5 : ((((w3.setCell ⟨w2.heap.size + 1, 0, none⟩ (.slice so' sn' scap')).setCell ⟨w2.heap.size + 1, 1, none⟩ (.int .i64 (st + 1))).setCell ⟨w2.heap.size + 1, 2, none⟩ (.slice none 0 0)).setCell ⟨w2.heap.size + 1, 3, none⟩ (.slice (some ⟨w2.heap.size, 0, none⟩) 1 1)).ownsRow w.heap.size 9 1 (.slice so' sn' scap') sig.length (sig.map Value.string) := s3 _ _ _ _ Hown3.out
            exact ⟨(w2.heap.size + 1), w2.heap.size, .slice so' sn' scap', rfl, Nf.RvAt.start NB2.out NR2.out B02.out hRw g1 g2 g3 g4 g5⟩
          · go_wp2_with fail
            go_meet
            have hz3 := Hbel3.out.size
            have hRw : w.heap.size ≤ w.heap.size + 1 := by omega
            obtain ⟨s1, s2, s3, s4, s5⟩ := Nf.rv_set4 Hkz.out (.slice so' sn' scap') (.int .i64 (st + 1)) (.slice none 0 0) (.slice (some ⟨w3.heap.size, 0, none⟩) 1 1) rfl
            have g1 : Below w2.heap.size w2 (((((w3.setCell ⟨w2.heap.size, 0, none⟩ (.slice so' sn' scap')).setCell ⟨w2.heap.size, 1, none⟩ (.int .i64 (st + 1))).setCell ⟨w2.heap.size, 2, none⟩ (.slice none 0 0)).setCell ⟨w2.heap.size, 3, none⟩ (.slice (some ⟨w3.heap.size, 0, none⟩) 1 1)).alloc (.cells #[.int .i64 1, .int .i64 0] 55)) := (s5 _ _ Hbel3.out (Nat.le_refl _)).alloc (by rw [s4]; exact hz3) _
            have g2 : w2.heap.size ≤ w2.heap.size := Nat.le_refl _
            have g3 : (((((w3.setCell ⟨w2.heap.size, 0, none⟩ (.slice so' sn' scap')).setCell ⟨w2.heap.size, 1, none⟩ (.int .i64 (st + 1))).setCell ⟨w2.heap.size, 2, none⟩ (.slice none 0 0)).setCell ⟨w2.heap.size, 3, none⟩ (.slice (some ⟨w3.heap.size, 0, none⟩) 1 1)).alloc (.cells #[.int .i64 1, .int .i64 0] 55)).heap[w2.heap.size]? = some (.cells #[.slice so' sn' scap', .int .i64 (st + 1), .slice none 0 0, .slice (some ⟨w3.heap.size, 0, none⟩) 1 1] 26 (0, 0)) := Nf.blk_alloc s1 _
            have g4 : (((((w3.setCell ⟨w2.heap.size, 0, none⟩ (.slice so' sn' scap')).setCell ⟨w2.heap.size, 1, none⟩ (.int .i64 (st + 1))).setCell ⟨w2.heap.size, 2, none⟩ (.slice none 0 0)).setCell ⟨w2.heap.size, 3, none⟩ (.slice (some ⟨w3.heap.size, 0, none⟩) 1 1)).alloc (.cells #[.int .i64 1, .int .i64 0] 55)).heap[w3.heap.size]? = some (.cells #[.int .i64 1, .int .i64 0] 55 (0, 0)) := by have h := Nf.Below.heap_new ((((w3.setCell ⟨w2.heap.size, 0, none⟩ (.slice so' sn' scap')).setCell ⟨w2.heap.size, 1, none⟩ (.int .i64 (st + 1))).setCell ⟨w2.heap.size, 2, none⟩ (.slice none 0 0)).setCell ⟨w2.heap.size, 3, none⟩ (.slice (some ⟨w3.heap.size, 0, none⟩) 1 1)) (.cells #[.int .i64 1, .int .i64 0] 55); rwa [s4] at h
            have g5 : (((((w3.setCell ⟨w2.heap.size, 0, none⟩ (.slice so' sn' scap')).setCell ⟨w2.heap.size, 1, none⟩ (.int .i64 (st + 1))).setCell ⟨w2.heap.size, 2, none⟩ (.slice none 0 0)).setCell ⟨w2.heap.size, 3, none⟩ (.slice (some ⟨w3.heap.size, 0, none⟩) 1 1)).alloc (.cells #[.int .i64 1, .int .i64 0] 55)).ownsRow w.heap.size 9 1 (.slice so' sn' scap') sig.length (sig.map Value.string) := (s3 _ _ _ _ Hown3.out).alloc _
            exact ⟨w2.heap.size, w3.heap.size, .slice so' sn' scap', rfl, Nf.RvAt.start NB2.out NR2.out B02.out hRw g1 g2 g3 g4 g5⟩
          · go_wp2_with fail
            go_meet
            have hz3 := Hbel3.out.size
            have hRw : w.heap.size ≤ w.heap.size + 1 := by omega
            obtain ⟨s1, s2, s3, s4, s5⟩ := Nf.rv_set4 Hkz.out (.slice so' sn' scap') (.int .i64 (st + 1)) (.slice none 0 0) (.slice (some ⟨w2.heap.size + 1, 0, none⟩) 1 1) rfl
            have g1 : Below w2.heap.size w2 ((((w3.setCell ⟨w2.heap.size, 0, none⟩ (.slice so' sn' scap')).setCell ⟨w2.heap.size, 1, none⟩ (.int .i64 (st + 1))).setCell ⟨w2.heap.size, 2, none⟩ (.slice none 0 0)).setCell ⟨w2.heap.size, 3, none⟩ (.slice (some ⟨w2.heap.size + 1, 0, none⟩) 1 1)) := s5 _ _ Hbel3.out (Nat.le_refl _)
            have g2 : w2.heap.size ≤ w2.heap.size := Nat.le_refl _
            have g3 : ((((w3.setCell ⟨w2.heap.size, 0, none⟩ (.slice so' sn' scap')).setCell ⟨w2.heap.size, 1, none⟩ (.int .i64 (st + 1))).setCell ⟨w2.heap.size, 2, none⟩ (.slice none 0 0)).setCell ⟨w2.heap.size, 3, none⟩ (.slice (some ⟨w2.heap.size + 1, 0, none⟩) 1 1)).heap[w2.heap.size]? = some (.cells #[.slice so' sn' scap', .int .i64 (st + 1), .slice none 0 0, .slice (some ⟨(w2.heap.size + 1), 0, none⟩) 1 1] 26 (0, 0)) := s1
            have g4 : ((((w3.setCell ⟨w2.heap.size, 0, none⟩ (.slice so' sn' scap')).setCell ⟨w2.heap.size, 1, none⟩ (.int .i64 (st + 1))).setCell ⟨w2.heap.size, 2, none⟩ (.slice none 0 0)).setCell ⟨w2.heap.size, 3, none⟩ (.slice (some ⟨w2.heap.size + 1, 0, none⟩) 1 1)).heap[(w2.heap.size + 1)]? = some (.cells #[.int .i64 1, .int .i64 0] 55 (0, 0)) := s2 _ _ (by omega) (Nf.blk_below (by have h := Nf.Below.heap_new (w2.alloc (.cells #[.slice none 0 0, .int .i64 0, .slice none 0 0, .slice none 0 0] 26)) (.cells #[.int .i64 1, .int .i64 0] 55); rwa [World.size_alloc] at h) Hb53.out (by show w2.heap.size + 1 < ((w2.alloc (.cells #[.slice none 0 0, .int .i64 0, .slice none 0 0, .slice none 0 0] 26)).alloc (.cells #[.int .i64 1, .int .i64 0] 55)).heap.size; rw [World.size_alloc, World.size_alloc]; omega))
            have g5 : ((((w3.setCell ⟨w2.heap.size, 0, none⟩ (.slice so' sn' scap')).setCell ⟨w2.heap.size, 1, none⟩ (.int .i64 (st + 1))).setCell ⟨w2.heap.size, 2, none⟩ (.slice none 0 0)).setCell ⟨w2.heap.size, 3, none⟩ (.slice (some ⟨w2.heap.size + 1, 0, none⟩) 1 1)).ownsRow w.heap.size 9 1 (.slice so' sn' scap') sig.length (sig.map Value.string) := s3 _ _ _ _ Hown3.out
            exact ⟨w2.heap.size, (w2.heap.size + 1), .slice so' sn' scap', rfl, Nf.RvAt.start NB2.out NR2.out B02.out hRw g1 g2 g3 g4 g5⟩
        case rest =>
          clear d0 d1 d2 d3
          obtain ⟨rB, eB, sv, rfl, hRv⟩ := hcut
          have HRv := Sp.hid hRv
          clear hRv
          go_wp2_with fail
          go_loopw [6, 7] (fun i _ wr => ∃ (k : Nat) (lv : Value), i = .int .i64 k ∧ k ≤ an ∧ Nf.RvAt w wr w.heap.size (w.heap.size + 1) rB eB #[.slice so sn scap, .int .i64 st, .slice ao an acap, .slice eo en ecap] sv sig (st + 1) ((arcs.take k).map fun a => ⟨a.t + 1, a.i, a.o, a.f + 1, 0⟩) lv) (fun i _ _ => an - (intOf i).toNat)
          case atStart => exact ⟨0, _, rfl, Nat.zero_le _, HRv.out⟩
          case round =>
            obtain ⟨j, lv, rfl, hj, hRv⟩ := hrel
            clear HRv
            have HRv := Sp.hid hRv
            clear hRv
            by_cases hjn : j < an
            · have hen6 : en ≤ 60000 := (HE.out wr HRv.out.below).2.2.hen
              have han6 : an ≤ 60000 := (HE.out wr HRv.out.below).2.2.han
              have hlk : ((arcs.take j).map fun a : ArcV => (⟨a.t + 1, a.i, a.o, a.f + 1, 0⟩ : ArcV)).length ≤ 1000000 := by simp; omega
              obtain ⟨LA, hLA⟩ : ∃ LA : List ArcV, ((arcs.take j).map fun a : ArcV => (⟨a.t + 1, a.i, a.o, a.f + 1, 0⟩ : ArcV)) = LA := ⟨_, rfl⟩
              rw [hLA] at HRv hlk
              have HLA := Sp.hid hLA
              have Hlk := Sp.hid hlk
              clear hLA hlk
              obtain ⟨b, off, x, rfl, ⟨c0, c1, c2, c3, c4⟩, hi1, ho1, hx, htk⟩ := (HN.out.arcs.below HRv.out.below).at hjn
              obtain ⟨xf, xi, xo, xt, xc⟩ := x
              simp only at c0 c1 c2 c3 c4 hi1 ho1
              have hxf := (HE.out wr HRv.out.below).2.2.hf _ (List.mem_of_getElem? hx)
              have hxt := (HE.out wr HRv.out.below).2.2.ht _ (List.mem_of_getElem? hx)
              simp only at hxf hxt
              have h9 : st = (st.toNat : Int) := (HE.out wr HRv.out.below).1
              have hf0 := hxf.1
              have ht0 := hxt.1
              have hf1 : xf ≤ 3000 := by omega
              have ht1 : xt ≤ 3000 := by omega
              have hR1 := HRv.out.alloc (.cells #[.int .i64 xf, .string xi, .string xo, .int .i64 xt, .int .i64 xc] 53)
              have hd := Nf.Below.heap_new wr (.cells #[.int .i64 xf, .string xi, .string xo, .int .i64 xt, .int .i64 xc] 53)
              have cL : (wr.alloc (.cells #[.int .i64 xf, .string xi, .string xo, .int .i64 xt, .int .i64 xc] 53)).cell? ⟨rB, 2, none⟩ = some lv := Nf.blk_cell (i := 2) hR1.rblk rfl
              have cD0 : (wr.alloc (.cells #[.int .i64 xf, .string xi, .string xo, .int .i64 xt, .int .i64 xc] 53)).cell? ⟨wr.heap.size, 0, none⟩ = some (.int .i64 xf) := Nf.blk_cell (i := 0) hd rfl
              have cD1 : (wr.alloc (.cells #[.int .i64 xf, .string xi, .string xo, .int .i64 xt, .int .i64 xc] 53)).cell? ⟨wr.heap.size, 1, none⟩ = some (.string xi) := Nf.blk_cell (i := 1) hd rfl
              have cD2 : (wr.alloc (.cells #[.int .i64 xf, .string xi, .string xo, .int .i64 xt, .int .i64 xc] 53)).cell? ⟨wr.heap.size, 2, none⟩ = some (.string xo) := Nf.blk_cell (i := 2) hd rfl
              have cD3 : (wr.alloc (.cells #[.int .i64 xf, .string xi, .string xo, .int .i64 xt, .int .i64 xc] 53)).cell? ⟨wr.heap.size, 3, none⟩ = some (.int .i64 xt) := Nf.blk_cell (i := 3) hd rfl
              have HR2 := Sp.hid (hR1.alloc (.cells #[.int .i64 (xt + 1), .string xi, .string xo, .int .i64 (xf + 1), .int .i64 0] 53))
              have Hnew := Sp.hid (Nf.Below.heap_new (wr.alloc (.cells #[.int .i64 xf, .string xi, .string xo, .int .i64 xt, .int .i64 xc] 53)) (.cells #[.int .i64 (xt + 1), .string xi, .string xo, .int .i64 (xf + 1), .int .i64 0] 53))
              have Htk := Sp.hid htk
              have d2 : wr.cell? ⟨w.heap.size, 2, none⟩ = some (.slice (some ⟨b, off, none⟩) an acap) := Nf.blk_cell (i := 2) HRv.out.nblk rfl
              have i1 : (0 : Int) ≤ (j : Int) := by omega
              have i2 : (j : Int) < (an : Int) := by omega
              clear hR1 hd htk hx hxf hxt h9
              go_wp2_with (at_builtin; refine Nf.push_arc rfl _ _ rfl w.heap.size lv _ rfl HR2.out.lown ⟨xt + 1, xi, xo, xf + 1, 0⟩ (wr.heap.size + 1) 1 rfl ?c4 ?c5 ?c6 ?_)
              case c4 => simpa using Hnew.out
              case c5 => exact Hlk.out
              case c6 => have h := HR2.out.below.size; simpa using h
              intro v2 w5 hown5 hgrow5 hat5
              obtain ⟨g2, cap2, rfl⟩ := Nf.own_form hown5 (by simp)
              have hP := HR2.out.push (a := ⟨xt + 1, xi, xo, xf + 1, 0⟩) hgrow5 (by simpa using hown5)
              have hr5 := Nf.blk_grown HR2.out.rblk hgrow5 (Nf.own_ne HR2.out.lown HR2.out.rblk (by decide))
              have cL5 : w5.cell? ⟨rB, 2, none⟩ = some lv := Nf.blk_cell (i := 2) hr5 rfl
              have fL5 := Nf.blk_free (i := 2) hr5
              have HP := Sp.hid hP
              clear hP hr5 hown5 hgrow5 hat5
              go_wp2_with fail
              go_roundw
              case rel =>
                refine ⟨j + 1, .slice (some ⟨g2, 0, none⟩) (LA.length + 1) cap2, by go_num, hjn, ?_⟩
                rw [Htk.out, List.map_append, HLA.out]
                exact HP.out
              case measure => simp [intOf]; omega
            · have HRe := Sp.hid (show Nf.RvAt w wr w.heap.size (w.heap.size + 1) rB eB #[.slice so sn scap, .int .i64 st, .slice ao an acap, .slice eo en ecap] sv sig (st + 1) (arcs.map fun a => ⟨a.t + 1, a.i, a.o, a.f + 1, 0⟩) lv by
                have h := HRv.out
                rwa [List.take_of_length_le (show arcs.length ≤ j by have h8 : arcs.length = an := Hla.out; omega)] at h)
              have d2 := Nf.blk_cell (i := 2) (v := .slice ao an acap) HRe.out.nblk rfl
              clear HRv
              go_wp2_with fail
              rename World => wA
              go_loopw [8] (fun i wr => ∃ (k : Nat) (lv : Value), i = .int .i64 k ∧ k ≤ en ∧ Nf.RvAt w wr w.heap.size (w.heap.size + 1) rB eB #[.slice so sn scap, .int .i64 st, .slice ao an acap, .slice eo en ecap] sv sig (st + 1) ((arcs.map fun a => ⟨a.t + 1, a.i, a.o, a.f + 1, 0⟩) ++ (ends.take k).map fun d => ⟨0, Nf.eps, Nf.eps, d.s + 1, 0⟩) lv) (fun i _ => en - (intOf i).toNat)
              case atStart => exact ⟨0, _, rfl, Nat.zero_le _, by simpa using HRe.out⟩
              case round =>
                clear d2 HRe
                obtain ⟨k, lv, rfl, hk, hRv⟩ := hrel
                have HRv := Sp.hid hRv
                clear hRv
                have hen6 : en ≤ 60000 := (HE.out wr HRv.out.below).2.2.hen
                have han6 : an ≤ 60000 := (HE.out wr HRv.out.below).2.2.han
                have d3 := Nf.blk_cell (i := 3) (v := .slice eo en ecap) HRv.out.nblk rfl
                by_cases hkn : k < en
                · have hlk : ((arcs.map fun a : ArcV => (⟨a.t + 1, a.i, a.o, a.f + 1, 0⟩ : ArcV)) ++ (ends.take k).map fun d : EndV => (⟨0, Nf.eps, Nf.eps, d.s + 1, 0⟩ : ArcV)).length ≤ 1000000 := by
                    have h1 : arcs.length = an := Hla.out
                    simp; omega
                  obtain ⟨LA, hLA⟩ : ∃ LA : List ArcV, ((arcs.map fun a : ArcV => (⟨a.t + 1, a.i, a.o, a.f + 1, 0⟩ : ArcV)) ++ (ends.take k).map fun d : EndV => (⟨0, Nf.eps, Nf.eps, d.s + 1, 0⟩ : ArcV)) = LA := ⟨_, rfl⟩
                  rw [hLA] at HRv hlk
                  have HLA := Sp.hid hLA
                  clear hLA
                  obtain ⟨b, off, x, rfl, ⟨c0w, c1⟩, hx, htk⟩ := HN.out.ends.at hkn
                  obtain ⟨xs, xc⟩ := x
                  simp only at c0w c1
                  have hbw := World.block_lt_of_cell? w _ c0w
                  have c0 : wr.cell? ⟨b, off + k * 2, none⟩ = some (.int .i64 xs) := by rw [HRv.out.below.cell (p := ⟨b, off + k * 2, none⟩) hbw]; exact c0w
                  have hHH := HRv.out.below.size
                  have hxs := (HE.out wr HRv.out.below).2.2.hd _ (List.mem_of_getElem? hx)
                  simp only at hxs
                  have hx0 := hxs.1
                  have hx1 : xs ≤ 3000 := by have h8 : st ≤ 3000 := (HE.out wr HRv.out.below).2.1; have h9 : st = (st.toNat : Int) := (HE.out wr HRv.out.below).1; omega
                  have hwr : IntKind.i64.wrap (xs + 1) = xs + 1 := IntWalk.i64_in _ (by omega)
                  have i1 : (0 : Int) ≤ (k : Int) := by omega
                  have i2 : (k : Int) < (en : Int) := by omega
                  have cL : wr.cell? ⟨rB, 2, none⟩ = some lv := Nf.blk_cell (i := 2) HRv.out.rblk rfl
                  have Htk := Sp.hid htk
                  have HR2 := Sp.hid ((HRv.out.alloc (.cells #[.int .i64 0, .string ⟨#[]⟩, .string ⟨#[]⟩, .int .i64 (xs + 1), .int .i64 0] 53)).drew)
                  clear htk hx hxs c1 c0w
                  go_wp2_with fail
                  refine Open.begin (S := fun w' => w'.cell? ⟨rB, 2, none⟩ = some (lv) ∧ w'.cell? ⟨w.heap.size, 3, none⟩ = some (.slice (some ⟨b, off, none⟩) en ecap) ∧ w'.cell? ⟨b, off + k * 2, none⟩ = some (.int .i64 xs)) (z := 13) (by kernel_rfl) ?_
                  have HS : wr.drew.cell? ⟨rB, 2, none⟩ = some (lv) ∧ wr.drew.cell? ⟨w.heap.size, 3, none⟩ = some (.slice (some ⟨b, off, none⟩) en ecap) ∧ wr.drew.cell? ⟨b, off + k * 2, none⟩ = some (.int .i64 xs) := ⟨cL, d3, c0⟩
                  refine Open.take (i := 0) (v := ?_) rfl (by kernel_rfl) (by kernel_rfl) (by kernel_rfl) (by kernel_rfl) (fun _ _ _ h => h) HS (Or.inl ⟨rfl, ?_⟩) ?_
                  rotate_left
                  · rintro w' ⟨k1, k2, k3⟩
                    go_simp
                    try rfl
                  simp only [Act.put, List.setIfInBounds_toArray, List.set_cons_zero, List.set_cons_succ]
                  refine Open.take (i := 1) (v := ?_) rfl (by kernel_rfl) (by kernel_rfl) (by kernel_rfl) (by kernel_rfl) (fun _ _ _ h => h) HS (Or.inl ⟨rfl, ?_⟩) ?_
                  rotate_left
                  · rintro w' ⟨k1, k2, k3⟩
                    go_simp
                    try rfl
                  simp only [Act.put, List.setIfInBounds_toArray, List.set_cons_zero, List.set_cons_succ]
                  refine Open.take (i := 2) (v := ?_) rfl (by kernel_rfl) (by kernel_rfl) (by kernel_rfl) (by kernel_rfl) (fun _ _ _ h => h) HS (Or.inl ⟨rfl, ?_⟩) ?_
                  rotate_left
                  · rintro w' ⟨k1, k2, k3⟩
                    go_simp
                    try rfl
                  simp only [Act.put, List.setIfInBounds_toArray, List.set_cons_zero, List.set_cons_succ]
                  refine Open.take (i := 3) (v := ?_) rfl (by kernel_rfl) (by kernel_rfl) (by kernel_rfl) (by kernel_rfl) (fun _ _ _ h => h) HS (Or.inl ⟨rfl, ?_⟩) ?_
                  rotate_left
                  · rintro w' ⟨k1, k2, k3⟩
                    go_simp
                    try rfl
                  simp only [Act.put, List.setIfInBounds_toArray, List.set_cons_zero, List.set_cons_succ]
                  refine Open.take (i := 4) (v := ?_) rfl (by kernel_rfl) (by kernel_rfl) (by kernel_rfl) (by kernel_rfl) (fun _ _ _ h => h) HS (Or.inl ⟨rfl, ?_⟩) ?_
                  rotate_left
                  · rintro w' ⟨k1, k2, k3⟩
                    go_simp
                    try rfl
                  simp only [Act.put, List.setIfInBounds_toArray, List.set_cons_zero, List.set_cons_succ]
                  refine Open.take (i := 5) (v := ?_) rfl (by kernel_rfl) (by kernel_rfl) (by kernel_rfl) (by kernel_rfl) (fun _ _ _ h => h) HS (Or.inl ⟨rfl, ?_⟩) ?_
                  rotate_left
                  · rintro w' ⟨k1, k2, k3⟩
                    go_simp
                    try rfl
                  simp only [Act.put, List.setIfInBounds_toArray, List.set_cons_zero, List.set_cons_succ]
                  refine Open.take (i := 6) (v := ?_) rfl (by kernel_rfl) (by kernel_rfl) (by kernel_rfl) (by kernel_rfl) (fun _ _ _ h => h) HS (Or.inl ⟨rfl, ?_⟩) ?_
                  rotate_left
                  · rintro w' ⟨k1, k2, k3⟩
                    go_simp
                    try rfl
                  simp only [Act.put, List.setIfInBounds_toArray, List.set_cons_zero, List.set_cons_succ]
                  refine Open.take (i := 7) (v := ?_) rfl (by kernel_rfl) (by kernel_rfl) (by kernel_rfl) (by kernel_rfl) (fun _ _ _ h => h) HS (Or.inl ⟨rfl, ?_⟩) ?_
                  rotate_left
                  · rintro w' ⟨k1, k2, k3⟩
                    go_simp
                    try rfl
                  simp only [Act.put, List.setIfInBounds_toArray, List.set_cons_zero, List.set_cons_succ]
                  refine Open.take (i := 8) (v := ?_) rfl (by kernel_rfl) (by kernel_rfl) (by kernel_rfl) (by kernel_rfl) (fun _ _ _ h => h) HS (Or.inl ⟨rfl, ?_⟩) ?_
                  rotate_left
                  · rintro w' ⟨k1, k2, k3⟩
                    go_simp
                    try rfl
                  simp only [Act.put, List.setIfInBounds_toArray, List.set_cons_zero, List.set_cons_succ]
                  refine Open.take (i := 9) (v := ?_) rfl (by kernel_rfl) (by kernel_rfl) (by kernel_rfl) (by kernel_rfl) (fun _ _ _ h => h) HS (Or.inl ⟨rfl, ?_⟩) ?_
                  rotate_left
                  · rintro w' ⟨k1, k2, k3⟩
                    go_simp
                    try rfl
                  simp only [Act.put, List.setIfInBounds_toArray, List.set_cons_zero, List.set_cons_succ]
                  have l1 := Nf.blk_lt HRv.out.rblk
                  have l2 := Nf.blk_lt HRv.out.nblk
                  have l3 := World.block_lt_of_cell? wr _ c0
                  refine Open.one (i := 10) rfl (by kernel_rfl) rfl (fun K hK => ?_)
                  go_simp
                  refine hK _ _ ⟨fun _ => ⟨?_, ?_, ?_⟩, ?_⟩
                  · simpa [World.cell?_alloc_past _ _ _ l1] using cL
                  · simpa [World.cell?_alloc_past _ _ _ l2] using d3
                  · simpa [World.cell?_alloc_past _ _ _ l3] using c0
                  clear hK K
                  refine Open.one (i := 11) rfl (by kernel_rfl) rfl (fun K hK => ?_)
                  refine wp_append_lies _ _ _ 23 (by rfl) w.heap.size 53 i0 _ 5 56 Try.underlying23 hi hiz0 hiz1 hiz2 rfl (by decide) lv _ _ (by rfl) HR2.out.lown ⟨wr.heap.size, 0, none⟩ 1 1 [.int .i64 0, .string ⟨#[]⟩, .string ⟨#[]⟩, .int .i64 (xs + 1), .int .i64 0] (by rfl) rfl (World.news_of_block (cs := #[.int .i64 0, .string ⟨#[]⟩, .string ⟨#[]⟩, .int .i64 (xs + 1), .int .i64 0]) (t := 53) (fr := (0, 0)) (heap_alloc_new wr _)) (by simp [Value.oneCell']) (by omega) ?_ ?_ ?_ (wr.heap.size + 1) (by simp) ?_
                  · unfold maxLen; omega
                  · omega
                  · simp; omega
                  intro g2 cap2 w5 hown5 hgrow5 hat5 hlt5
                  have r5 := Nf.blk_grown HR2.out.rblk hgrow5 (Nf.own_ne HR2.out.lown HR2.out.rblk (by decide))
                  have n5 := Nf.blk_grown HR2.out.nblk hgrow5 (Nf.own_ne HR2.out.lown HR2.out.nblk (by decide))
                  have m1 : w5.cell? ⟨rB, 2, none⟩ = some lv := Nf.blk_cell (i := 2) r5 rfl
                  have m2 : w5.cell? ⟨w.heap.size, 3, none⟩ = some (.slice (some ⟨b, off, none⟩) en ecap) := Nf.blk_cell (i := 3) n5 rfl
                  have m3 : w5.cell? ⟨b, off + k * 2, none⟩ = some (.int .i64 xs) := by
                    rw [hgrow5.cell_far ⟨b, off + k * 2, none⟩ (by simp; omega) (fun e => by have := (HR2.out.lown.lt b e.symm).1; have h9 : b < w.heap.size := hbw; omega)]
                    simpa [World.cell?_alloc_past _ _ _ l3] using c0
                  have fL5 := Nf.blk_free (i := 2) r5
                  have HP := Sp.hid (HR2.out.push (a := ⟨0, Nf.eps, Nf.eps, xs + 1, 0⟩) hgrow5 (by simpa [Nf.arcCells, Nf.eps] using hown5))
                  refine hK _ _ ⟨fun _ => ⟨m1, m2, m3⟩, ?_⟩
                  clear hK K HS hown5 hgrow5 hat5 hlt5 r5 n5 cL d3 c0
                  have HS : w5.cell? ⟨rB, 2, none⟩ = some (lv) ∧ w5.cell? ⟨w.heap.size, 3, none⟩ = some (.slice (some ⟨b, off, none⟩) en ecap) ∧ w5.cell? ⟨b, off + k * 2, none⟩ = some (.int .i64 xs) := ⟨m1, m2, m3⟩
                  refine Open.take (i := 12) (v := ?_) rfl (by kernel_rfl) (by kernel_rfl) (by kernel_rfl) (by kernel_rfl) (fun _ _ _ h => h) HS (Or.inl ⟨rfl, ?_⟩) ?_
                  rotate_left
                  · rintro w' ⟨k1, k2, k3⟩
                    go_simp
                    try rfl
                  simp only [Act.put, List.setIfInBounds_toArray, List.set_cons_zero, List.set_cons_succ]
                  refine Open.one (i := 13) rfl (by kernel_rfl) rfl (fun K hK => ?_)
                  go_simp
                  refine hK _ _ ⟨fun e => absurd rfl e, ?_⟩
                  clear hK K HS m1 m2 m3 fL5 l1 l2 l3 hwr
                  refine Open.end (by kernel_rfl) ?_
                  go_wp2_with fail
                  go_roundw
                  case rel =>
                    refine ⟨k + 1, .slice (some ⟨g2, 0, none⟩) (LA.length + 1) cap2, by go_num, hkn, ?_⟩
                    rw [Htk.out, List.map_append, ← List.append_assoc, HLA.out]
                    exact HP.out
                  case measure => simp [intOf]; omega
                · have hst3 : sig.length ≤ maxLen := by have h := HN.out.sig.1; simp only at h; rw [h]; exact HN.out.sig.2.1
                  have hRf := HRv.out
                  have hsz : ∀ x ∈ ((arcs.map fun a : ArcV => (⟨a.t + 1, a.i, a.o, a.f + 1, 0⟩ : ArcV)) ++ (ends.take k).map fun d : EndV => (⟨0, Nf.eps, Nf.eps, d.s + 1, 0⟩ : ArcV)), x.i.size ≤ maxLen ∧ x.o.size ≤ maxLen := by
                    intro x hx
                    rcases List.mem_append.1 hx with hx | hx
                    · obtain ⟨a, ha, rfl⟩ := List.mem_map.1 hx
                      exact HN.out.arcs.2.2.2 a ha
                    · obtain ⟨d, _, rfl⟩ := List.mem_map.1 hx
                      exact ⟨show Nf.eps.size ≤ maxLen by decide, show Nf.eps.size ≤ maxLen by decide⟩
                  have hln : ((arcs.map fun a : ArcV => (⟨a.t + 1, a.i, a.o, a.f + 1, 0⟩ : ArcV)) ++ (ends.take k).map fun d : EndV => (⟨0, Nf.eps, Nf.eps, d.s + 1, 0⟩ : ArcV)).length ≤ 60000 := by
                    have h8 : arcs.length = an := Hla.out
                    have h9 : ends.length = en := Hle.out
                    simp; omega
                  obtain ⟨m, hm, hm1, hm2, hm3, hm4, hmall⟩ := hRf.res hln hsz HN.out.sig.2.2.2 hst3 (by omega) (by omega)
                  obtain ⟨mso, msn, mscap, msig, mst, mao, man, macap, marcs, meo, men, mecap, mends⟩ := m
                  simp only [Nf.Net.cells, Array.mk.injEq, List.cons.injEq, and_true] at hm
                  obtain ⟨rfl, hm5, rfl, hm6⟩ := hm
                  have k0 := Nf.blk_cell (i := 0) hRf.rblk rfl
                  have k1 : wr.cell? ⟨rB, 1, none⟩ = some (.int .i64 (st + 1)) := Nf.blk_cell (i := 1) hRf.rblk rfl
                  have k2 := Nf.blk_cell (i := 2) hRf.rblk rfl
                  have k3 : wr.cell? ⟨rB, 3, none⟩ = some (.slice (some ⟨eB, 0, none⟩) 1 1) := Nf.blk_cell (i := 3) hRf.rblk rfl
                  have y0 : wr.cell? ⟨w.heap.size + 1, 0, none⟩ = some (.slice none 0 0) := Nf.blk_cell (i := 0) hRf.zblk rfl
                  have y1 : wr.cell? ⟨w.heap.size + 1, 1, none⟩ = some (.int .i64 0) := Nf.blk_cell (i := 1) hRf.zblk rfl
                  have y2 : wr.cell? ⟨w.heap.size + 1, 2, none⟩ = some (.slice none 0 0) := Nf.blk_cell (i := 2) hRf.zblk rfl
                  have y3 : wr.cell? ⟨w.heap.size + 1, 3, none⟩ = some (.slice none 0 0) := Nf.blk_cell (i := 3) hRf.zblk rfl
                  have f0 := Nf.blk_free (i := 0) hRf.zblk
                  have f1 := Nf.blk_free (i := 1) hRf.zblk
                  have f2 := Nf.blk_free (i := 2) hRf.zblk
                  have f3 := Nf.blk_free (i := 3) hRf.zblk
                  have Hm := Sp.hid (hmall (.slice mso msn mscap) (.int .i64 (st + 1)) (.slice mao man macap) (.slice (some ⟨eB, 0, none⟩) 1 1))
                  have Hrev := Sp.hid (show Nf.revErr ⟨so, sn, scap, sig, st, ao, an, acap, arcs, eo, en, ecap, ends⟩ = 0 by
                    unfold Nf.revErr
                    have h8 : arcs.length = an := Hla.out
                    have h9 : ends.length = en := Hle.out
                    rw [Hre.out, if_neg (by simp), if_neg (show ¬ (st = 3000 ∨ 60000 < arcs.length + ends.length) by rw [h8, h9]; omega)])
                  clear hRf hsz hln hmall hm1 hm2 hm3 hm4 hm5 hm6 HRv hst3
                  go_wp2_with fail
                  obtain ⟨w6, hw6⟩ : ∃ w6, (((wr.setCell ⟨w.heap.size + 1, 0, none⟩ (.slice mso msn mscap)).setCell ⟨w.heap.size + 1, 1, none⟩ (.int .i64 (st + 1))).setCell ⟨w.heap.size + 1, 2, none⟩ (.slice mao man macap)).setCell ⟨w.heap.size + 1, 3, none⟩ (.slice (some ⟨eB, 0, none⟩) 1 1) = w6 := ⟨_, rfl⟩
                  rw [hw6] at Hm ⊢
                  obtain ⟨g1, g2, g3⟩ := Hm.out
                  have q0 := Nf.blk_cell (i := 0) (v := .slice mso msn mscap) g2 rfl
                  have q1 := Nf.blk_cell (i := 1) (v := .int .i64 (st + 1)) g2 rfl
                  have q2 := Nf.blk_cell (i := 2) (v := .slice mao man macap) g2 rfl
                  have q3 := Nf.blk_cell (i := 3) (v := .slice (some ⟨eB, 0, none⟩) 1 1) g2 rfl
                  refine bodyPost_ret (v := .tuple #[.agg #[.slice mso msn mscap, .int .i64 (st + 1), .slice mao man macap, .slice (some ⟨eB, 0, none⟩) 1 1], .int .i64 0]) (by simp [results, Try.results20, go_sem, Try.underlying26, Try.isAgg26, Try.sizeOf26, q0, q1, q2, q3]) rfl ?_
                  exact ⟨⟨mso, msn, mscap, [], st + 1, mao, man, macap, [], some ⟨eB, 0, none⟩, 1, 1, []⟩, by rw [Hrev.out]; rfl, g3⟩
  · skip
    have HNE := Sp.hid h0
    have h3 : (r != 0) = true := by simpa using h0
    go_enter Try.func20, Try.ntmps20
    go_wp2_with fail
    rw [Hw1.out]
    refine HV.out.mono ?_
    rintro e w2 ⟨rfl, hb2⟩
    have nB2 := Nf.blk_below NB.out hb2 (Nf.blk_lt NB.out)
    have nR2 := Nf.blk_below NR.out hb2 (Nf.blk_lt NR.out)
    have B02 := Sp.hid (B01.out.trans (hb2.mono B01.out.size))
    have y0 : w2.cell? ⟨w.heap.size + 1, 0, none⟩ = some (.slice none 0 0) := Nf.blk_cell (i := 0) nR2 rfl
    have y1 : w2.cell? ⟨w.heap.size + 1, 1, none⟩ = some (.int .i64 0) := Nf.blk_cell (i := 1) nR2 rfl
    have y2 : w2.cell? ⟨w.heap.size + 1, 2, none⟩ = some (.slice none 0 0) := Nf.blk_cell (i := 2) nR2 rfl
    have y3 : w2.cell? ⟨w.heap.size + 1, 3, none⟩ = some (.slice none 0 0) := Nf.blk_cell (i := 3) nR2 rfl
    have f0 := Nf.blk_free (i := 0) nR2
    have f1 := Nf.blk_free (i := 1) nR2
    have f2 := Nf.blk_free (i := 2) nR2
    have f3 := Nf.blk_free (i := 3) nR2
    have hR5 := Nf.blk_set (i := 3) (Nf.blk_set (i := 2) (Nf.blk_set (i := 1) (Nf.blk_set (i := 0) nR2 (.slice none 0 0)) (.int .i64 0)) (.slice none 0 0)) (.slice none 0 0)
    have B05 := Sp.hid ((((B02.out.setCell (p := ⟨w.heap.size + 1, 0, none⟩) (show w.heap.size ≤ w.heap.size + 1 by omega) (.slice none 0 0)).setCell (p := ⟨w.heap.size + 1, 1, none⟩) (show w.heap.size ≤ w.heap.size + 1 by omega) (.int .i64 0)).setCell (p := ⟨w.heap.size + 1, 2, none⟩) (show w.heap.size ≤ w.heap.size + 1 by omega) (.slice none 0 0)).setCell (p := ⟨w.heap.size + 1, 3, none⟩) (show w.heap.size ≤ w.heap.size + 1 by omega) (.slice none 0 0))
    have HR5 := Sp.hid hR5
    have Hrev := Sp.hid (show Nf.revErr ⟨so, sn, scap, sig, st, ao, an, acap, arcs, eo, en, ecap, ends⟩ = r by
      unfold Nf.revErr
      rw [Hre.out, if_pos h0])
    clear hR5 nB2 nR2 hb2
    go_wp2_with fail
    obtain ⟨w6, hw6⟩ : ∃ w6, (((w2.setCell ⟨w.heap.size + 1, 0, none⟩ (.slice none 0 0)).setCell ⟨w.heap.size + 1, 1, none⟩ (.int .i64 0)).setCell ⟨w.heap.size + 1, 2, none⟩ (.slice none 0 0)).setCell ⟨w.heap.size + 1, 3, none⟩ (.slice none 0 0) = w6 := ⟨_, rfl⟩
    rw [hw6] at B05 HR5 ⊢
    have q0 := Nf.blk_cell (i := 0) (v := .slice none 0 0) HR5.out rfl
    have q1 := Nf.blk_cell (i := 1) (v := .int .i64 0) HR5.out rfl
    have q2 := Nf.blk_cell (i := 2) (v := .slice none 0 0) HR5.out rfl
    have q3 := Nf.blk_cell (i := 3) (v := .slice none 0 0) HR5.out rfl
    refine bodyPost_ret (v := .tuple #[.agg #[.slice none 0 0, .int .i64 0, .slice none 0 0, .slice none 0 0], .int .i64 r]) (by simp [results, Try.results20, go_sem, Try.underlying26, Try.isAgg26, Try.sizeOf26, q0, q1, q2, q3]) rfl ?_
    exact ⟨Nf.zeroNet, by rw [Hrev.out]; rfl, B05.out⟩
end Go.Proofs.Ytnkpgcmjnbgodaa
