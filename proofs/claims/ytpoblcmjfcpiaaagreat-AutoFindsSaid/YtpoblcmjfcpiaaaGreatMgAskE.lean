/-
  The walks of Empty, the program's and the reference's, and of the reference's Finite.
-/
import Derived.Test.YtpoblcmjfcpiaaaGreatMgReBf
import Derived.Test.YtpoblcmjfcpiaaaGreatMgAuZAuZaAuKnAuLa
import Derived.Test.YtpoblcmjfcpiaaaGreatMgAuRv
import Derived.Deep.RegionHeld3
set_option linter.unusedVariables false
set_option linter.unusedSimpArgs false
namespace Go.Proofs.YtpoblcmjfcpiaaaGreat
open Go.RowKit
namespace Nf
noncomputable def emptySpec (n : Net) : Bool × Int := if errNet n ≠ 0 then (false, errNet n) else (!bl (Live (netGr n) 0), 0)
def EmptyPost (n : Net) (w : World) (e : Ending) (w' : World) : Prop := e = .returned (.tuple #[.bool (emptySpec n).1, .int .i64 (emptySpec n).2]) ∧ Below w.heap.size w w'
end Nf

set_option maxHeartbeats 2000000 in
set_option maxRecDepth 100000 in
theorem empty_any (w : World) (n : Nf.Net) (h : Nf.NetAt w n) :
    Calls Tryz.prog 13 #[n.val] w (Nf.EmptyPost n w) := by
  have hb0 : Below w.heap.size w (w.alloc (.cells n.cells 26)) := (Below.refl _ w).alloc (Nat.le_refl _) _
  have hblk : (w.alloc (.cells n.cells 26)).heap[w.heap.size]? = some (.cells n.cells 26 (0, 0)) := Nf.Below.heap_new w _
  have HC := Sp.hid (netValidate_any _ n (h.below hb0))
  have Hb0 := Sp.hid hb0
  have Hblk := Sp.hid hblk
  have hp : Nf.EmptyPost n w = fun e w' => e = .returned (.tuple #[.bool (Nf.emptySpec n).1, .int .i64 (Nf.emptySpec n).2]) ∧ Below w.heap.size w w' := rfl
  rw [hp]
  by_cases he : Nf.errNet n = 0
  · have hs := Sp.hid (show Nf.emptySpec n = (!Nf.bl (Nf.Live (Nf.netGr n) 0), 0) by unfold Nf.emptySpec; rw [if_neg (by simpa using he)])
    rw [hs.out]
    have HPre := Sp.hid (fun (w2 : World) (hb : Below w.heap.size w w2) => (Nf.errNet_pre (h.below hb) he).2.2)
    have hst := (Nf.errNet_pre h he).1
    have hgr := Sp.hid (show Nf.netGr n = Nf.grOf n.sig n.st.toNat n.arcs n.ends from rfl)
    rw [he] at HC
    obtain ⟨N, hN⟩ : ∃ N, n.st.toNat = N := ⟨_, rfl⟩
    rw [hN] at HPre hst hgr
    have hNg : (Nf.netGr n).N = N := by rw [hgr.out]; rfl
    have HNg := Sp.hid hNg
    generalize Nf.netGr n = gr at hgr HNg ⊢
    obtain ⟨r, hr⟩ : ∃ r, Nf.bl (Nf.Live gr 0) = r := ⟨_, rfl⟩
    rw [hr]
    have Hr := Sp.hid hr
    clear h hb0 hblk he hs hp hN hNg hr
    obtain ⟨so, sn, scap, sig, st, ao, an, acap, arcs, eo, en, ecap, ends⟩ := n
    unfold Nf.Net.val at *
    simp only [Nf.Net.cells] at *
    subst hst
    go_enter Tryz.func13, Tryz.ntmps13
    go_wp2_with fail
    refine HC.out.mono ?_
    rintro e w2 ⟨rfl, hb2⟩
    have hblk2 := Nf.blk_below Hblk.out hb2 (by simp)
    have d0 : w2.cell? ⟨w.heap.size, 0, none⟩ = some (.slice so sn scap) := Nf.blk_cell (i := 0) hblk2 rfl
    have d1 : w2.cell? ⟨w.heap.size, 1, none⟩ = some (.int .i64 (N : Int)) := Nf.blk_cell (i := 1) hblk2 rfl
    have d2 : w2.cell? ⟨w.heap.size, 2, none⟩ = some (.slice ao an acap) := Nf.blk_cell (i := 2) hblk2 rfl
    have d3 : w2.cell? ⟨w.heap.size, 3, none⟩ = some (.slice eo en ecap) := Nf.blk_cell (i := 3) hblk2 rfl
    have Hb2 := Sp.hid (Hb0.out.trans (hb2.mono Hb0.out.size))
    have HGo := Sp.hid (index_any w2 so sn scap sig N ao an acap arcs eo en ecap ends (HPre.out w2 Hb2.out))
    rw [← hgr.out] at HGo
    clear hb2 hblk2
    go_wp2_with fail
    refine HGo.out.mono ?_
    rintro e w3 ⟨gb, v, rfl, hG3, hb3⟩
    have Hb3 := Sp.hid (Hb2.out.trans (hb3.mono Hb2.out.size))
    have hN0 : 0 < N := by rw [← HNg.out]; exact hG3.ok.pos
    have i1 : (0 : Int) < (N : Int) := by omega
    have hL5 : Calls Tryz.prog 30 #[.pointer (some ⟨gb, 0, none⟩)] w3 (fun e w5 => ∃ (mb cp : Nat), e = .returned (.slice (some ⟨mb, 0, none⟩) N cp) ∧ w5.cell? ⟨mb, 0, none⟩ = some (.bool r) ∧ Hid (Below w3.heap.size w3 w5)) := by
      refine (live_any w3 gb v gr hG3).mono ?_
      rintro e w5 ⟨mb, rfl, h1, h2⟩
      exact ⟨mb, N, by rw [HNg.out], by rw [← Hr.out]; exact h1.2 0 (by rw [HNg.out]; exact hN0), Sp.hid h2⟩
    have HL5 := Sp.hid hL5
    clear hG3 hb3 d0 d1 d2 d3 hL5
    go_wp2_with fail
    refine HL5.out.mono ?_
    rintro e w5 ⟨mb, cp, rfl, c0, Hb5⟩
    have Hbf := Sp.hid (Hb3.out.trans (Hb5.out.mono Hb3.out.size))
    go_wp2_with fail
    go_ret2
    exact ⟨rfl, Hbf.out⟩
  · have hs := Sp.hid (show Nf.emptySpec n = (false, Nf.errNet n) by unfold Nf.emptySpec; rw [if_pos he])
    rw [hs.out]
    generalize Nf.errNet n = r at HC he
    have h3 : (r != 0) = true := by simpa using he
    clear h hb0 hblk he hs hp
    obtain ⟨so, sn, scap, sig, st, ao, an, acap, arcs, eo, en, ecap, ends⟩ := n
    unfold Nf.Net.val at *
    simp only [Nf.Net.cells] at *
    go_enter Tryz.func13, Tryz.ntmps13
    go_wp2_with fail
    refine HC.out.mono ?_
    rintro e w2 ⟨rfl, hb2⟩
    have Hb2 := Sp.hid (Hb0.out.trans (hb2.mono Hb0.out.size))
    clear hb2
    go_wp2_with fail
    go_ret2
    exact ⟨rfl, Hb2.out⟩

set_option maxHeartbeats 2000000 in
set_option maxRecDepth 100000 in
theorem refEmpty_any (w : World) (n : Nf.Net) (h : Nf.NetAt w n) :
    Calls Tryz.prog 14 #[n.val] w (Nf.EmptyPost n w) := by
  have hb0 : Below w.heap.size w (w.alloc (.cells n.cells 26)) := (Below.refl _ w).alloc (Nat.le_refl _) _
  have hblk : (w.alloc (.cells n.cells 26)).heap[w.heap.size]? = some (.cells n.cells 26 (0, 0)) := Nf.Below.heap_new w _
  have HC := Sp.hid (refValidN_any _ n (h.below hb0))
  have Hb0 := Sp.hid hb0
  have Hblk := Sp.hid hblk
  have hp : Nf.EmptyPost n w = fun e w' => e = .returned (.tuple #[.bool (Nf.emptySpec n).1, .int .i64 (Nf.emptySpec n).2]) ∧ Below w.heap.size w w' := rfl
  rw [hp]
  by_cases he : Nf.errNet n = 0
  · have hs := Sp.hid (show Nf.emptySpec n = (!Nf.bl (Nf.Live (Nf.netGr n) 0), 0) by unfold Nf.emptySpec; rw [if_neg (by simpa using he)])
    rw [hs.out]
    have HPre := Sp.hid (fun (w2 : World) (hb : Below w.heap.size w w2) => (Nf.errNet_pre (h.below hb) he).2.2)
    have hst := (Nf.errNet_pre h he).1
    have hgr := Sp.hid (show Nf.netGr n = Nf.grOf n.sig n.st.toNat n.arcs n.ends from rfl)
    rw [he] at HC
    obtain ⟨N, hN⟩ : ∃ N, n.st.toNat = N := ⟨_, rfl⟩
    rw [hN] at HPre hst hgr
    have hNg : (Nf.netGr n).N = N := by rw [hgr.out]; rfl
    have HNg := Sp.hid hNg
    generalize Nf.netGr n = gr at hgr HNg ⊢
    obtain ⟨r, hr⟩ : ∃ r, Nf.bl (Nf.Live gr 0) = r := ⟨_, rfl⟩
    rw [hr]
    have Hr := Sp.hid hr
    clear h hb0 hblk he hs hp hN hNg hr
    obtain ⟨so, sn, scap, sig, st, ao, an, acap, arcs, eo, en, ecap, ends⟩ := n
    unfold Nf.Net.val at *
    simp only [Nf.Net.cells] at *
    subst hst
    go_enter Tryz.func14, Tryz.ntmps14
    go_wp2_with fail
    refine HC.out.mono ?_
    rintro e w2 ⟨rfl, hb2⟩
    have hblk2 := Nf.blk_below Hblk.out hb2 (by simp)
    have d0 : w2.cell? ⟨w.heap.size, 0, none⟩ = some (.slice so sn scap) := Nf.blk_cell (i := 0) hblk2 rfl
    have d1 : w2.cell? ⟨w.heap.size, 1, none⟩ = some (.int .i64 (N : Int)) := Nf.blk_cell (i := 1) hblk2 rfl
    have d2 : w2.cell? ⟨w.heap.size, 2, none⟩ = some (.slice ao an acap) := Nf.blk_cell (i := 2) hblk2 rfl
    have d3 : w2.cell? ⟨w.heap.size, 3, none⟩ = some (.slice eo en ecap) := Nf.blk_cell (i := 3) hblk2 rfl
    have Hb2 := Sp.hid (Hb0.out.trans (hb2.mono Hb0.out.size))
    have HGo := Sp.hid (graphOf_any w2 so sn scap sig N ao an acap arcs eo en ecap ends (HPre.out w2 Hb2.out))
    rw [← hgr.out] at HGo
    clear hb2 hblk2
    go_wp2_with fail
    refine HGo.out.mono ?_
    rintro e w3 ⟨eb, db, R, rfl, hG3, hb3⟩
    have Hb3 := Sp.hid (Hb2.out.trans (hb3.mono Hb2.out.size))
    have hN0 : 0 < N := by rw [← HNg.out]; exact hG3.ok.pos
    have i1 : (0 : Int) < (N : Int) := by omega
    have hL5 : Calls Tryz.prog 34 #[.agg #[.int .i64 0, .slice (some ⟨eb, 0, none⟩) N N, .slice (some ⟨db, 0, none⟩) N N]] w3 (fun e w5 => ∃ (mb cp : Nat), e = .returned (.slice (some ⟨mb, 0, none⟩) N cp) ∧ w5.cell? ⟨mb, 0, none⟩ = some (.bool r) ∧ Hid (Below w3.heap.size w3 w5)) := by
      have ha := alive_any w3 eb db R gr hG3
      unfold Nf.rfVal at ha
      rw [HNg.out] at ha
      refine ha.mono ?_
      rintro e w5 ⟨mb, cp, rfl, h1, h2⟩
      rw [HNg.out] at h1
      exact ⟨mb, cp, by rw [HNg.out], by rw [← Hr.out]; exact h1.cell hN0, Sp.hid h2⟩
    unfold Nf.rfVal
    rw [HNg.out]
    have HL5 := Sp.hid hL5
    clear hG3 hb3 d0 d1 d2 d3 hL5
    go_wp2_with fail
    refine HL5.out.mono ?_
    rintro e w5 ⟨mb, cp, rfl, c0, Hb5⟩
    have Hbf := Sp.hid (Hb3.out.trans (Hb5.out.mono Hb3.out.size))
    go_wp2_with fail
    go_ret2
    exact ⟨rfl, Hbf.out⟩
  · have hs := Sp.hid (show Nf.emptySpec n = (false, Nf.errNet n) by unfold Nf.emptySpec; rw [if_pos he])
    rw [hs.out]
    generalize Nf.errNet n = r at HC he
    have h3 : (r != 0) = true := by simpa using he
    clear h hb0 hblk he hs hp
    obtain ⟨so, sn, scap, sig, st, ao, an, acap, arcs, eo, en, ecap, ends⟩ := n
    unfold Nf.Net.val at *
    simp only [Nf.Net.cells] at *
    go_enter Tryz.func14, Tryz.ntmps14
    go_wp2_with fail
    refine HC.out.mono ?_
    rintro e w2 ⟨rfl, hb2⟩
    have Hb2 := Sp.hid (Hb0.out.trans (hb2.mono Hb0.out.size))
    clear hb2
    go_wp2_with fail
    go_ret2
    exact ⟨rfl, Hb2.out⟩

set_option maxHeartbeats 2000000 in
set_option maxRecDepth 100000 in
theorem refFinite_any (w : World) (n : Nf.Net) (h : Nf.NetAt w n) :
    Calls Tryz.prog 16 #[n.val] w (Nf.FinPost n w) := by
  have hb0 : Below w.heap.size w (w.alloc (.cells n.cells 26)) := (Below.refl _ w).alloc (Nat.le_refl _) _
  have hblk : (w.alloc (.cells n.cells 26)).heap[w.heap.size]? = some (.cells n.cells 26 (0, 0)) := Nf.Below.heap_new w _
  have HV := Sp.hid (refValidN_any _ n (h.below hb0))
  have hspec : Nf.finSpec n = if Nf.errNet n ≠ 0 then (false, Nf.errNet n) else (!Nf.bl (Nf.Lg (Nf.netGr n) n.st.toNat 0), 0) := rfl
  have Hspec := Sp.hid hspec
  have Hblk := Sp.hid hblk
  have HB0 := Sp.hid hb0
  have HN := Sp.hid h
  have HIdx := Sp.hid (fun (he : Nf.errNet n = 0) (w2 : World) (hb : Below w.heap.size w w2) => (Nf.errNet_pre (h.below hb) he).2.2)
  have HE := Sp.hid (fun (he : Nf.errNet n = 0) => (Nf.errNet_pre h he).1)
  have HE2 := Sp.hid (fun (he : Nf.errNet n = 0) => (Nf.errNet_pre h he).2.1)
  have hp : Nf.FinPost n w = fun e w' => e = .returned (.tuple #[.bool (Nf.finSpec n).1, .int .i64 (Nf.finSpec n).2]) ∧ Below w.heap.size w w' := rfl
  rw [hp]
  generalize Nf.finSpec n = spec at Hspec
  clear h hb0 hblk hspec hp
  by_cases he : Nf.errNet n = 0
  · have Hs2 := Sp.hid (by have := Hspec.out; rwa [if_neg (by simpa using he)] at this)
    have HI := Sp.hid (HIdx.out he)
    have hst := HE.out he
    have hst2 := HE2.out he
    have Hgr := Sp.hid (show Nf.netGr n = Nf.grOf n.sig n.st.toNat n.arcs n.ends from rfl)
    rw [he] at HV
    obtain ⟨N, hN⟩ : ∃ N, n.st.toNat = N := ⟨_, rfl⟩
    rw [hN] at HI hst Hgr Hs2
    generalize Nf.netGr n = gr at Hs2 Hgr
    clear Hspec HIdx HE HE2 he hN
    obtain ⟨so, sn, scap, sig, st, ao, an, acap, arcs, eo, en, ecap, ends⟩ := n
    unfold Nf.Net.val at *
    simp only [Nf.Net.cells] at *
    subst hst
    have hn2 : N ≤ 3000 := by omega
    obtain ⟨B, hB⟩ : ∃ B, w.heap.size = B := ⟨_, rfl⟩
    have HBs := Sp.hid hB
    have HX : RowKit.Hid (∀ w2 : World, RowKit.Hid (Below w.heap.size w w2) → w2.cell? ⟨B, 0, none⟩ = some (.slice so sn scap) → w2.cell? ⟨B, 1, none⟩ = some (.int .i64 (N : Int)) → w2.cell? ⟨B, 2, none⟩ = some (.slice ao an acap) → w2.cell? ⟨B, 3, none⟩ = some (.slice eo en ecap) →
        Calls Tryz.prog 33 #[.agg #[.slice so sn scap, .int .i64 N, .slice ao an acap, .slice eo en ecap]] w2 (fun e w3 => ∃ eb db R, e = .returned (.agg #[.int .i64 0, .slice (some ⟨eb, 0, none⟩) N N, .slice (some ⟨db, 0, none⟩) N N]) ∧ RowKit.Hid (Nf.RfAt w3 eb db R (Nf.grOf sig N arcs ends)) ∧ RowKit.Hid (Below w.heap.size w w3) ∧
          w3.cell? ⟨B, 0, none⟩ = some (.slice so sn scap) ∧ w3.cell? ⟨B, 1, none⟩ = some (.int .i64 (N : Int)) ∧ w3.cell? ⟨B, 2, none⟩ = some (.slice ao an acap) ∧ w3.cell? ⟨B, 3, none⟩ = some (.slice eo en ecap))) := Sp.hid (by
      intro w2 hb c0 c1 c2 c3
      refine (graphOf_any w2 so sn scap sig N ao an acap arcs eo en ecap ends (HI.out w2 hb.out)).mono ?_
      rintro e w3 ⟨eb, db, R, rfl, hG, hb3⟩
      have l := World.block_lt_of_cell? w2 _ c0
      exact ⟨eb, db, R, rfl, Sp.hid hG, Sp.hid (hb.out.trans (hb3.mono hb.out.size)), by rw [hb3.cell (p := ⟨B, 0, none⟩) l]; exact c0, by rw [hb3.cell (p := ⟨B, 1, none⟩) l]; exact c1, by rw [hb3.cell (p := ⟨B, 2, none⟩) l]; exact c2, by rw [hb3.cell (p := ⟨B, 3, none⟩) l]; exact c3⟩)
    have HH : RowKit.Hid (∀ (w2 : World) (eb db : Nat) (R : Nat → List (ByteArray × Nat)), RowKit.Hid (Nf.RfAt w2 eb db R (Nf.grOf sig N arcs ends)) → RowKit.Hid (Below w.heap.size w w2) → w2.cell? ⟨B, 0, none⟩ = some (.slice so sn scap) → w2.cell? ⟨B, 1, none⟩ = some (.int .i64 (N : Int)) → w2.cell? ⟨B, 2, none⟩ = some (.slice ao an acap) → w2.cell? ⟨B, 3, none⟩ = some (.slice eo en ecap) →
        Calls Tryz.prog 43 #[.agg #[.int .i64 0, .slice (some ⟨eb, 0, none⟩) N N, .slice (some ⟨db, 0, none⟩) N N], .int .i64 N] w2 (fun e w3 => e = .returned (.bool (Nf.bl (Nf.Lg gr N 0))) ∧ RowKit.Hid (Below w.heap.size w w3) ∧
          w3.cell? ⟨B, 0, none⟩ = some (.slice so sn scap) ∧ w3.cell? ⟨B, 1, none⟩ = some (.int .i64 (N : Int)) ∧ w3.cell? ⟨B, 2, none⟩ = some (.slice ao an acap) ∧ w3.cell? ⟨B, 3, none⟩ = some (.slice eo en ecap))) := Sp.hid (by
      intro w2 eb db R hG hb c0 c1 c2 c3
      refine (isLonger_any w2 eb db N R _ hG.out hn2).mono ?_
      rintro e w3 ⟨rfl, hb3⟩
      have l := World.block_lt_of_cell? w2 _ c0
      exact ⟨by rw [Hgr.out], Sp.hid (hb.out.trans (hb3.mono hb.out.size)), by rw [hb3.cell (p := ⟨B, 0, none⟩) l]; exact c0, by rw [hb3.cell (p := ⟨B, 1, none⟩) l]; exact c1, by rw [hb3.cell (p := ⟨B, 2, none⟩) l]; exact c2, by rw [hb3.cell (p := ⟨B, 3, none⟩) l]; exact c3⟩)
    rw [Hs2.out]
    clear hst2 Hgr HI Hs2
    generalize Nf.bl (Nf.Lg gr N 0) = r at HH
    go_enter Tryz.func16, Tryz.ntmps16
    go_wp2_with fail
    refine HV.out.mono ?_
    rintro e w2 ⟨rfl, hb2⟩
    have hblk2 := Nf.blk_below Hblk.out hb2 (by simp)
    rw [hB] at hblk2
    have d0 : w2.cell? ⟨B, 0, none⟩ = some (.slice so sn scap) := Nf.blk_cell (i := 0) hblk2 rfl
    have d1 : w2.cell? ⟨B, 1, none⟩ = some (.int .i64 (N : Int)) := Nf.blk_cell (i := 1) hblk2 rfl
    have d2 : w2.cell? ⟨B, 2, none⟩ = some (.slice ao an acap) := Nf.blk_cell (i := 2) hblk2 rfl
    have d3 : w2.cell? ⟨B, 3, none⟩ = some (.slice eo en ecap) := Nf.blk_cell (i := 3) hblk2 rfl
    have HB2 := Sp.hid (show Below w.heap.size w w2.drew from (HB0.out.trans (hb2.mono HB0.out.size)).drew)
    clear hb2 hblk2 hB
    go_wp2_with fail
    go_region_held3 (fun w' => w'.cell? ⟨B, 0, none⟩ = some (.slice so sn scap) ∧ w'.cell? ⟨B, 1, none⟩ = some (.int .i64 (N : Int)) ∧ w'.cell? ⟨B, 2, none⟩ = some (.slice ao an acap) ∧ w'.cell? ⟨B, 3, none⟩ = some (.slice eo en ecap)) (go_keep) ((first | (go_at_call 33; refine (HX.out w2.drew HB2 d0 d1 d2 d3).mono ?_; rintro e w3 ⟨eb, db, R, rfl, HG3, HB3, e0, e1, e2, e3⟩) | (go_at_call 43; refine (HH.out w3 eb db R HG3 HB3 e0 e1 e2 e3).mono ?_; rintro e w4 ⟨rfl, HB4, f0, f1, f2, f3⟩)))
    all_goals
      go_wp2_with fail
      go_ret2
      exact ⟨rfl, HB4.out⟩
  · have Hs2 := Sp.hid (by have := Hspec.out; rwa [if_pos he] at this)
    generalize Nf.errNet n = r at HV he Hs2
    have h3 : (r != 0) = true := by simpa using he
    rw [Hs2.out]
    clear Hspec HIdx HE HE2 he Hs2
    obtain ⟨so, sn, scap, sig, st, ao, an, acap, arcs, eo, en, ecap, ends⟩ := n
    unfold Nf.Net.val at *
    simp only [Nf.Net.cells] at *
    go_enter Tryz.func16, Tryz.ntmps16
    go_wp2_with fail
    refine HV.out.mono ?_
    rintro e w2 ⟨rfl, hb2⟩
    have HB2 := Sp.hid (HB0.out.trans (hb2.mono HB0.out.size))
    clear hb2
    go_wp2_with fail
    go_ret2
    exact ⟨rfl, HB2.out⟩
end Go.Proofs.YtpoblcmjfcpiaaaGreat
