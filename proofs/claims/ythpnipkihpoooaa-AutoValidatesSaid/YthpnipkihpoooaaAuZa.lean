/-
  The walk of Finite.
-/
import Derived.Test.YthpnipkihpoooaaAuZ
set_option linter.unusedVariables false
set_option linter.unusedSimpArgs false
namespace Go.Proofs.Ythpnipkihpoooaa
open Go.RowKit

set_option maxHeartbeats 2000000 in
set_option maxRecDepth 100000 in
theorem finite_any (w : World) (n : Nf.Net) (h : Nf.NetAt w n) :
    Calls Try.prog 27 #[n.val] w (Nf.FinPost n w) := by
  have hb0 : Below w.heap.size w (w.alloc (.cells n.cells 26)) := (Below.refl _ w).alloc (Nat.le_refl _) _
  have hblk : (w.alloc (.cells n.cells 26)).heap[w.heap.size]? = some (.cells n.cells 26 (0, 0)) := Nf.Below.heap_new w _
  have HV := Sp.hid (netValidate_any _ n (h.below hb0))
  have hspec : Nf.finSpec n = if Nf.errNet n ≠ 0 then (false, Nf.errNet n) else (!Nf.bl (Nf.Lg (Nf.netGr n) n.st.toNat 0), 0) := rfl
  have Hspec := Sp.hid hspec
  have Hblk := Sp.hid hblk
  have HB0 := Sp.hid hb0
  have HN := Sp.hid h
  have HIdx := Sp.hid (fun (he : Nf.errNet n = 0) (w2 : World) (hb : Below w.heap.size w w2) => (Nf.errNet_pre (h.below hb) he).2.2)
  have HE := Sp.hid (fun (he : Nf.errNet n = 0) => (Nf.errNet_pre h he).1)
  have HE2 := Sp.hid (fun (he : Nf.errNet n = 0) => (Nf.errNet_pre h he).2.1)
  have hp : Nf.FinPost n w = fun e w' => e = .returned (.tuple #[.bool (Nf.finSpec n).1, .int .i64 (Nf.finSpec n).2]) ∧ Below w.heap.size w w' := rfl
  rw [hp]
  generalize Nf.finSpec n = spec at Hspec
  clear h hb0 hblk hspec hp
  by_cases he : Nf.errNet n = 0
  · have Hs2 := Sp.hid (by have := Hspec.out; rwa [if_neg (by simpa using he)] at this)
    have HI := Sp.hid (HIdx.out he)
    have hst := HE.out he
    have hst2 := HE2.out he
    have Hgr := Sp.hid (show Nf.netGr n = Nf.grOf n.sig n.st.toNat n.arcs n.ends from rfl)
    rw [he] at HV
    obtain ⟨N, hN⟩ : ∃ N, n.st.toNat = N := ⟨_, rfl⟩
    rw [hN] at HI hst Hgr Hs2
    generalize Nf.netGr n = gr at Hs2 Hgr
    clear Hspec HIdx HE HE2 he hN
    obtain ⟨so, sn, scap, sig, st, ao, an, acap, arcs, eo, en, ecap, ends⟩ := n
    unfold Nf.Net.val at *
    simp only [Nf.Net.cells] at *
    subst hst
    have hn2 : N ≤ 3000 := by omega
    obtain ⟨B, hB⟩ : ∃ B, w.heap.size = B := ⟨_, rfl⟩
    have HBs := Sp.hid hB
    have HX : RowKit.Hid (∀ w2 : World, RowKit.Hid (Below w.heap.size w w2) → w2.cell? ⟨B, 0, none⟩ = some (.slice so sn scap) → w2.cell? ⟨B, 1, none⟩ = some (.int .i64 (N : Int)) → w2.cell? ⟨B, 2, none⟩ = some (.slice ao an acap) → w2.cell? ⟨B, 3, none⟩ = some (.slice eo en ecap) →
        Calls Try.prog 38 #[.agg #[.slice so sn scap, .int .i64 N, .slice ao an acap, .slice eo en ecap]] w2 (fun e w3 => ∃ gb v, e = .returned (.pointer (some ⟨gb, 0, none⟩)) ∧ RowKit.Hid (Nf.GrAt w3 gb v (Nf.grOf sig N arcs ends)) ∧ RowKit.Hid (Below w.heap.size w w3) ∧
          w3.cell? ⟨B, 0, none⟩ = some (.slice so sn scap) ∧ w3.cell? ⟨B, 1, none⟩ = some (.int .i64 (N : Int)) ∧ w3.cell? ⟨B, 2, none⟩ = some (.slice ao an acap) ∧ w3.cell? ⟨B, 3, none⟩ = some (.slice eo en ecap))) := Sp.hid (by
      intro w2 hb c0 c1 c2 c3
      refine (index_any w2 so sn scap sig N ao an acap arcs eo en ecap ends (HI.out w2 hb.out)).mono ?_
      rintro e w3 ⟨gb, v, rfl, hG, hb3⟩
      have l := World.block_lt_of_cell? w2 _ c0
      exact ⟨gb, v, rfl, Sp.hid hG, Sp.hid (hb.out.trans (hb3.mono hb.out.size)), by rw [hb3.cell (p := ⟨B, 0, none⟩) l]; exact c0, by rw [hb3.cell (p := ⟨B, 1, none⟩) l]; exact c1, by rw [hb3.cell (p := ⟨B, 2, none⟩) l]; exact c2, by rw [hb3.cell (p := ⟨B, 3, none⟩) l]; exact c3⟩)
    have HH : RowKit.Hid (∀ (w2 : World) (gb : Nat) (v : Nf.Gv), RowKit.Hid (Nf.GrAt w2 gb v (Nf.grOf sig N arcs ends)) → RowKit.Hid (Below w.heap.size w w2) → w2.cell? ⟨B, 0, none⟩ = some (.slice so sn scap) → w2.cell? ⟨B, 1, none⟩ = some (.int .i64 (N : Int)) → w2.cell? ⟨B, 2, none⟩ = some (.slice ao an acap) → w2.cell? ⟨B, 3, none⟩ = some (.slice eo en ecap) →
        Calls Try.prog 50 #[.pointer (some ⟨gb, 0, none⟩), .int .i64 N] w2 (fun e w3 => e = .returned (.bool (Nf.bl (Nf.Lg gr N 0))) ∧ RowKit.Hid (Below w.heap.size w w3) ∧
          w3.cell? ⟨B, 0, none⟩ = some (.slice so sn scap) ∧ w3.cell? ⟨B, 1, none⟩ = some (.int .i64 (N : Int)) ∧ w3.cell? ⟨B, 2, none⟩ = some (.slice ao an acap) ∧ w3.cell? ⟨B, 3, none⟩ = some (.slice eo en ecap))) := Sp.hid (by
      intro w2 gb v hG hb c0 c1 c2 c3
      refine (hasFrom_any w2 gb N v _ hG.out hn2).mono ?_
      rintro e w3 ⟨rfl, hb3⟩
      have l := World.block_lt_of_cell? w2 _ c0
      exact ⟨by rw [Hgr.out], Sp.hid (hb.out.trans (hb3.mono hb.out.size)), by rw [hb3.cell (p := ⟨B, 0, none⟩) l]; exact c0, by rw [hb3.cell (p := ⟨B, 1, none⟩) l]; exact c1, by rw [hb3.cell (p := ⟨B, 2, none⟩) l]; exact c2, by rw [hb3.cell (p := ⟨B, 3, none⟩) l]; exact c3⟩)
    rw [Hs2.out]
    clear hst2 Hgr HI Hs2
    generalize Nf.bl (Nf.Lg gr N 0) = r at HH
    go_enter Try.func27, Try.ntmps27
    go_wp2_with fail
    refine HV.out.mono ?_
    rintro e w2 ⟨rfl, hb2⟩
    have hblk2 := Nf.blk_below Hblk.out hb2 (by simp)
    rw [hB] at hblk2
    have d0 : w2.cell? ⟨B, 0, none⟩ = some (.slice so sn scap) := Nf.blk_cell (i := 0) hblk2 rfl
    have d1 : w2.cell? ⟨B, 1, none⟩ = some (.int .i64 (N : Int)) := Nf.blk_cell (i := 1) hblk2 rfl
    have d2 : w2.cell? ⟨B, 2, none⟩ = some (.slice ao an acap) := Nf.blk_cell (i := 2) hblk2 rfl
    have d3 : w2.cell? ⟨B, 3, none⟩ = some (.slice eo en ecap) := Nf.blk_cell (i := 3) hblk2 rfl
    have HB2 := Sp.hid (show Below w.heap.size w w2.drew from (HB0.out.trans (hb2.mono HB0.out.size)).drew)
    clear hb2 hblk2 hB
    go_wp2_with fail
    go_region_held3 (fun w' => w'.cell? ⟨B, 0, none⟩ = some (.slice so sn scap) ∧ w'.cell? ⟨B, 1, none⟩ = some (.int .i64 (N : Int)) ∧ w'.cell? ⟨B, 2, none⟩ = some (.slice ao an acap) ∧ w'.cell? ⟨B, 3, none⟩ = some (.slice eo en ecap)) (go_keep) ((first | (go_at_call 38; refine (HX.out w2.drew HB2 d0 d1 d2 d3).mono ?_; rintro e w3 ⟨gb, v, rfl, HG3, HB3, e0, e1, e2, e3⟩) | (go_at_call 50; refine (HH.out w3 gb v HG3 HB3 e0 e1 e2 e3).mono ?_; rintro e w4 ⟨rfl, HB4, f0, f1, f2, f3⟩)))
    all_goals
      go_wp2_with fail
      go_ret2
      exact ⟨rfl, HB4.out⟩
  · have Hs2 := Sp.hid (by have := Hspec.out; rwa [if_pos he] at this)
    generalize Nf.errNet n = r at HV he Hs2
    have h3 : (r != 0) = true := by simpa using he
    rw [Hs2.out]
    clear Hspec HIdx HE HE2 he Hs2
    obtain ⟨so, sn, scap, sig, st, ao, an, acap, arcs, eo, en, ecap, ends⟩ := n
    unfold Nf.Net.val at *
    simp only [Nf.Net.cells] at *
    go_enter Try.func27, Try.ntmps27
    go_wp2_with fail
    refine HV.out.mono ?_
    rintro e w2 ⟨rfl, hb2⟩
    have HB2 := Sp.hid (HB0.out.trans (hb2.mono HB0.out.size))
    clear hb2
    go_wp2_with fail
    go_ret2
    exact ⟨rfl, HB2.out⟩
end Go.Proofs.Ythpnipkihpoooaa
