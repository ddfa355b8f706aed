/-
  The walk of the reference's Begins.
-/
import Derived.Test.YteggofjldgjfiaaMgReAl
import Derived.Test.YteggofjldgjfiaaMgReAcc
import Derived.Test.YteggofjldgjfiaaMgMapH
import Derived.Deep.RegionHeld3
set_option linter.unusedVariables false
set_option linter.unusedSimpArgs false
namespace Go.Proofs.Yteggofjldgjfiaa
open Go.RowKit

set_option maxHeartbeats 2000000 in
set_option maxRecDepth 100000 in
theorem refBegins_any (w : World) (n : Nf.Net) (wo : Option Addr) (wn wcap : Nat) (W : List ByteArray) (h : Nf.NetAt w n) (hW : Sp.Row w wo wn W) :
    Calls Try.prog 18 #[n.val, .slice wo wn wcap] w (Nf.BegPost n W w) := by
  have hb0 : Below w.heap.size w (w.alloc (.cells n.cells 26)) := (Below.refl _ w).alloc (Nat.le_refl _) _
  have hblk : (w.alloc (.cells n.cells 26)).heap[w.heap.size]? = some (.cells n.cells 26 (0, 0)) := Nf.Below.heap_new w _
  have HC := Sp.hid (checked_any _ n wo wn wcap W (h.below hb0) (hW.below hb0))
  have Hb0 := Sp.hid hb0
  have Hblk := Sp.hid hblk
  have HN := Sp.hid h
  have HW := Sp.hid hW
  have hp : Nf.BegPost n W w = fun e w' => e = .returned (.tuple #[.bool (Nf.begSpec n W).1, .int .i64 (Nf.begSpec n W).2]) ∧ Below w.heap.size w w' := rfl
  rw [hp]
  by_cases he : Nf.errCk n W = 0
  · have hs := Sp.hid (show Nf.begSpec n W = (Nf.bl (Nf.BegAcc (Nf.netGr n) W), 0) by unfold Nf.begSpec; rw [if_neg (by simpa using he)])
    rw [hs.out]
    obtain ⟨he1, he2⟩ := Nf.errCk_zero he
    have HPre := Sp.hid (fun (w2 : World) (hb : Below w.heap.size w w2) => (Nf.errNet_pre (h.below hb) he1).2.2)
    have hst := (Nf.errNet_pre h he1).1
    have Hful := Sp.hid (Nf.word_full he2)
    have hgr := Sp.hid (show Nf.netGr n = Nf.grOf n.sig n.st.toNat n.arcs n.ends from rfl)
    rw [he] at HC
    obtain ⟨N, hN⟩ : ∃ N, n.st.toNat = N := ⟨_, rfl⟩
    rw [hN] at HPre hst hgr
    have hNg : (Nf.netGr n).N = N := by rw [hgr.out]; rfl
    have HNg := Sp.hid hNg
    generalize Nf.netGr n = gr at hgr HNg ⊢
    obtain ⟨r, hr⟩ : ∃ r, Nf.bl (Nf.BegAcc gr W) = r := ⟨_, rfl⟩
    rw [hr]
    have Hr := Sp.hid hr
    clear h hb0 hblk hW he he1 he2 hs hp hN hNg hr
    obtain ⟨so, sn, scap, sig, st, ao, an, acap, arcs, eo, en, ecap, ends⟩ := n
    unfold Nf.Net.val at *
    simp only [Nf.Net.cells] at *
    subst hst
    go_enter Try.func18, Try.ntmps18
    go_wp2_with fail
    refine HC.out.mono ?_
    rintro e w2 ⟨rfl, hb2⟩
    have hblk2 := Nf.blk_below Hblk.out hb2 (by simp)
    have d0 : w2.cell? ⟨w.heap.size, 0, none⟩ = some (.slice so sn scap) := Nf.blk_cell (i := 0) hblk2 rfl
    have d1 : w2.cell? ⟨w.heap.size, 1, none⟩ = some (.int .i64 (N : Int)) := Nf.blk_cell (i := 1) hblk2 rfl
    have d2 : w2.cell? ⟨w.heap.size, 2, none⟩ = some (.slice ao an acap) := Nf.blk_cell (i := 2) hblk2 rfl
    have d3 : w2.cell? ⟨w.heap.size, 3, none⟩ = some (.slice eo en ecap) := Nf.blk_cell (i := 3) hblk2 rfl
    have Hb2 := Sp.hid (Hb0.out.trans (hb2.mono Hb0.out.size))
    have HGo := Sp.hid (graphOf_any w2 so sn scap sig N ao an acap arcs eo en ecap ends (HPre.out w2 Hb2.out))
    rw [← hgr.out] at HGo
    clear hb2 hblk2
    go_wp2_with fail
    refine HGo.out.mono ?_
    rintro e w3 ⟨eb, db, R, rfl, hG3, hb3⟩
    rw [HNg.out]
    unfold Nf.rfVal
    have hb4 : Below w.heap.size w (w3.alloc (.cells #[.int .i64 0, .slice (some ⟨eb, 0, none⟩) N N, .slice (some ⟨db, 0, none⟩) N N] 72)) := (Hb2.out.trans (hb3.mono Hb2.out.size)).alloc (by have := hb3.size; have := Hb2.out.size; omega) _
    have hG4 := hG3.below ((Below.refl _ w3).alloc (Nat.le_refl _) (.cells #[.int .i64 0, .slice (some ⟨eb, 0, none⟩) N N, .slice (some ⟨db, 0, none⟩) N N] 72))
    have hgb := Nf.Below.heap_new w3 (.cells #[.int .i64 0, .slice (some ⟨eb, 0, none⟩) N N, .slice (some ⟨db, 0, none⟩) N N] 72)
    clear hG3 hb3 d0 d1 d2 d3
    go_wp2_with fail
    obtain ⟨w4, hw4⟩ : ∃ w4, w3.alloc (.cells #[.int .i64 0, .slice (some ⟨eb, 0, none⟩) N N, .slice (some ⟨db, 0, none⟩) N N] 72) = w4 := ⟨_, rfl⟩
    rw [hw4] at hb4 hG4 hgb ⊢
    obtain ⟨B, hB⟩ : ∃ B, w3.heap.size = B := ⟨_, rfl⟩
    rw [hB] at hgb ⊢
    have HB4 := Sp.hid hb4
    have HG4 := Sp.hid hG4
    have c0 : w4.cell? ⟨B, 0, none⟩ = some (.int .i64 0) := Nf.blk_cell (i := 0) hgb rfl
    have c1 : w4.cell? ⟨B, 1, none⟩ = some (.slice (some ⟨eb, 0, none⟩) N N) := Nf.blk_cell (i := 1) hgb rfl
    have c2 : w4.cell? ⟨B, 2, none⟩ = some (.slice (some ⟨db, 0, none⟩) N N) := Nf.blk_cell (i := 2) hgb rfl
    have Hk4 := Sp.hid (show Nf.RfB B eb db N w4.drew from ⟨c0, c1, c2⟩)
    have HBd := Sp.hid (show Below w4.heap.size w4 w4.drew from (Below.refl _ _).drew)
    have HRun : RowKit.Hid (∀ w5 : World, RowKit.Hid (Below w4.heap.size w4 w5) → RowKit.Hid (Nf.RfB B eb db N w5) → Calls Try.prog 44 #[.agg #[.int .i64 0, .slice (some ⟨eb, 0, none⟩) N N, .slice (some ⟨db, 0, none⟩) N N], .slice wo wn wcap] w5
        (fun e w6 => ∃ (lo : Option Addr) (lcap : Nat) (L : List Nat), e = .returned (.slice lo L.length lcap) ∧ RowKit.Hid (Nf.Seq Nf.num w6 lo L.length L) ∧ RowKit.Hid (Nf.Pool N L) ∧ RowKit.Hid (∀ q, q ∈ L ↔ Nf.Lead gr W (Nf.Beg gr) q) ∧ RowKit.Hid (Below w4.heap.size w4 w6) ∧ RowKit.Hid (Below w5.heap.size w5 w6) ∧ RowKit.Hid (Nf.RfB B eb db N w6))) := Sp.hid (fun w5 hb hk => by
      have hb5 := HB4.out.trans (hb.out.mono HB4.out.size)
      have hr := run_any w5 eb db R gr wo wn wcap W (HG4.out.below hb.out) (HW.out.below hb5) Hful.out
      unfold Nf.rfVal at hr
      rw [HNg.out] at hr
      refine hr.mono ?_
      rintro e w6 ⟨v, L, rfl, hown, hpl, hasc, hmem, hbel⟩
      have hsm := HG4.out.small
      rw [HNg.out] at hsm
      have hln := hpl.len
      obtain ⟨lo, lcap, rfl, hseq, _⟩ := Nf.seq_of_own hown (by unfold maxLen; omega)
      exact ⟨lo, lcap, L, rfl, Sp.hid hseq, Sp.hid hpl, Sp.hid hmem, Sp.hid (hb.out.trans (hbel.mono hb.out.size)), Sp.hid hbel, Sp.hid (hk.out.below hbel)⟩)
    have HAlv : RowKit.Hid (∀ w5 : World, RowKit.Hid (Below w4.heap.size w4 w5) → RowKit.Hid (Nf.RfB B eb db N w5) → Calls Try.prog 47 #[.agg #[.int .i64 0, .slice (some ⟨eb, 0, none⟩) N N, .slice (some ⟨db, 0, none⟩) N N]] w5
        (fun e w6 => ∃ (mb cp : Nat), e = .returned (.slice (some ⟨mb, 0, none⟩) N cp) ∧ RowKit.Hid (Nf.BoolsAt w6 mb N (Nf.Live gr)) ∧ RowKit.Hid (Below w4.heap.size w4 w6) ∧ RowKit.Hid (Below w5.heap.size w5 w6) ∧ RowKit.Hid (Nf.RfB B eb db N w6))) := Sp.hid (fun w5 hb hk => by
      have hr := alive_any w5 eb db R gr (HG4.out.below hb.out)
      unfold Nf.rfVal at hr
      rw [HNg.out] at hr
      refine hr.mono ?_
      rintro e w6 ⟨mb, cp, rfl, hv, hbel⟩
      rw [HNg.out] at hv ⊢
      exact ⟨mb, cp, rfl, Sp.hid (fun q hq => hv.cell hq), Sp.hid (hb.out.trans (hbel.mono hb.out.size)), Sp.hid hbel, Sp.hid (hk.out.below hbel)⟩)
    have HKp : RowKit.Hid (∀ (w6 : World) (lo : Option Addr) (lcap : Nat) (L : List Nat) (mb cp : Nat), RowKit.Hid (Nf.Seq Nf.num w6 lo L.length L) → RowKit.Hid (Nf.Pool N L) → RowKit.Hid (∀ q, q ∈ L ↔ Nf.Lead gr W (Nf.Beg gr) q) → RowKit.Hid (Nf.BoolsAt w6 mb N (Nf.Live gr)) → RowKit.Hid (Below w4.heap.size w4 w6) → RowKit.Hid (Nf.RfB B eb db N w6) →
        Calls Try.prog 46 #[.slice lo L.length lcap, .slice (some ⟨mb, 0, none⟩) N cp] w6 (fun e w7 => ∃ (ko : Option Addr) (k c : Nat), e = .returned (.slice ko k c) ∧ decide (0 < k) = r ∧ RowKit.Hid (Below w4.heap.size w4 w7) ∧ RowKit.Hid (Nf.RfB B eb db N w7))) := Sp.hid (fun w6 lo lcap L mb cp hseq hpl hmem hbo hb hk => by
      have hsm := HG4.out.small
      rw [HNg.out] at hsm
      have hln := hpl.out.len
      refine (kept_any w6 lo L.length lcap L mb N cp (Nf.Live gr) hseq.out hpl.out.lt hsm hbo.out (by omega)).mono ?_
      rintro e w7 ⟨ko, k, c, rfl, hlen, _, hbel⟩
      refine ⟨ko, k, c, rfl, ?_, Sp.hid (hb.out.trans (hbel.mono hb.out.size)), Sp.hid (hk.out.below hbel)⟩
      rw [← Hr.out, Nf.bl_decide]
      apply Nf.bl_congr
      constructor
      · intro h
        have h1 : 0 < (Nf.keep (Nf.Live gr) L).length := by omega
        obtain ⟨q, hq⟩ := List.exists_mem_of_length_pos h1
        obtain ⟨h2, h3⟩ := Nf.mem_keep.1 hq
        exact ⟨q, (hmem.out q).1 h2, h3⟩
      · rintro ⟨q, h2, h3⟩
        have := List.length_pos_of_mem (Nf.mem_keep.2 ⟨(hmem.out q).2 h2, h3⟩)
        omega)
    clear hb4 hG4 hgb hw4 hB
    go_region_held3 (fun w' => w'.cell? ⟨B, 0, none⟩ = some (.int .i64 0) ∧ w'.cell? ⟨B, 1, none⟩ = some (.slice (some ⟨eb, 0, none⟩) N N) ∧ w'.cell? ⟨B, 2, none⟩ = some (.slice (some ⟨db, 0, none⟩) N N)) (go_keep) ((first
      | (go_at_call 44; refine (HRun.out _ (by assumption) (by assumption)).mono ?_; rintro e w6 ⟨lo, lcap, L, rfl, HS6, HP6, HM6, HB6, HC6, HK6⟩; (try have HBo6 := Sp.hid (HBo6.out.below HC6.out)); obtain ⟨e0, e1, e2⟩ := HK6.out)
      | (go_at_call 47; refine (HAlv.out _ (by assumption) (by assumption)).mono ?_; rintro e w7 ⟨mb, cp, rfl, HBo6, HB7, HC7, HK7⟩; (try have HS6 := Sp.hid (HS6.out.below HC7.out)); obtain ⟨f0, f1, f2⟩ := HK7.out)
      | (go_at_call 46; refine (HKp.out _ lo lcap L mb cp (by assumption) HP6 HM6 (by assumption) (by assumption) (by assumption)).mono ?_; rintro e w8 ⟨ko, k, c, rfl, hkr, HB8, HK8⟩; obtain ⟨g0, g1, g2⟩ := HK8.out)))
    all_goals
      go_wp2_with fail
      go_ret2
      exact ⟨by rw [← hkr]; rfl, HB4.out.trans (HB8.out.mono HB4.out.size)⟩
  · have hs := Sp.hid (show Nf.begSpec n W = (false, Nf.errCk n W) by unfold Nf.begSpec; rw [if_pos he])
    rw [hs.out]
    generalize Nf.errCk n W = r at HC he
    have h3 : (r != 0) = true := by simpa using he
    clear h hb0 hblk hW he hs hp
    obtain ⟨so, sn, scap, sig, st, ao, an, acap, arcs, eo, en, ecap, ends⟩ := n
    unfold Nf.Net.val at *
    simp only [Nf.Net.cells] at *
    go_enter Try.func18, Try.ntmps18
    go_wp2_with fail
    refine HC.out.mono ?_
    rintro e w2 ⟨rfl, hb2⟩
    have Hb2 := Sp.hid (Hb0.out.trans (hb2.mono Hb0.out.size))
    clear hb2
    go_wp2_with fail
    go_ret2
    exact ⟨rfl, Hb2.out⟩
end Go.Proofs.Yteggofjldgjfiaa
