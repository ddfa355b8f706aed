/-
  The walk of the reference's Next.
-/
import Derived.Test.YteggofjldgjfiaaGreatMgReAl
import Derived.Test.YteggofjldgjfiaaGreatMgReCk
import Derived.Test.YteggofjldgjfiaaGreatMgReSy
import Derived.Test.YteggofjldgjfiaaGreatMgMapN
import Derived.Deep.RegionHeld3
set_option linter.unusedVariables false
set_option linter.unusedSimpArgs false
namespace Go.Proofs.YteggofjldgjfiaaGreat
open Go.RowKit

set_option maxHeartbeats 8000000 in
set_option maxRecDepth 100000 in
theorem refNext_any (w : World) (n : Nf.Net) (wo : Option Addr) (wn wcap : Nat) (W : List ByteArray) (h : Nf.NetAt w n) (hW : Sp.Row w wo wn W) :
    Calls Tryz.prog 11 #[n.val, .slice wo wn wcap] w (Nf.NextPost n W w) := by
  have hb0 : Below w.heap.size w (w.alloc (.cells n.cells 26)) := (Below.refl _ w).alloc (Nat.le_refl _) _
  have hblk : (w.alloc (.cells n.cells 26)).heap[w.heap.size]? = some (.cells n.cells 26 (0, 0)) := Nf.Below.heap_new w _
  have HC := Sp.hid (checked_any _ n wo wn wcap W (h.below hb0) (hW.below hb0))
  have Hb0 := Sp.hid hb0
  have Hblk := Sp.hid hblk
  have HN := Sp.hid h
  have HW := Sp.hid hW
  have hp : Nf.NextPost n W w = fun e w' => ∃ lo ll lcap, e = .returned (.tuple #[.slice lo ll lcap, .bool (Nf.nextSpec n W).2.1, .int .i64 (Nf.nextSpec n W).2.2]) ∧ Sp.Row w' lo ll (Nf.nextSpec n W).1 ∧ Below w.heap.size w w' := rfl
  rw [hp]
  by_cases he : Nf.errCk n W = 0
  · have hs := Sp.hid (show Nf.nextSpec n W = ((Nf.netGr n).sig.filter fun s => Nf.bl (Nf.GoesOn (Nf.netGr n) W s), Nf.bl (Nf.Acc (Nf.netGr n) W), 0) by unfold Nf.nextSpec; rw [if_neg (by simpa using he)])
    rw [hs.out]
    obtain ⟨he1, he2⟩ := Nf.errCk_zero he
    have HPre := Sp.hid (fun (w2 : World) (hb : Below w.heap.size w w2) => (Nf.errNet_pre (h.below hb) he1).2.2)
    have hst := (Nf.errNet_pre h he1).1
    have Hful := Sp.hid (Nf.word_full he2)
    have hgr := Sp.hid (show Nf.netGr n = Nf.grOf n.sig n.st.toNat n.arcs n.ends from rfl)
    rw [he] at HC
    obtain ⟨N, hN⟩ : ∃ N, n.st.toNat = N := ⟨_, rfl⟩
    rw [hN] at HPre hst hgr
    have hNg : (Nf.netGr n).N = N := by rw [hgr.out]; rfl
    have HNg := Sp.hid hNg
    generalize Nf.netGr n = gr at hgr HNg ⊢
    obtain ⟨r, hr⟩ : ∃ r, Nf.bl (Nf.Acc gr W) = r := ⟨_, rfl⟩
    rw [hr]
    have Hr := Sp.hid hr
    simp only
    obtain ⟨Z, hZ⟩ : ∃ Z, (gr.sig.filter fun s => Nf.bl (Nf.GoesOn gr W s)) = Z := ⟨_, rfl⟩
    rw [hZ]
    have HZ := Sp.hid hZ
    clear h hb0 hblk hW he he1 he2 hs hp hN hNg hr hZ
    obtain ⟨so, sn, scap, sig, st, ao, an, acap, arcs, eo, en, ecap, ends⟩ := n
    unfold Nf.Net.val at *
    simp only [Nf.Net.cells] at *
    subst hst
    go_enter Tryz.func11, Tryz.ntmps11
    go_wp2_with fail
    refine HC.out.mono ?_
    rintro e w2 ⟨rfl, hb2⟩
    have hblk2 := Nf.blk_below Hblk.out hb2 (by simp)
    have d0 : w2.cell? ⟨w.heap.size, 0, none⟩ = some (.slice so sn scap) := Nf.blk_cell (i := 0) hblk2 rfl
    have d1 : w2.cell? ⟨w.heap.size, 1, none⟩ = some (.int .i64 (N : Int)) := Nf.blk_cell (i := 1) hblk2 rfl
    have d2 : w2.cell? ⟨w.heap.size, 2, none⟩ = some (.slice ao an acap) := Nf.blk_cell (i := 2) hblk2 rfl
    have d3 : w2.cell? ⟨w.heap.size, 3, none⟩ = some (.slice eo en ecap) := Nf.blk_cell (i := 3) hblk2 rfl
    have Hb2 := Sp.hid (Hb0.out.trans (hb2.mono Hb0.out.size))
    have HGo := Sp.hid (graphOf_any w2 so sn scap sig N ao an acap arcs eo en ecap ends (HPre.out w2 Hb2.out))
    rw [← hgr.out] at HGo
    clear hb2 hblk2
    go_wp2_with fail
    refine HGo.out.mono ?_
    rintro e w3 ⟨eb, db, R, rfl, hG3, hb3⟩
    rw [HNg.out]
    unfold Nf.rfVal
    have hb4 : Below w.heap.size w (w3.alloc (.cells #[.int .i64 0, .slice (some ⟨eb, 0, none⟩) N N, .slice (some ⟨db, 0, none⟩) N N] 71)) := (Hb2.out.trans (hb3.mono Hb2.out.size)).alloc (by have := hb3.size; have := Hb2.out.size; omega) _
    have hG4 := hG3.below ((Below.refl _ w3).alloc (Nat.le_refl _) (.cells #[.int .i64 0, .slice (some ⟨eb, 0, none⟩) N N, .slice (some ⟨db, 0, none⟩) N N] 71))
    have hgb := Nf.Below.heap_new w3 (.cells #[.int .i64 0, .slice (some ⟨eb, 0, none⟩) N N, .slice (some ⟨db, 0, none⟩) N N] 71)
    clear hG3 hb3 d0 d1 d2 d3
    go_wp2_with fail
    obtain ⟨w4, hw4⟩ : ∃ w4, w3.alloc (.cells #[.int .i64 0, .slice (some ⟨eb, 0, none⟩) N N, .slice (some ⟨db, 0, none⟩) N N] 71) = w4 := ⟨_, rfl⟩
    rw [hw4] at hb4 hG4 hgb ⊢
    obtain ⟨B, hB⟩ : ∃ B, w3.heap.size = B := ⟨_, rfl⟩
    rw [hB] at hgb ⊢
    have HB4 := Sp.hid hb4
    have HG4 := Sp.hid hG4
    have c0 : w4.cell? ⟨B, 0, none⟩ = some (.int .i64 0) := Nf.blk_cell (i := 0) hgb rfl
    have c1 : w4.cell? ⟨B, 1, none⟩ = some (.slice (some ⟨eb, 0, none⟩) N N) := Nf.blk_cell (i := 1) hgb rfl
    have c2 : w4.cell? ⟨B, 2, none⟩ = some (.slice (some ⟨db, 0, none⟩) N N) := Nf.blk_cell (i := 2) hgb rfl
    have Hk4 := Sp.hid (show Nf.RfB B eb db N w4.drew from ⟨c0, c1, c2⟩)
    have HBd := Sp.hid (show Below w4.heap.size w4 w4.drew from (Below.refl _ _).drew)
    have HAlv : RowKit.Hid (∀ w5 : World, RowKit.Hid (Below w4.heap.size w4 w5) → RowKit.Hid (Nf.RfB B eb db N w5) → Calls Tryz.prog 34 #[.agg #[.int .i64 0, .slice (some ⟨eb, 0, none⟩) N N, .slice (some ⟨db, 0, none⟩) N N]] w5
        (fun e w6 => ∃ (mb cp : Nat), e = .returned (.slice (some ⟨mb, 0, none⟩) N cp) ∧ RowKit.Hid (Nf.BoolsAt w6 mb N (Nf.Live gr)) ∧ RowKit.Hid (Below w5.heap.size w5 w6) ∧ RowKit.Hid (Nf.RfB B eb db N w6))) := Sp.hid (fun w5 hb hk => by
      have hr := alive_any w5 eb db R gr (HG4.out.below hb.out)
      unfold Nf.rfVal at hr
      rw [HNg.out] at hr
      refine hr.mono ?_
      rintro e w6 ⟨mb, cp, rfl, hv, hbel⟩
      rw [HNg.out] at hv ⊢
      exact ⟨mb, cp, rfl, Sp.hid (fun q hq => hv.cell hq), Sp.hid hbel, Sp.hid (hk.out.below hbel)⟩)
    have HRun : RowKit.Hid (∀ w5 : World, RowKit.Hid (Below w4.heap.size w4 w5) → RowKit.Hid (Nf.RfB B eb db N w5) → Calls Tryz.prog 35 #[.agg #[.int .i64 0, .slice (some ⟨eb, 0, none⟩) N N, .slice (some ⟨db, 0, none⟩) N N], .slice wo wn wcap] w5
        (fun e w6 => ∃ (lo : Option Addr) (ll lcap : Nat) (L : List Nat), e = .returned (.slice lo ll lcap) ∧ RowKit.Hid (Nf.Seq Nf.num w6 lo ll L) ∧ RowKit.Hid (Nf.Pool N L) ∧ RowKit.Hid (∀ q, q ∈ L ↔ Nf.Lead gr W (Nf.Beg gr) q) ∧ RowKit.Hid (Below w5.heap.size w5 w6) ∧ RowKit.Hid (Nf.RfB B eb db N w6))) := Sp.hid (fun w5 hb hk => by
      have hb5 := HB4.out.trans (hb.out.mono HB4.out.size)
      have hr := run_any w5 eb db R gr wo wn wcap W (HG4.out.below hb.out) (HW.out.below hb5) Hful.out
      unfold Nf.rfVal at hr
      rw [HNg.out] at hr
      refine hr.mono ?_
      rintro e w6 ⟨v, L, rfl, hown, hpl, hasc, hmem, hbel⟩
      have hsm := HG4.out.small
      rw [HNg.out] at hsm
      have hln := hpl.len
      obtain ⟨lo, lcap, rfl, hseq, _⟩ := Nf.seq_of_own hown (by unfold maxLen; omega)
      exact ⟨lo, L.length, lcap, L, rfl, Sp.hid hseq, Sp.hid hpl, Sp.hid hmem, Sp.hid hbel, Sp.hid (hk.out.below hbel)⟩)
    have HSym : RowKit.Hid (∀ (w5 : World) (lo : Option Addr) (ll lcap : Nat) (L : List Nat), RowKit.Hid (Below w4.heap.size w4 w5) → RowKit.Hid (Nf.RfB B eb db N w5) → RowKit.Hid (Nf.Seq Nf.num w5 lo ll L) → RowKit.Hid (Nf.Pool N L) → Calls Tryz.prog 36 #[.agg #[.int .i64 0, .slice (some ⟨eb, 0, none⟩) N N, .slice (some ⟨db, 0, none⟩) N N], .slice lo ll lcap] w5
        (fun e w6 => ∃ (so : Option Addr) (sl scap : Nat) (S : List ByteArray), e = .returned (.slice so sl scap) ∧ sl ≤ 3000000000 ∧ RowKit.Hid (Sp.Row w6 so sl S ∧ Sp.Asc S ∧ (∀ s, s ∈ S ↔ s ≠ Nf.eps ∧ ∃ p, p ∈ L ∧ ∃ q, (p, s, q) ∈ gr.arcs) ∧ (∀ s, s ∈ S → s.size ≤ 9223372036854775807)) ∧ RowKit.Hid (Below w5.heap.size w5 w6) ∧ RowKit.Hid (Nf.RfB B eb db N w6))) := Sp.hid (fun w5 lo ll lcap L hb hk hseq hpl => by
      have hr := symbols_any w5 eb db R gr lo ll lcap L (HG4.out.below hb.out) hseq.out (by rw [HNg.out]; exact hpl.out)
      unfold Nf.rfVal at hr
      rw [HNg.out] at hr
      refine hr.mono ?_
      rintro e w6 ⟨v, S, rfl, hown, hasc, hmem, hlen, hbel⟩
      have hsz : ∀ s, s ∈ S → s.size ≤ 9223372036854775807 := fun s hs => by
        obtain ⟨_, p, _, q, hq⟩ := (hmem s).1 hs
        exact HG4.out.len p (s, q) ((HG4.out.ed_iff p s q).2 hq)
      obtain ⟨so, scap, rfl, hrow, _⟩ := Nf.row_of_own hown (by unfold maxLen; omega) (fun s hs => by unfold maxLen; exact hsz s hs)
      exact ⟨so, S.length, scap, S, rfl, hlen, Sp.hid ⟨hrow, hasc, hmem, hsz⟩, Sp.hid hbel, Sp.hid (hk.out.below hbel)⟩)
    have HEnd : RowKit.Hid (∀ (w6 : World) (lo : Option Addr) (ll lcap : Nat) (L : List Nat), RowKit.Hid (Nf.Seq Nf.num w6 lo ll L) → RowKit.Hid (Nf.Pool N L) → RowKit.Hid (∀ q, q ∈ L ↔ Nf.Lead gr W (Nf.Beg gr) q) → RowKit.Hid (Below w4.heap.size w4 w6) →
        Calls Tryz.prog 39 #[.agg #[.int .i64 0, .slice (some ⟨eb, 0, none⟩) N N, .slice (some ⟨db, 0, none⟩) N N], .slice lo ll lcap] w6 (fun e w7 => e = .returned (.bool r) ∧ RowKit.Hid (Below w6.heap.size w6 w7))) := Sp.hid (fun w6 lo ll lcap L hseq hpl hmem hb => by
      have hr := isEnd_any w6 eb db R gr lo ll lcap L (HG4.out.below hb.out) hseq.out (by rw [HNg.out]; exact hpl.out.lt)
      unfold Nf.rfVal at hr
      rw [HNg.out] at hr
      refine hr.mono ?_
      rintro e w7 ⟨rfl, hbel⟩
      refine ⟨?_, Sp.hid hbel⟩
      rw [← Hr.out]
      congr 2
      apply Nf.bl_congr
      constructor
      · rintro ⟨q, h1, h2⟩; exact ⟨q, h2, (hmem.out q).1 h1⟩
      · rintro ⟨q, h1, h2⟩; exact ⟨q, (hmem.out q).2 h2, h1⟩)
    have HStep : RowKit.Hid (∀ (w5 : World) (lo : Option Addr) (ll lcap : Nat) (L : List Nat) (s : ByteArray), RowKit.Hid (Below w4.heap.size w4 w5) → RowKit.Hid (Nf.RfB B eb db N w5) → RowKit.Hid (Nf.Seq Nf.num w5 lo ll L) → RowKit.Hid (Nf.Pool N L) → s.size ≤ 9223372036854775807 → Calls Tryz.prog 38 #[.agg #[.int .i64 0, .slice (some ⟨eb, 0, none⟩) N N, .slice (some ⟨db, 0, none⟩) N N], .slice lo ll lcap, .string s] w5
        (fun e w6 => ∃ (po : Option Addr) (pl pcap : Nat) (P : List Nat), e = .returned (.slice po pl pcap) ∧ RowKit.Hid (Nf.Seq Nf.num w6 po pl P ∧ Nf.Pool N P ∧ (∀ q, q ∈ P ↔ Nf.StepTo gr (· ∈ L) s q)) ∧ RowKit.Hid (Below w5.heap.size w5 w6) ∧ RowKit.Hid (Nf.RfB B eb db N w6))) := Sp.hid (fun w5 lo ll lcap L s hb hk hseq hpl hs => by
      have hr := step_any w5 eb db R gr lo ll lcap L s (HG4.out.below hb.out) hseq.out (by rw [HNg.out]; exact hpl.out) hs
      unfold Nf.rfVal at hr
      rw [HNg.out] at hr
      refine hr.mono ?_
      rintro e w6 ⟨v, P, rfl, hown, hplP, hasc, hmem, hbel⟩
      have hsm := HG4.out.small
      rw [HNg.out] at hsm
      have hln := hplP.len
      obtain ⟨po, pcap, rfl, hseqP, _⟩ := Nf.seq_of_own hown (by unfold maxLen; omega)
      exact ⟨po, P.length, pcap, P, rfl, Sp.hid ⟨hseqP, hplP, hmem⟩, Sp.hid hbel, Sp.hid (hk.out.below hbel)⟩)
    have HKp : RowKit.Hid (∀ (w6 : World) (po : Option Addr) (pl pcap : Nat) (P L : List Nat) (s : ByteArray) (mb cp : Nat), RowKit.Hid (Nf.Seq Nf.num w6 po pl P ∧ Nf.Pool N P ∧ (∀ q, q ∈ P ↔ Nf.StepTo gr (· ∈ L) s q)) → RowKit.Hid (∀ q, q ∈ L ↔ Nf.Lead gr W (Nf.Beg gr) q) → RowKit.Hid (Nf.BoolsAt w6 mb N (Nf.Live gr)) → RowKit.Hid (Nf.RfB B eb db N w6) →
        Calls Tryz.prog 37 #[.slice po pl pcap, .slice (some ⟨mb, 0, none⟩) N cp] w6 (fun e w7 => ∃ (ko : Option Addr) (k c : Nat), e = .returned (.slice ko k c) ∧ decide (0 < k) = Nf.bl (Nf.GoesOn gr W s) ∧ RowKit.Hid (Below w6.heap.size w6 w7) ∧ RowKit.Hid (Nf.RfB B eb db N w7))) := Sp.hid (fun w6 po pl pcap P L s mb cp hP hmem hbo hk => by
      have hsm := HG4.out.small
      rw [HNg.out] at hsm
      have hln := hP.out.2.1.len
      have hle := hP.out.1.1
      refine (kept_any w6 po pl pcap P mb N cp (Nf.Live gr) hP.out.1 hP.out.2.1.lt hsm hbo.out (by omega)).mono ?_
      rintro e w7 ⟨ko, k, c, rfl, hlen, _, hbel⟩
      refine ⟨ko, k, c, rfl, ?_, Sp.hid hbel, Sp.hid (hk.out.below hbel)⟩
      rw [Nf.bl_decide]
      apply Nf.bl_congr
      constructor
      · intro h
        have h1 : 0 < (Nf.keep (Nf.Live gr) P).length := by omega
        obtain ⟨q, hq⟩ := List.exists_mem_of_length_pos h1
        obtain ⟨h2, f, h3, h4⟩ := Nf.mem_keep.1 hq
        obtain ⟨a, b, ha, hab, hst⟩ := (hP.out.2.2 q).1 h2
        exact ⟨a, b, (hmem.out a).1 ha, hab, f, h3, (hst.mono fun x y (hxy : Nf.E gr x y) => (⟨_, hxy⟩ : Nf.Any gr x y)).trans h4⟩
      · rintro ⟨a, b, ha, hab, hl⟩
        have := List.length_pos_of_mem (Nf.mem_keep.2 ⟨(hP.out.2.2 b).2 ⟨a, b, (hmem.out a).2 ha, hab, .refl b⟩, hl⟩)
        omega)
    have HOk := Sp.hid HG4.out.ok
    clear hb4 hG4 hgb hw4 hB Hr
    have Hre := Sp.hid (Below.refl w4.heap.size w4)
    go_wp2_with fail
    have HkA : Hid (Nf.RfB B eb db N w4) := Sp.hid ⟨c0, c1, c2⟩
    refine (HAlv.out w4 Hre HkA).mono ?_
    rintro e wA ⟨mb, cp, rfl, HBoA, HbA, HkB⟩
    obtain ⟨a0, a1, a2⟩ := HkB.out
    clear c0 c1 c2
    go_wp2_with fail
    refine (HRun.out wA HbA HkB).mono ?_
    rintro e wR ⟨lo, ll, lcap, L, rfl, HSR, HPR, HMR, HbR, HkR⟩
    have HbAR := Sp.hid (HbA.out.trans (HbR.out.mono HbA.out.size))
    have HBoR := Sp.hid (HBoA.out.below HbR.out)
    obtain ⟨r0, r1, r2⟩ := HkR.out
    clear a0 a1 a2 HBoA HbR HkB
    go_wp2_with fail
    refine (HSym.out wR lo ll lcap L HbAR HkR HSR HPR).mono ?_
    rintro e wS ⟨yo, yl, ycap, S, rfl, hyl, HY, HbS, HkS⟩
    have HbAS := Sp.hid (HbAR.out.trans (HbS.out.mono HbAR.out.size))
    have HBoS := Sp.hid (HBoR.out.below HbS.out)
    have HSS := Sp.hid (HSR.out.below HbS.out)
    clear r0 r1 r2 HBoR HbS HkR HSR
    go_wp2_with fail
    go_loopw [11, 13] (fun t i wr => ∃ (k : Nat) (lv : Value) (O : List ByteArray), i = .int .i64 k ∧ k ≤ yl ∧ lv = t ∧ Hid (wr.ownsRow wS.heap.size 9 1 lv O.length (O.map Value.string)) ∧ O.length ≤ k ∧ Hid (O = (S.take k).filter fun s => Nf.bl (Nf.GoesOn gr W s)) ∧ Hid (Below wS.heap.size wS wr) ∧ Hid (Nf.RfB B eb db N wr)) (fun _ i _ => yl - (intOf i).toNat)
    case atStart => exact ⟨0, _, [], rfl, Nat.zero_le _, rfl, Sp.hid (World.ownsRow_nil _ _ _ _), Nat.le_refl _, Sp.hid (by simp), Sp.hid (Below.refl _ _), HkS⟩
    case round =>
      obtain ⟨k, lv, O, rfl, hk, rfl, Hown, hOk, HO, Hb, Hk⟩ := hrel
      obtain ⟨c0, c1, c2⟩ := Hk.out
      by_cases hkn : k < yl
      · obtain ⟨b9, off9, s, rfl, cs0, hsz9, hs?, htk⟩ := (HY.out.1.below Hb.out).at hkn
        have cs : wr.cell? ⟨b9, off9 + k, none⟩ = some (.string s) := cs0
        have hssz := HY.out.2.2.2 s (List.mem_of_getElem? hs?)
        have i1 : (0 : Int) ≤ (k : Int) := by omega
        have i2 : (k : Int) < (yl : Int) := by omega
        have hz := HbAS.out.size
        have HbA4 : Hid (Below w4.heap.size w4 wr.drew) := Sp.hid ((HbAS.out.trans (Hb.out.mono hz)).drew)
        have HkD : Hid (Nf.RfB B eb db N wr.drew) := Sp.hid ⟨c0, c1, c2⟩
        have HSD : Hid (Nf.Seq Nf.num wr.drew lo ll L) := Sp.hid ((HSS.out.below Hb.out).below ((Below.refl _ wr).drew))
        have HStD := Sp.hid (HStep.out wr.drew lo ll lcap L s HbA4 HkD HSD HPR hssz)
        have HBoW : Hid (Nf.BoolsAt wr.drew mb N (Nf.Live gr)) := Sp.hid ((HBoS.out.below Hb.out).below ((Below.refl _ wr).drew))
        have hO2 : ∀ (b : Bool), Nf.bl (Nf.GoesOn gr W s) = b → (S.take (k + 1)).filter (fun s => Nf.bl (Nf.GoesOn gr W s)) = O ++ (if b = true then [s] else []) := fun b hb => by
          rw [htk, List.filter_append, ← HO.out]
          cases b <;> simp [hb]
        have HO2 := Sp.hid hO2
        have hwl : wr.heap.size ≤ wr.drew.heap.size := Nat.le_refl _
        clear cs0 hsz9 hs? htk hO2
        go_wp2_with fail
        go_region_held3 (fun w' => w'.cell? ⟨B, 0, none⟩ = some (.int .i64 0) ∧ w'.cell? ⟨B, 1, none⟩ = some (.slice (some ⟨eb, 0, none⟩) N N) ∧ w'.cell? ⟨B, 2, none⟩ = some (.slice (some ⟨db, 0, none⟩) N N) ∧ w'.cell? ⟨b9, off9 + k, none⟩ = some (.string s)) (go_keep) ((first
          | (go_at_call 38; refine HStD.out.mono ?_; rintro e w6 ⟨po, pl, pcap, P, rfl, HP6, HC6, HK6⟩; obtain ⟨e0, e1, e2⟩ := HK6.out; have e3 : w6.cell? ⟨b9, off9 + k, none⟩ = some (.string s) := (by rw [HC6.out.cell (p := ⟨b9, off9 + k, none⟩) (World.block_lt_of_cell? _ _ cs)]; exact cs))
          | (go_at_call 37; refine (HKp.out w6 po pl pcap P L s mb cp HP6 HMR (Sp.hid (HBoW.out.below HC6.out)) HK6).mono ?_; rintro e w8 ⟨ko, kk, kc, rfl, hkr, HC8, HK8⟩; obtain ⟨g0, g1, g2⟩ := HK8.out; have g3 : w8.cell? ⟨b9, off9 + k, none⟩ = some (.string s) := (by rw [HC8.out.cell (p := ⟨b9, off9 + k, none⟩) (World.block_lt_of_cell? _ _ e3)]; exact e3))))
        all_goals
          have Hb8 : Hid (Below wr.heap.size wr w8) := Sp.hid (((Below.refl _ wr).drew.trans HC6.out).trans (HC8.out.mono HC6.out.size))
          have Hown8 : Hid (w8.ownsRow wS.heap.size 9 1 lv O.length (O.map Value.string)) := Sp.hid (Hown.out.kept (row := none) ⟨Hb8.out.os, Hb8.out.tape, Hb8.out.output, Hb8.out.size, fun i hi _ => Hb8.out.block i hi⟩ (by cases lv.ownBlock <;> simp))
          have HbS8 : Hid (Below wS.heap.size wS w8) := Sp.hid (Hb.out.trans (Hb8.out.mono Hb.out.size))
          cases hgo : Nf.bl (Nf.GoesOn gr W s) with
          | true =>
            rw [hgo] at hkr
            have HO3 := Sp.hid (HO2.out true hgo)
            have HownP := Sp.hid (show (w8.alloc (.cells #[.string s] 9)).ownsRow wS.heap.size 9 1 lv O.length (O.map Value.string) from Hown8.out.alloc _)
            have hwB : wS.heap.size ≤ (w8.alloc (.cells #[.string s] 9)).heap.size := by have := HbS8.out.size; simp; omega
            clear hgo
            go_wp2_with (first
              | (at_builtin; refine Nf.push_str rfl _ _ rfl wS.heap.size lv O rfl HownP.out s ⟨w8.heap.size, 0, none⟩ 1 rfl ?c1 ?c2 ?c3 ?_)
              | fail)
            case c2 => omega
            case c3 => first | exact hwB | simpa using hwB
            intro v2 w9 hown9 hgrow9 hat9
            have Hb9 : Hid (Below wS.heap.size wS w9) := Sp.hid (by
              have hg := grownBy_trans (World.grownBy_alloc w8 (.cells #[.string s] 9) lv.ownBlock) hgrow9
              exact HbS8.out.grown hg HbS8.out.size (fun k hk => (HownP.out.lt k hk).1))
            have Hown9 := Sp.hid (show w9.ownsRow wS.heap.size 9 1 v2 (O ++ [s]).length ((O ++ [s]).map Value.string) by simpa using hown9)
            have Hk9 : Hid (Nf.RfB B eb db N w9) := Sp.hid (HkS.out.below Hb9.out)
            clear hown9 hgrow9 hat9
            go_wp2_with fail
            go_roundw
            case rel => exact ⟨k + 1, v2, O ++ [s], by go_num, hkn, rfl, Hown9, by simp; omega, Sp.hid (by rw [HO3.out]; simp), Hb9, Hk9⟩
            case measure => simp [intOf]; omega
          | false =>
            rw [hgo] at hkr
            have HO3 := Sp.hid (HO2.out false hgo)
            clear hgo
            go_wp2_with fail
            go_roundw
            case rel => exact ⟨k + 1, _, O, by go_num, hkn, rfl, Hown8, by omega, Sp.hid (by rw [HO3.out]; simp), HbS8, HK8⟩
            case measure => simp [intOf]; omega
      · have HOZ : Hid (O = Z) := Sp.hid (by
          have e : S.take k = S := List.take_of_length_le (by have := HY.out.1.1; omega)
          rw [HO.out, ← HZ.out, e]
          refine Sp.asc_ext (Sp.asc_filter HY.out.2.1 _) (Sp.asc_filter ((Sp.isSet_iff _).1 HOk.out.asc) _) (fun x => ?_)
          rw [List.mem_filter, List.mem_filter, Nf.bl_iff]
          constructor
          · rintro ⟨h1, h2⟩
            obtain ⟨h0, p, hp, q, hq⟩ := (HY.out.2.2.1 x).1 h1
            exact ⟨(HOk.out.sym _ hq).resolve_left h0, h2⟩
          · rintro ⟨h1, a, b, h2, h3, h4⟩
            exact ⟨(HY.out.2.2.1 x).2 ⟨HOk.out.full x h1, a, (HMR.out a).2 h2, b, h3⟩, a, b, h2, h3, h4⟩)
        have HszO : Hid (∀ s ∈ O, s.size ≤ maxLen) := Sp.hid (fun s hs => by
          rw [HO.out] at hs
          unfold maxLen
          exact HY.out.2.2.2 s (List.mem_of_mem_take (List.mem_filter.1 hs).1))
        obtain ⟨oo, ocap, rfl, hrow, _⟩ := Nf.row_of_own Hown.out (by unfold maxLen; omega) HszO.out
        have Hrow := Sp.hid hrow
        have HbAE := Sp.hid (HbAS.out.trans (Hb.out.mono HbAS.out.size))
        have HEn := Sp.hid (HEnd.out wr lo ll lcap L (Sp.hid (HSS.out.below Hb.out)) HPR HMR HbAE)
        clear hrow
        go_wp2_with fail
        refine HEn.out.mono ?_
        rintro e w7 ⟨rfl, Hb7⟩
        go_wp2_with fail
        go_ret3
        exact ⟨oo, O.length, ocap, rfl, by have h := Hrow.out.below Hb7.out; rwa [HOZ.out] at h ⊢, HB4.out.trans ((HbAE.out.trans (Hb7.out.mono HbAE.out.size)).mono HB4.out.size)⟩
  · have hs := Sp.hid (show Nf.nextSpec n W = ([], false, Nf.errCk n W) by unfold Nf.nextSpec; rw [if_pos he])
    rw [hs.out]
    generalize Nf.errCk n W = r at HC he
    have h3 : (r != 0) = true := by simpa using he
    clear h hb0 hblk hW he hs hp
    obtain ⟨so, sn, scap, sig, st, ao, an, acap, arcs, eo, en, ecap, ends⟩ := n
    unfold Nf.Net.val at *
    simp only [Nf.Net.cells] at *
    go_enter Tryz.func11, Tryz.ntmps11
    go_wp2_with fail
    refine HC.out.mono ?_
    rintro e w2 ⟨rfl, hb2⟩
    have Hb2 := Sp.hid (Hb0.out.trans (hb2.mono Hb0.out.size))
    clear hb2
    go_wp2_with fail
    go_ret3
    exact ⟨none, 0, 0, rfl, ⟨rfl, by decide, fun h => absurd h (by decide), by simp⟩, Hb2.out⟩
end Go.Proofs.YteggofjldgjfiaaGreat
