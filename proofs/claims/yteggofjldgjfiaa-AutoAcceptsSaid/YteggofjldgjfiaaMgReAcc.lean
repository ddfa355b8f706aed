/-
  The walks of the reference's checked and Accepts.
-/
import Derived.Test.YteggofjldgjfiaaMgReRun
import Derived.Test.YteggofjldgjfiaaMgReGo
import Derived.Test.YteggofjldgjfiaaMgAuRv
import Derived.Test.YteggofjldgjfiaaMgAuZAuZaAuKnAuLa
import Derived.Test.YteggofjldgjfiaaMgWalkB
set_option linter.unusedVariables false
set_option linter.unusedSimpArgs false
namespace Go.Proofs.Yteggofjldgjfiaa
open Go.RowKit
namespace Nf
/-- The error of a net and a word. -/
noncomputable def errCk (n : Net) (W : List ByteArray) : Int := if errNet n ≠ 0 then errNet n else Sp.errWord W
noncomputable def accSpec (n : Net) (W : List ByteArray) : Bool × Int := if errCk n W ≠ 0 then (false, errCk n W) else (bl (Acc (netGr n) W), 0)
def AccPost (n : Net) (W : List ByteArray) (w : World) (e : Ending) (w' : World) : Prop := e = .returned (.tuple #[.bool (accSpec n W).1, .int .i64 (accSpec n W).2]) ∧ RowKit.Below w.heap.size w w'
theorem errCk_zero {n : Net} {W : List ByteArray} (h : errCk n W = 0) : errNet n = 0 ∧ Sp.errWord W = 0 := by
  unfold errCk at h
  by_cases he : errNet n = 0
  · rw [if_neg (by simpa using he)] at h; exact ⟨he, h⟩
  · rw [if_pos he] at h; exact absurd h he
theorem word_full {W : List ByteArray} (h : Sp.errWord W = 0) : ∀ s ∈ W, s.size ≠ 0 := by
  intro s hs
  have := (Sp.word_small h).2.2
  unfold Sp.allSym at this
  rw [List.all_eq_true] at this
  have := this s hs
  unfold Sp.isSym at this
  simp only [Bool.and_eq_true, decide_eq_true_eq] at this
  omega
theorem word_ne {W : List ByteArray} (h : Sp.errWord W = 0) : ∀ s ∈ W, s ≠ eps := fun s hs e => word_full h s hs (by rw [e]; rfl)
end Nf

set_option maxHeartbeats 1000000 in
set_option maxRecDepth 100000 in
theorem checked_any (w : World) (n : Nf.Net) (wo : Option Addr) (wn wcap : Nat) (W : List ByteArray) (h : Nf.NetAt w n) (hW : Sp.Row w wo wn W) :
    Calls Try.prog 41 #[n.val, .slice wo wn wcap] w fun e w' => e = .returned (.int .i64 (Nf.errCk n W)) ∧ Below w.heap.size w w' := by
  have hb0 : Below w.heap.size w (w.alloc (.cells n.cells 26)) := (Below.refl _ w).alloc (Nat.le_refl _) _
  have HV := Sp.hid (refValidN_any _ n (h.below hb0))
  have Hb0 := Sp.hid hb0
  have HW := Sp.hid hW
  by_cases he : Nf.errNet n = 0
  · have hs := Sp.hid (show Nf.errCk n W = Sp.errWord W by unfold Nf.errCk; rw [if_neg (by simpa using he)])
    rw [hs.out]
    rw [he] at HV
    clear h hb0 hW he hs
    obtain ⟨so, sn, scap, sig, st, ao, an, acap, arcs, eo, en, ecap, ends⟩ := n
    unfold Nf.Net.val at *
    simp only [Nf.Net.cells] at *
    go_enter Try.func41, Try.ntmps41
    go_wp2_with fail
    refine HV.out.mono ?_
    rintro e w2 ⟨rfl, hb2⟩
    have Hb2 := Sp.hid (Hb0.out.trans (hb2.mono Hb0.out.size))
    have HWd := Sp.hid (refValidateWord_any wo wn wcap W w2 (HW.out.below Hb2.out))
    clear hb2
    go_wp2_with fail
    refine HWd.out.mono ?_
    rintro e w3 ⟨rfl, rfl⟩
    go_wp2_with fail
    go_ret
    exact ⟨rfl, Hb2.out⟩
  · have hs := Sp.hid (show Nf.errCk n W = Nf.errNet n by unfold Nf.errCk; rw [if_pos he])
    rw [hs.out]
    generalize Nf.errNet n = r at HV he
    have h3 : (r != 0) = true := by simpa using he
    clear h hb0 hW he hs
    obtain ⟨so, sn, scap, sig, st, ao, an, acap, arcs, eo, en, ecap, ends⟩ := n
    unfold Nf.Net.val at *
    simp only [Nf.Net.cells] at *
    go_enter Try.func41, Try.ntmps41
    go_wp2_with fail
    refine HV.out.mono ?_
    rintro e w2 ⟨rfl, hb2⟩
    have Hb2 := Sp.hid (Hb0.out.trans (hb2.mono Hb0.out.size))
    clear hb2
    go_wp2_with fail
    go_ret
    exact ⟨rfl, Hb2.out⟩

/-- The graph's three cells. -/
def Nf.RfB (B eb db N : Nat) (w : World) : Prop := w.cell? ⟨B, 0, none⟩ = some (.int .i64 0) ∧ w.cell? ⟨B, 1, none⟩ = some (.slice (some ⟨eb, 0, none⟩) N N) ∧ w.cell? ⟨B, 2, none⟩ = some (.slice (some ⟨db, 0, none⟩) N N)
theorem Nf.RfB.below {B eb db N : Nat} {w w' : World} (h : Nf.RfB B eb db N w) (hb : Below w.heap.size w w') : Nf.RfB B eb db N w' := by
  have l := World.block_lt_of_cell? w _ h.1
  exact ⟨by rw [hb.cell (p := ⟨B, 0, none⟩) l]; exact h.1, by rw [hb.cell (p := ⟨B, 1, none⟩) l]; exact h.2.1, by rw [hb.cell (p := ⟨B, 2, none⟩) l]; exact h.2.2⟩

set_option maxHeartbeats 2000000 in
set_option maxRecDepth 100000 in
theorem refAccepts_any (w : World) (n : Nf.Net) (wo : Option Addr) (wn wcap : Nat) (W : List ByteArray) (h : Nf.NetAt w n) (hW : Sp.Row w wo wn W) :
    Calls Try.prog 16 #[n.val, .slice wo wn wcap] w (Nf.AccPost n W w) := by
  have hb0 : Below w.heap.size w (w.alloc (.cells n.cells 26)) := (Below.refl _ w).alloc (Nat.le_refl _) _
  have hblk : (w.alloc (.cells n.cells 26)).heap[w.heap.size]? = some (.cells n.cells 26 (0, 0)) := Nf.Below.heap_new w _
  have HC := Sp.hid (checked_any _ n wo wn wcap W (h.below hb0) (hW.below hb0))
  have Hb0 := Sp.hid hb0
  have Hblk := Sp.hid hblk
  have HN := Sp.hid h
  have HW := Sp.hid hW
  have hp : Nf.AccPost n W w = fun e w' => e = .returned (.tuple #[.bool (Nf.accSpec n W).1, .int .i64 (Nf.accSpec n W).2]) ∧ Below w.heap.size w w' := rfl
  rw [hp]
  by_cases he : Nf.errCk n W = 0
  · have hs := Sp.hid (show Nf.accSpec n W = (Nf.bl (Nf.Acc (Nf.netGr n) W), 0) by unfold Nf.accSpec; rw [if_neg (by simpa using he)])
    rw [hs.out]
    obtain ⟨he1, he2⟩ := Nf.errCk_zero he
    have HPre := Sp.hid (fun (w2 : World) (hb : Below w.heap.size w w2) => (Nf.errNet_pre (h.below hb) he1).2.2)
    have hst := (Nf.errNet_pre h he1).1
    have Hful := Sp.hid (Nf.word_full he2)
    have hgr := Sp.hid (show Nf.netGr n = Nf.grOf n.sig n.st.toNat n.arcs n.ends from rfl)
    rw [he] at HC
    obtain ⟨N, hN⟩ : ∃ N, n.st.toNat = N := ⟨_, rfl⟩
    rw [hN] at HPre hst hgr
    have hNg : (Nf.netGr n).N = N := by rw [hgr.out]; rfl
    have HNg := Sp.hid hNg
    generalize Nf.netGr n = gr at hgr HNg ⊢
    obtain ⟨r, hr⟩ : ∃ r, Nf.bl (Nf.Acc gr W) = r := ⟨_, rfl⟩
    rw [hr]
    have Hr := Sp.hid hr
    clear h hb0 hblk hW he he1 he2 hs hp hN hNg hr
    obtain ⟨so, sn, scap, sig, st, ao, an, acap, arcs, eo, en, ecap, ends⟩ := n
    unfold Nf.Net.val at *
    simp only [Nf.Net.cells] at *
    subst hst
    go_enter Try.func16, Try.ntmps16
    go_wp2_with fail
    refine HC.out.mono ?_
    rintro e w2 ⟨rfl, hb2⟩
    have hblk2 := Nf.blk_below Hblk.out hb2 (by simp)
    have d0 : w2.cell? ⟨w.heap.size, 0, none⟩ = some (.slice so sn scap) := Nf.blk_cell (i := 0) hblk2 rfl
    have d1 : w2.cell? ⟨w.heap.size, 1, none⟩ = some (.int .i64 (N : Int)) := Nf.blk_cell (i := 1) hblk2 rfl
    have d2 : w2.cell? ⟨w.heap.size, 2, none⟩ = some (.slice ao an acap) := Nf.blk_cell (i := 2) hblk2 rfl
    have d3 : w2.cell? ⟨w.heap.size, 3, none⟩ = some (.slice eo en ecap) := Nf.blk_cell (i := 3) hblk2 rfl
    have Hb2 := Sp.hid (Hb0.out.trans (hb2.mono Hb0.out.size))
    have HGo := Sp.hid (graphOf_any w2 so sn scap sig N ao an acap arcs eo en ecap ends (HPre.out w2 Hb2.out))
    rw [← hgr.out] at HGo
    clear hb2 hblk2
    go_wp2_with fail
    refine HGo.out.mono ?_
    rintro e w3 ⟨eb, db, R, rfl, hG3, hb3⟩
    rw [HNg.out]
    unfold Nf.rfVal
    have hb4 : Below w.heap.size w (w3.alloc (.cells #[.int .i64 0, .slice (some ⟨eb, 0, none⟩) N N, .slice (some ⟨db, 0, none⟩) N N] 72)) := (Hb2.out.trans (hb3.mono Hb2.out.size)).alloc (by have := hb3.size; have := Hb2.out.size; omega) _
    have hG4 := hG3.below ((Below.refl _ w3).alloc (Nat.le_refl _) (.cells #[.int .i64 0, .slice (some ⟨eb, 0, none⟩) N N, .slice (some ⟨db, 0, none⟩) N N] 72))
    have hgb := Nf.Below.heap_new w3 (.cells #[.int .i64 0, .slice (some ⟨eb, 0, none⟩) N N, .slice (some ⟨db, 0, none⟩) N N] 72)
    clear hG3 hb3 d0 d1 d2 d3
    go_wp2_with fail
    obtain ⟨w4, hw4⟩ : ∃ w4, w3.alloc (.cells #[.int .i64 0, .slice (some ⟨eb, 0, none⟩) N N, .slice (some ⟨db, 0, none⟩) N N] 72) = w4 := ⟨_, rfl⟩
    rw [hw4] at hb4 hG4 hgb ⊢
    obtain ⟨B, hB⟩ : ∃ B, w3.heap.size = B := ⟨_, rfl⟩
    rw [hB] at hgb ⊢
    have HB4 := Sp.hid hb4
    have HG4 := Sp.hid hG4
    have c0 : w4.cell? ⟨B, 0, none⟩ = some (.int .i64 0) := Nf.blk_cell (i := 0) hgb rfl
    have c1 : w4.cell? ⟨B, 1, none⟩ = some (.slice (some ⟨eb, 0, none⟩) N N) := Nf.blk_cell (i := 1) hgb rfl
    have c2 : w4.cell? ⟨B, 2, none⟩ = some (.slice (some ⟨db, 0, none⟩) N N) := Nf.blk_cell (i := 2) hgb rfl
    have Hk4 := Sp.hid (show Nf.RfB B eb db N w4.drew from ⟨c0, c1, c2⟩)
    have HBd := Sp.hid (show Below w4.heap.size w4 w4.drew from (Below.refl _ _).drew)
    have HRun : RowKit.Hid (∀ w5 : World, RowKit.Hid (Below w4.heap.size w4 w5) → RowKit.Hid (Nf.RfB B eb db N w5) → Calls Try.prog 44 #[.agg #[.int .i64 0, .slice (some ⟨eb, 0, none⟩) N N, .slice (some ⟨db, 0, none⟩) N N], .slice wo wn wcap] w5
        (fun e w6 => ∃ (lo : Option Addr) (lcap : Nat) (L : List Nat), e = .returned (.slice lo L.length lcap) ∧ RowKit.Hid (Nf.Seq Nf.num w6 lo L.length L) ∧ RowKit.Hid (Nf.Pool N L) ∧ RowKit.Hid (∀ q, q ∈ L ↔ Nf.Lead gr W (Nf.Beg gr) q) ∧ RowKit.Hid (Below w4.heap.size w4 w6) ∧ RowKit.Hid (Nf.RfB B eb db N w6))) := Sp.hid (fun w5 hb hk => by
      have hb5 := HB4.out.trans (hb.out.mono HB4.out.size)
      have hr := run_any w5 eb db R gr wo wn wcap W (HG4.out.below hb.out) (HW.out.below hb5) Hful.out
      unfold Nf.rfVal at hr
      rw [HNg.out] at hr
      refine hr.mono ?_
      rintro e w6 ⟨v, L, rfl, hown, hpl, hasc, hmem, hbel⟩
      have hsm := HG4.out.small
      rw [HNg.out] at hsm
      have hln := hpl.len
      obtain ⟨lo, lcap, rfl, hseq, _⟩ := Nf.seq_of_own hown (by unfold maxLen; omega)
      exact ⟨lo, lcap, L, rfl, Sp.hid hseq, Sp.hid hpl, Sp.hid hmem, Sp.hid (hb.out.trans (hbel.mono hb.out.size)), Sp.hid (hk.out.below hbel)⟩)
    have HEnd : RowKit.Hid (∀ (w6 : World) (lo : Option Addr) (lcap : Nat) (L : List Nat), RowKit.Hid (Nf.Seq Nf.num w6 lo L.length L) → RowKit.Hid (Nf.Pool N L) → RowKit.Hid (∀ q, q ∈ L ↔ Nf.Lead gr W (Nf.Beg gr) q) → RowKit.Hid (Below w4.heap.size w4 w6) → RowKit.Hid (Nf.RfB B eb db N w6) →
        Calls Try.prog 43 #[.agg #[.int .i64 0, .slice (some ⟨eb, 0, none⟩) N N, .slice (some ⟨db, 0, none⟩) N N], .slice lo L.length lcap] w6 (fun e w7 => e = .returned (.bool r) ∧ RowKit.Hid (Below w4.heap.size w4 w7) ∧ RowKit.Hid (Nf.RfB B eb db N w7))) := Sp.hid (fun w6 lo lcap L hseq hpl hmem hb hk => by
      have hr := isEnd_any w6 eb db R gr lo L.length lcap L (HG4.out.below hb.out) hseq.out (by rw [HNg.out]; exact hpl.out.lt)
      unfold Nf.rfVal at hr
      rw [HNg.out] at hr
      refine hr.mono ?_
      rintro e w7 ⟨rfl, hbel⟩
      refine ⟨?_, Sp.hid (hb.out.trans (hbel.mono hb.out.size)), Sp.hid (hk.out.below hbel)⟩
      rw [← Hr.out]
      congr 2
      apply Nf.bl_congr
      constructor
      · rintro ⟨q, h1, h2⟩; exact ⟨q, h2, (hmem.out q).1 h1⟩
      · rintro ⟨q, h1, h2⟩; exact ⟨q, (hmem.out q).2 h2, h1⟩)
    clear hb4 hG4 hgb hw4 hB
    go_region_held3 (fun w' => w'.cell? ⟨B, 0, none⟩ = some (.int .i64 0) ∧ w'.cell? ⟨B, 1, none⟩ = some (.slice (some ⟨eb, 0, none⟩) N N) ∧ w'.cell? ⟨B, 2, none⟩ = some (.slice (some ⟨db, 0, none⟩) N N)) (go_keep) ((first
      | (go_at_call 44; refine (HRun.out w4.drew HBd Hk4).mono ?_; rintro e w6 ⟨lo, lcap, L, rfl, HS6, HP6, HM6, HB6, HK6⟩; obtain ⟨e0, e1, e2⟩ := HK6.out)
      | (go_at_call 43; refine (HEnd.out w6 lo lcap L HS6 HP6 HM6 HB6 HK6).mono ?_; rintro e w7 ⟨rfl, HB7, HK7⟩; obtain ⟨f0, f1, f2⟩ := HK7.out)))
    all_goals
      go_wp2_with fail
      go_ret2
      exact ⟨rfl, HB4.out.trans (HB7.out.mono HB4.out.size)⟩
  · have hs := Sp.hid (show Nf.accSpec n W = (false, Nf.errCk n W) by unfold Nf.accSpec; rw [if_pos he])
    rw [hs.out]
    generalize Nf.errCk n W = r at HC he
    have h3 : (r != 0) = true := by simpa using he
    clear h hb0 hblk hW he hs hp
    obtain ⟨so, sn, scap, sig, st, ao, an, acap, arcs, eo, en, ecap, ends⟩ := n
    unfold Nf.Net.val at *
    simp only [Nf.Net.cells] at *
    go_enter Try.func16, Try.ntmps16
    go_wp2_with fail
    refine HC.out.mono ?_
    rintro e w2 ⟨rfl, hb2⟩
    have Hb2 := Sp.hid (Hb0.out.trans (hb2.mono Hb0.out.size))
    clear hb2
    go_wp2_with fail
    go_ret2
    exact ⟨rfl, Hb2.out⟩
end Go.Proofs.Yteggofjldgjfiaa
