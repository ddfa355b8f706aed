/-
  The walks of package auto's validateBoth and Accepts.
-/
import Derived.Test.YteggofjldgjfiaaMgMapG
import Derived.Test.YteggofjldgjfiaaMgReAcc
import Derived.Test.YteggofjldgjfiaaMgAuF
import Derived.Test.YteggofjldgjfiaaMgWalkA
import Derived.Deep.RegionHeld3
set_option linter.unusedVariables false
set_option linter.unusedSimpArgs false
namespace Go.Proofs.Yteggofjldgjfiaa
open Go.RowKit

set_option maxHeartbeats 1000000 in
set_option maxRecDepth 100000 in
theorem validateBoth_any (w : World) (n : Nf.Net) (wo : Option Addr) (wn wcap : Nat) (W : List ByteArray) (h : Nf.NetAt w n) (hW : Sp.Row w wo wn W) :
    Calls Try.prog 37 #[n.val, .slice wo wn wcap] w fun e w' => e = .returned (.int .i64 (Nf.errCk n W)) ∧ Below w.heap.size w w' := by
  have hb0 : Below w.heap.size w (w.alloc (.cells n.cells 26)) := (Below.refl _ w).alloc (Nat.le_refl _) _
  have HV := Sp.hid (netValidate_any _ n (h.below hb0))
  have Hb0 := Sp.hid hb0
  have HW := Sp.hid hW
  by_cases he : Nf.errNet n = 0
  · have hs := Sp.hid (show Nf.errCk n W = Sp.errWord W by unfold Nf.errCk; rw [if_neg (by simpa using he)])
    rw [hs.out]
    rw [he] at HV
    clear h hb0 hW he hs
    obtain ⟨so, sn, scap, sig, st, ao, an, acap, arcs, eo, en, ecap, ends⟩ := n
    unfold Nf.Net.val at *
    simp only [Nf.Net.cells] at *
    go_enter Try.func37, Try.ntmps37
    go_wp2_with fail
    refine HV.out.mono ?_
    rintro e w2 ⟨rfl, hb2⟩
    have Hb2 := Sp.hid (Hb0.out.trans (hb2.mono Hb0.out.size))
    have HWd := Sp.hid (validateWord_any wo wn wcap W w2 (HW.out.below Hb2.out))
    clear hb2
    go_wp2_with fail
    refine HWd.out.mono ?_
    rintro e w3 ⟨rfl, rfl⟩
    go_wp2_with fail
    go_ret
    exact ⟨rfl, Hb2.out⟩
  · have hs := Sp.hid (show Nf.errCk n W = Nf.errNet n by unfold Nf.errCk; rw [if_pos he])
    rw [hs.out]
    generalize Nf.errNet n = r at HV he
    have h3 : (r != 0) = true := by simpa using he
    clear h hb0 hW he hs
    obtain ⟨so, sn, scap, sig, st, ao, an, acap, arcs, eo, en, ecap, ends⟩ := n
    unfold Nf.Net.val at *
    simp only [Nf.Net.cells] at *
    go_enter Try.func37, Try.ntmps37
    go_wp2_with fail
    refine HV.out.mono ?_
    rintro e w2 ⟨rfl, hb2⟩
    have Hb2 := Sp.hid (Hb0.out.trans (hb2.mono Hb0.out.size))
    clear hb2
    go_wp2_with fail
    go_ret
    exact ⟨rfl, Hb2.out⟩


set_option maxHeartbeats 2000000 in
set_option maxRecDepth 100000 in
theorem accepts_any (w : World) (n : Nf.Net) (wo : Option Addr) (wn wcap : Nat) (W : List ByteArray) (h : Nf.NetAt w n) (hW : Sp.Row w wo wn W) :
    Calls Try.prog 15 #[n.val, .slice wo wn wcap] w (Nf.AccPost n W w) := by
  have hb0 : Below w.heap.size w (w.alloc (.cells n.cells 26)) := (Below.refl _ w).alloc (Nat.le_refl _) _
  have hblk : (w.alloc (.cells n.cells 26)).heap[w.heap.size]? = some (.cells n.cells 26 (0, 0)) := Nf.Below.heap_new w _
  have HC := Sp.hid (validateBoth_any _ n wo wn wcap W (h.below hb0) (hW.below hb0))
  have Hb0 := Sp.hid hb0
  have Hblk := Sp.hid hblk
  have HN := Sp.hid h
  have HW := Sp.hid hW
  have hp : Nf.AccPost n W w = fun e w' => e = .returned (.tuple #[.bool (Nf.accSpec n W).1, .int .i64 (Nf.accSpec n W).2]) ∧ Below w.heap.size w w' := rfl
  rw [hp]
  by_cases he : Nf.errCk n W = 0
  · have hs := Sp.hid (show Nf.accSpec n W = (Nf.bl (Nf.Acc (Nf.netGr n) W), 0) by unfold Nf.accSpec; rw [if_neg (by simpa using he)])
    rw [hs.out]
    obtain ⟨he1, he2⟩ := Nf.errCk_zero he
    have HPre := Sp.hid (fun (w2 : World) (hb : Below w.heap.size w w2) => (Nf.errNet_pre (h.below hb) he1).2.2)
    have hst := (Nf.errNet_pre h he1).1
    have Hne := Sp.hid (Nf.word_ne he2)
    have hgr := Sp.hid (show Nf.netGr n = Nf.grOf n.sig n.st.toNat n.arcs n.ends from rfl)
    rw [he] at HC
    obtain ⟨N, hN⟩ : ∃ N, n.st.toNat = N := ⟨_, rfl⟩
    rw [hN] at HPre hst hgr
    generalize Nf.netGr n = gr at hgr ⊢
    obtain ⟨r, hr⟩ : ∃ r, Nf.bl (Nf.Acc gr W) = r := ⟨_, rfl⟩
    rw [hr]
    have Hr := Sp.hid hr
    clear h hb0 hblk hW he he1 he2 hs hp hN hr
    obtain ⟨so, sn, scap, sig, st, ao, an, acap, arcs, eo, en, ecap, ends⟩ := n
    unfold Nf.Net.val at *
    simp only [Nf.Net.cells] at *
    subst hst
    go_enter Try.func15, Try.ntmps15
    go_wp2_with fail
    refine HC.out.mono ?_
    rintro e w2 ⟨rfl, hb2⟩
    have hblk2 := Nf.blk_below Hblk.out hb2 (by simp)
    have d0 : w2.cell? ⟨w.heap.size, 0, none⟩ = some (.slice so sn scap) := Nf.blk_cell (i := 0) hblk2 rfl
    have d1 : w2.cell? ⟨w.heap.size, 1, none⟩ = some (.int .i64 (N : Int)) := Nf.blk_cell (i := 1) hblk2 rfl
    have d2 : w2.cell? ⟨w.heap.size, 2, none⟩ = some (.slice ao an acap) := Nf.blk_cell (i := 2) hblk2 rfl
    have d3 : w2.cell? ⟨w.heap.size, 3, none⟩ = some (.slice eo en ecap) := Nf.blk_cell (i := 3) hblk2 rfl
    have Hb2 := Sp.hid (Hb0.out.trans (hb2.mono Hb0.out.size))
    have HGo := Sp.hid (index_any w2 so sn scap sig N ao an acap arcs eo en ecap ends (HPre.out w2 Hb2.out))
    rw [← hgr.out] at HGo
    clear hb2 hblk2
    go_wp2_with fail
    refine HGo.out.mono ?_
    rintro e w3 ⟨gb, v, rfl, hG3, hb3⟩
    have HG := Sp.hid hG3
    have Hb3 := Sp.hid (Hb2.out.trans (hb3.mono Hb2.out.size))
    clear hG3 hb3 d0 d1 d2 d3
    have g1 : w3.cell? ⟨gb, 1, none⟩ = some (.slice (some ⟨v.eb, 0, none⟩) gr.N gr.N) := Nf.blk_cell (i := 1) HG.out.blk rfl
    have HLd := Sp.hid (leads_any w3.drew gb v gr (HG.out.below (Below.refl _ w3).drew) wo wn wcap W (HW.out.below Hb3.out.drew) Hne.out)
    have HAny : Hid (∀ (w5 : World) (m : Option Nat) (A : List Nat), Hid (Nf.MapOr w5 m A ∧ (∀ q, q ∈ A ↔ Nf.Lead gr W (Nf.Beg gr) q) ∧ (∀ q ∈ A, q < gr.N)) → Hid (Below w3.heap.size w3 w5) → w5.cell? ⟨gb, 1, none⟩ = some (.slice (some ⟨v.eb, 0, none⟩) gr.N gr.N) → Calls Try.prog 39 #[.map m, .slice (some ⟨v.eb, 0, none⟩) gr.N gr.N] w5 (fun e w6 => e = .returned (.bool r) ∧ Hid (Below w.heap.size w w6) ∧ w6.cell? ⟨gb, 1, none⟩ = some (.slice (some ⟨v.eb, 0, none⟩) gr.N gr.N))) := Sp.hid (fun w5 m A hA hb5 hg5 => by
      have hw5 := Hb3.out.trans (hb5.out.mono Hb3.out.size)
      have hfin : Nf.bl (∃ q, q ∈ A ∧ q ∈ gr.ends) = r := by
        rw [← Hr.out]
        apply Nf.bl_congr
        constructor
        · rintro ⟨q, h1, h2⟩; exact ⟨q, h2, (hA.out.2.1 q).1 h1⟩
        · rintro ⟨q, h1, h2⟩; exact ⟨q, (hA.out.2.1 q).2 h2, h1⟩
      rcases hA.out.1 with ⟨rfl, h0⟩ | ⟨b, rfl, hm⟩
      · refine (anyOf_none w5 v.eb gr.N (· ∈ gr.ends)).mono ?_
        rintro e w6 ⟨rfl, hb6⟩
        rw [h0] at hfin
        exact ⟨by rw [hfin], Sp.hid (hw5.trans (hb6.mono hw5.size)), by rw [hb6.cell (p := ⟨gb, 1, none⟩) (World.block_lt_of_cell? w5 _ hg5)]; exact hg5⟩
      · refine (anyOf_any w5 b A v.eb gr.N (· ∈ gr.ends) hm hA.out.2.2 HG.out.small (HG.out.ends.below hb5.out)).mono ?_
        rintro e w6 ⟨rfl, hb6⟩
        exact ⟨by rw [hfin], Sp.hid (hw5.trans (hb6.mono hw5.size)), by rw [hb6.cell (p := ⟨gb, 1, none⟩) (World.block_lt_of_cell? w5 _ hg5)]; exact hg5⟩)
    have HLd2 : Hid (Calls Try.prog 40 #[.pointer (some ⟨gb, 0, none⟩), .slice wo wn wcap] w3.drew (fun e w5 => ∃ (m : Option Nat) (A : List Nat), e = .returned (.map m) ∧ Hid (Nf.MapOr w5 m A ∧ (∀ q, q ∈ A ↔ Nf.Lead gr W (Nf.Beg gr) q) ∧ (∀ q ∈ A, q < gr.N)) ∧ Hid (Below w3.heap.size w3 w5) ∧ w5.cell? ⟨gb, 1, none⟩ = some (.slice (some ⟨v.eb, 0, none⟩) gr.N gr.N))) := Sp.hid (by
      refine HLd.out.mono ?_
      rintro e w5 ⟨m, A, rfl, h1, h2, h3, h4⟩
      have hb : Below w3.heap.size w3 w5 := (Below.refl _ w3).drew.trans h4
      exact ⟨m, A, rfl, Sp.hid ⟨h1, h2, h3⟩, Sp.hid hb, by rw [hb.cell (p := ⟨gb, 1, none⟩) (World.block_lt_of_cell? w3 _ g1)]; exact g1⟩)
    clear HLd
    go_wp2_with fail
    go_region_held3 (fun w' => w'.cell? ⟨gb, 1, none⟩ = some (.slice (some ⟨v.eb, 0, none⟩) gr.N gr.N)) (go_keep) ((first
      | (go_at_call 40; refine HLd2.out.mono ?_; rintro e w5 ⟨m, A, rfl, HA5, HB5, g5⟩)
      | (go_at_call 39; refine (HAny.out w5 m A HA5 HB5 g5).mono ?_; rintro e w6 ⟨rfl, HB6, g6⟩)))
    all_goals
      go_wp2_with fail
      go_ret2
      exact ⟨rfl, HB6.out⟩
  · have hs := Sp.hid (show Nf.accSpec n W = (false, Nf.errCk n W) by unfold Nf.accSpec; rw [if_pos he])
    rw [hs.out]
    generalize Nf.errCk n W = r at HC he
    have h3 : (r != 0) = true := by simpa using he
    clear h hb0 hblk hW he hs hp
    obtain ⟨so, sn, scap, sig, st, ao, an, acap, arcs, eo, en, ecap, ends⟩ := n
    unfold Nf.Net.val at *
    simp only [Nf.Net.cells] at *
    go_enter Try.func15, Try.ntmps15
    go_wp2_with fail
    refine HC.out.mono ?_
    rintro e w2 ⟨rfl, hb2⟩
    have Hb2 := Sp.hid (Hb0.out.trans (hb2.mono Hb0.out.size))
    clear hb2
    go_wp2_with fail
    go_ret2
    exact ⟨rfl, Hb2.out⟩
end Go.Proofs.Yteggofjldgjfiaa
