/-
  The walk of package auto's Begins.
-/
import Derived.Test.YtnaojfhhjknejaaMgMapVb
import Derived.Test.YtnaojfhhjknejaaMgAuAAuBAuCAuD
set_option linter.unusedVariables false
set_option linter.unusedSimpArgs false
namespace Go.Proofs.Ytnaojfhhjknejaa
open Go.RowKit
namespace Nf
/-- Some word begins so: a state to which the word leads comes to an end. -/
def BegAcc (g : Gr) (W : List ByteArray) : Prop := ∃ q, Lead g W (Beg g) q ∧ Live g q
noncomputable def begSpec (n : Net) (W : List ByteArray) : Bool × Int := if errCk n W ≠ 0 then (false, errCk n W) else (bl (BegAcc (netGr n) W), 0)
def BegPost (n : Net) (W : List ByteArray) (w : World) (e : Ending) (w' : World) : Prop := e = .returned (.tuple #[.bool (begSpec n W).1, .int .i64 (begSpec n W).2]) ∧ RowKit.Below w.heap.size w w'
end Nf

set_option maxHeartbeats 2000000 in
set_option maxRecDepth 100000 in
theorem begins_any (w : World) (n : Nf.Net) (wo : Option Addr) (wn wcap : Nat) (W : List ByteArray) (h : Nf.NetAt w n) (hW : Sp.Row w wo wn W) :
    Calls Try.prog 7 #[n.val, .slice wo wn wcap] w (Nf.BegPost n W w) := by
  have hb0 : Below w.heap.size w (w.alloc (.cells n.cells 26)) := (Below.refl _ w).alloc (Nat.le_refl _) _
  have hblk : (w.alloc (.cells n.cells 26)).heap[w.heap.size]? = some (.cells n.cells 26 (0, 0)) := Nf.Below.heap_new w _
  have HC := Sp.hid (validateBoth_any _ n wo wn wcap W (h.below hb0) (hW.below hb0))
  have Hb0 := Sp.hid hb0
  have Hblk := Sp.hid hblk
  have HN := Sp.hid h
  have HW := Sp.hid hW
  have hp : Nf.BegPost n W w = fun e w' => e = .returned (.tuple #[.bool (Nf.begSpec n W).1, .int .i64 (Nf.begSpec n W).2]) ∧ Below w.heap.size w w' := rfl
  rw [hp]
  by_cases he : Nf.errCk n W = 0
  · have hs := Sp.hid (show Nf.begSpec n W = (Nf.bl (Nf.BegAcc (Nf.netGr n) W), 0) by unfold Nf.begSpec; rw [if_neg (by simpa using he)])
    rw [hs.out]
    obtain ⟨he1, he2⟩ := Nf.errCk_zero he
    have HPre := Sp.hid (fun (w2 : World) (hb : Below w.heap.size w w2) => (Nf.errNet_pre (h.below hb) he1).2.2)
    have hst := (Nf.errNet_pre h he1).1
    have Hne := Sp.hid (Nf.word_ne he2)
    have hgr := Sp.hid (show Nf.netGr n = Nf.grOf n.sig n.st.toNat n.arcs n.ends from rfl)
    rw [he] at HC
    obtain ⟨N, hN⟩ : ∃ N, n.st.toNat = N := ⟨_, rfl⟩
    rw [hN] at HPre hst hgr
    generalize Nf.netGr n = gr at hgr ⊢
    obtain ⟨r, hr⟩ : ∃ r, Nf.bl (Nf.BegAcc gr W) = r := ⟨_, rfl⟩
    rw [hr]
    have Hr := Sp.hid hr
    clear h hb0 hblk hW he he1 he2 hs hp hN hr
    obtain ⟨so, sn, scap, sig, st, ao, an, acap, arcs, eo, en, ecap, ends⟩ := n
    unfold Nf.Net.val at *
    simp only [Nf.Net.cells] at *
    subst hst
    go_enter Try.func7, Try.ntmps7
    go_wp2_with fail
    refine HC.out.mono ?_
    rintro e w2 ⟨rfl, hb2⟩
    have hblk2 := Nf.blk_below Hblk.out hb2 (by simp)
    have d0 : w2.cell? ⟨w.heap.size, 0, none⟩ = some (.slice so sn scap) := Nf.blk_cell (i := 0) hblk2 rfl
    have d1 : w2.cell? ⟨w.heap.size, 1, none⟩ = some (.int .i64 (N : Int)) := Nf.blk_cell (i := 1) hblk2 rfl
    have d2 : w2.cell? ⟨w.heap.size, 2, none⟩ = some (.slice ao an acap) := Nf.blk_cell (i := 2) hblk2 rfl
    have d3 : w2.cell? ⟨w.heap.size, 3, none⟩ = some (.slice eo en ecap) := Nf.blk_cell (i := 3) hblk2 rfl
    have Hb2 := Sp.hid (Hb0.out.trans (hb2.mono Hb0.out.size))
    have HGo := Sp.hid (index_any w2 so sn scap sig N ao an acap arcs eo en ecap ends (HPre.out w2 Hb2.out))
    rw [← hgr.out] at HGo
    clear hb2 hblk2
    go_wp2_with fail
    refine HGo.out.mono ?_
    rintro e w3 ⟨gb, v, rfl, hG3, hb3⟩
    have HG := Sp.hid hG3
    have Hb3 := Sp.hid (Hb2.out.trans (hb3.mono Hb2.out.size))
    clear hG3 hb3 d0 d1 d2 d3
    have HLd : Hid (∀ w5 : World, Hid (Below w3.heap.size w3 w5) → Calls Try.prog 18 #[.pointer (some ⟨gb, 0, none⟩), .slice wo wn wcap] w5 (fun e w6 => ∃ (m : Option Nat) (A : List Nat), e = .returned (.map m) ∧ Hid (Nf.MapOr w6 m A ∧ (∀ q, q ∈ A ↔ Nf.Lead gr W (Nf.Beg gr) q) ∧ (∀ q ∈ A, q < gr.N)) ∧ Hid (Below w3.heap.size w3 w6) ∧ Hid (Below w5.heap.size w5 w6))) := Sp.hid (fun w5 hb => by
      refine (leads_any w5 gb v gr (HG.out.below hb.out) wo wn wcap W (HW.out.below (Hb3.out.trans (hb.out.mono Hb3.out.size))) Hne.out).mono ?_
      rintro e w6 ⟨m, A, rfl, h1, h2, h3, h4⟩
      exact ⟨m, A, rfl, Sp.hid ⟨h1, h2, h3⟩, Sp.hid (hb.out.trans (h4.mono hb.out.size)), Sp.hid h4⟩)
    have HLv : Hid (∀ w5 : World, Hid (Below w3.heap.size w3 w5) → Calls Try.prog 15 #[.pointer (some ⟨gb, 0, none⟩)] w5 (fun e w6 => ∃ hb, e = .returned (.slice (some ⟨hb, 0, none⟩) gr.N gr.N) ∧ Hid (Nf.BoolsAt w6 hb gr.N (Nf.Live gr)) ∧ Hid (Below w3.heap.size w3 w6) ∧ Hid (Below w5.heap.size w5 w6))) := Sp.hid (fun w5 hb => by
      refine (live_any w5 gb v gr (HG.out.below hb.out)).mono ?_
      rintro e w6 ⟨mb, rfl, h1, h2⟩
      exact ⟨mb, rfl, Sp.hid h1.2, Sp.hid (hb.out.trans (h2.mono hb.out.size)), Sp.hid h2⟩)
    have HAny : Hid (∀ (w5 : World) (m : Option Nat) (A : List Nat) (mb : Nat), Hid (Nf.MapOr w5 m A ∧ (∀ q, q ∈ A ↔ Nf.Lead gr W (Nf.Beg gr) q) ∧ (∀ q ∈ A, q < gr.N)) → Hid (Nf.BoolsAt w5 mb gr.N (Nf.Live gr)) → Hid (Below w3.heap.size w3 w5) → Calls Try.prog 17 #[.map m, .slice (some ⟨mb, 0, none⟩) gr.N gr.N] w5 (fun e w6 => e = .returned (.bool r) ∧ Hid (Below w.heap.size w w6))) := Sp.hid (fun w5 m A mb hA hm5 hb5 => by
      have hw5 := Hb3.out.trans (hb5.out.mono Hb3.out.size)
      have hfin : Nf.bl (∃ q, q ∈ A ∧ Nf.Live gr q) = r := by
        rw [← Hr.out]
        apply Nf.bl_congr
        constructor
        · rintro ⟨q, h1, h2⟩; exact ⟨q, (hA.out.2.1 q).1 h1, h2⟩
        · rintro ⟨q, h1, h2⟩; exact ⟨q, (hA.out.2.1 q).2 h1, h2⟩
      rcases hA.out.1 with ⟨rfl, h0⟩ | ⟨b, rfl, hm⟩
      · refine (anyOf_none w5 mb gr.N (Nf.Live gr)).mono ?_
        rintro e w6 ⟨rfl, hb6⟩
        rw [h0] at hfin
        exact ⟨by rw [hfin], Sp.hid (hw5.trans (hb6.mono hw5.size))⟩
      · refine (anyOf_any w5 b A mb gr.N (Nf.Live gr) hm hA.out.2.2 HG.out.small hm5.out).mono ?_
        rintro e w6 ⟨rfl, hb6⟩
        exact ⟨by rw [hfin], Sp.hid (hw5.trans (hb6.mono hw5.size))⟩)
    have HMc : Hid (∀ (w5 w6 : World) (m : Option Nat) (A : List Nat), Hid (Nf.MapOr w5 m A ∧ (∀ q, q ∈ A ↔ Nf.Lead gr W (Nf.Beg gr) q) ∧ (∀ q ∈ A, q < gr.N)) → Hid (Below w5.heap.size w5 w6) → Hid (Nf.MapOr w6 m A ∧ (∀ q, q ∈ A ↔ Nf.Lead gr W (Nf.Beg gr) q) ∧ (∀ q ∈ A, q < gr.N))) := Sp.hid (fun w5 w6 m A hA hb => Sp.hid ⟨by
      rcases hA.out.1 with ⟨e, h0⟩ | ⟨b, e, hm⟩
      · exact .inl ⟨e, h0⟩
      · exact .inr ⟨b, e, hm.below hb.out⟩, hA.out.2⟩)
    go_wp2_with fail
    refine (HLd.out w3 (Sp.hid (Below.refl _ w3))).mono ?_
    rintro e wa ⟨m, A, rfl, HA5, HBa, HCa⟩
    go_wp2_with fail
    refine (HLv.out wa HBa).mono ?_
    rintro e wb ⟨mb, rfl, HM5, HBb, HCb⟩
    go_wp2_with fail
    refine (HAny.out wb m A mb (HMc.out wa wb m A HA5 HCb) HM5 HBb).mono ?_
    rintro e w6 ⟨rfl, HB6⟩
    go_wp2_with fail
    go_ret2
    exact ⟨rfl, HB6.out⟩
  · have hs := Sp.hid (show Nf.begSpec n W = (false, Nf.errCk n W) by unfold Nf.begSpec; rw [if_pos he])
    rw [hs.out]
    generalize Nf.errCk n W = r at HC he
    have h3 : (r != 0) = true := by simpa using he
    clear h hb0 hblk hW he hs hp
    obtain ⟨so, sn, scap, sig, st, ao, an, acap, arcs, eo, en, ecap, ends⟩ := n
    unfold Nf.Net.val at *
    simp only [Nf.Net.cells] at *
    go_enter Try.func7, Try.ntmps7
    go_wp2_with fail
    refine HC.out.mono ?_
    rintro e w2 ⟨rfl, hb2⟩
    have Hb2 := Sp.hid (Hb0.out.trans (hb2.mono Hb0.out.size))
    clear hb2
    go_wp2_with fail
    go_ret2
    exact ⟨rfl, Hb2.out⟩
end Go.Proofs.Ytnaojfhhjknejaa
