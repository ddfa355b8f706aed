/-
  The walks of the reference's Start, IsEnd and Run.
-/
import Derived.Test.YtpoblcmjfcpiaaaGreatMgReSt
import Derived.Test.YtpoblcmjfcpiaaaGreatMgAuAAuBAuCAuD
import Derived.Deep.RegionHeld3
import Derived.Deep.DrawnRows
import Derived.StillTailTactics
set_option linter.unusedVariables false
set_option linter.unusedSimpArgs false
namespace Go.Proofs.YtpoblcmjfcpiaaaGreat
open Go.RowKit

set_option maxHeartbeats 1000000 in
set_option maxRecDepth 100000 in
theorem start_any (w : World) (eb db : Nat) (R : Nat → List (ByteArray × Nat)) (g : Nf.Gr) (hG : Nf.RfAt w eb db R g) :
    Calls Tryz.prog 62 #[Nf.rfVal eb db g.N] w (Nf.AscPost g.N (Nf.Beg g) w) := by
  have hpos := hG.ok.pos
  have hbw : Below w.heap.size w ((w.alloc (.cells (Nf.rfCells eb db g.N) 71)).alloc (.cells #[.int .i64 0] 3)) := ((Below.refl _ w).alloc (Nat.le_refl _) _).alloc (by simp) _
  have hsq := Nf.seq_one Nf.num (w.alloc (.cells (Nf.rfCells eb db g.N) 71)) 0 3
  have HClose := Sp.hid (close_any _ eb db R g _ 1 1 [0] (hG.below hbw) hsq (by intro q hq; simp at hq; subst hq; exact hpos) (by omega))
  unfold Nf.rfVal Nf.rfCells at HClose
  have Hb := Sp.hid hbw
  unfold Nf.rfCells at Hb
  unfold Nf.rfVal
  clear hG hbw hsq
  simp only [World.size_alloc] at HClose
  go_enter Tryz.func62, Tryz.ntmps62
  go_wp2_with fail
  refine HClose.out.mono ?_
  rintro e w5 ⟨v, Ls, rfl, hown, hpl, hasc, hmem, hbel⟩
  have Hown := Sp.hid hown
  have Hpl := Sp.hid hpl
  have Hasc := Sp.hid hasc
  have Hm := Sp.hid hmem
  have Hbel := Sp.hid hbel
  clear hown hpl hasc hmem hbel
  go_wp2_with fail
  go_ret
  have hz := Hb.out.size
  refine ⟨_, Ls, rfl, Nf.own_base Hown.out hz, Hpl.out, Hasc.out, fun q => ?_, Hb.out.trans (Hbel.out.mono hz)⟩
  rw [Hm.out q]
  constructor
  · rintro ⟨p, hp, hst⟩
    simp at hp
    exact ⟨p, hp, hst⟩
  · rintro ⟨p, hp, hst⟩
    exact ⟨p, by simp [hp], hst⟩

set_option maxHeartbeats 1000000 in
set_option maxRecDepth 100000 in
theorem isEnd_any (w : World) (eb db : Nat) (R : Nat → List (ByteArray × Nat)) (g : Nf.Gr) (ao : Option Addr) (n cap : Nat) (L : List Nat) (hG : Nf.RfAt w eb db R g) (hL : Nf.Seq Nf.num w ao n L) (hlt : ∀ q ∈ L, q < g.N) :
    Calls Tryz.prog 39 #[Nf.rfVal eb db g.N, .slice ao n cap] w (Nf.EqPost (∃ q, q ∈ L ∧ q ∈ g.ends) w) := by
  have hN := hG.small
  have hn := hL.le
  have HG := Sp.hid hG
  have HL := Sp.hid hL
  have Hlt := Sp.hid hlt
  have Hlen := Sp.hid hL.1
  have Hb := Sp.hid (show Below w.heap.size w (w.alloc (.cells (Nf.rfCells eb db g.N) 71)) from (Below.refl _ w).alloc (Nat.le_refl _) _)
  have Hgb := Sp.hid (Nf.Below.heap_new w (.cells (Nf.rfCells eb db g.N) 71))
  unfold Nf.rfCells at Hb Hgb
  unfold Nf.rfVal
  clear hG hL hlt
  go_enter Tryz.func39, Tryz.ntmps39
  go_wp2_with fail
  obtain ⟨w1, hw1⟩ : ∃ w1, w.alloc (.cells #[.int .i64 0, .slice (some ⟨eb, 0, none⟩) g.N g.N, .slice (some ⟨db, 0, none⟩) g.N g.N] 71) = w1 := ⟨_, rfl⟩
  rw [hw1] at Hb Hgb ⊢
  clear hw1
  go_loopw [5] (fun i wr => ∃ k : Nat, i = .int .i64 k ∧ k ≤ n ∧ Below w1.heap.size w1 wr ∧ ∀ q, q ∈ L.take k → q ∉ g.ends) (fun i _ => n - (intOf i).toNat)
  case atStart => exact ⟨0, rfl, Nat.zero_le _, Below.refl _ _, by simp⟩
  case round =>
    obtain ⟨k, rfl, hk, hbel, hno⟩ := hrel
    have Hbel := Sp.hid hbel
    have Hno := Sp.hid hno
    clear hbel hno
    by_cases hkn : k < n
    · obtain ⟨b, off, p, rfl, cp0, hp?, htk⟩ := ((HL.out.below Hb.out).below Hbel.out).at hkn
      have hpN := Hlt.out p (List.mem_of_getElem? hp?)
      have Hpm := Sp.hid (Nf.take_mem htk)
      have HpL := Sp.hid (List.mem_of_getElem? hp?)
      have cp : wr.cell? ⟨b, off + k, none⟩ = some (.int .i64 p) := cp0
      have cG : wr.cell? ⟨w.heap.size, 2, none⟩ = some (.slice (some ⟨db, 0, none⟩) g.N g.N) := Nf.blk_cell (i := 2) (Nf.blk_below Hgb.out Hbel.out (Nf.blk_lt Hgb.out)) rfl
      have cE := ((HG.out.ends.below Hb.out).below Hbel.out).2 p hpN
      have i1 : (0 : Int) ≤ (k : Int) := by omega
      have i2 : (k : Int) < (n : Int) := by omega
      have i3 : (0 : Int) ≤ (p : Int) := by omega
      have i4 : (p : Int) < (g.N : Int) := by omega
      clear hp? htk cp0
      by_cases he : p ∈ g.ends
      · rw [Nf.bl_true he] at cE
        have hf := Sp.hid (show Nf.bl (∃ q, q ∈ L ∧ q ∈ g.ends) = true from Nf.bl_true ⟨p, HpL.out, he⟩)
        clear he
        go_wp2_with fail
        go_quiet (fail)
        go_wp2_with fail
        go_ret
        exact ⟨by rw [hf.out]; rfl, below_drewN (Hb.out.trans (Hbel.out.mono Hb.out.size)) _⟩
      · rw [Nf.bl_false he] at cE
        have He := Sp.hid he
        clear he
        go_wp2_with fail
        go_quiet (fail)
        go_wp2_with fail
        go_roundw
        case rel =>
          refine ⟨k + 1, by go_num, hkn, below_drewN Hbel.out _, fun q hq => ?_⟩
          rcases (Hpm.out q).1 hq with h | rfl
          · exact Hno.out q h
          · exact He.out
        case measure => simp [intOf]; omega
    · have hf := Sp.hid (show Nf.bl (∃ q, q ∈ L ∧ q ∈ g.ends) = false from Nf.bl_false (by
        rintro ⟨q, h1, h2⟩
        have e : L.take k = L := List.take_of_length_le (by rw [Hlen.out]; omega)
        exact Hno.out q (by rw [e]; exact h1) h2))
      go_wp2_with fail
      go_ret
      exact ⟨by rw [hf.out]; rfl, Hb.out.trans (Hbel.out.mono Hb.out.size)⟩

set_option maxHeartbeats 2000000 in
set_option maxRecDepth 100000 in
theorem run_any (w : World) (eb db : Nat) (R : Nat → List (ByteArray × Nat)) (g : Nf.Gr) (ao : Option Addr) (n cap : Nat) (W : List ByteArray) (hG : Nf.RfAt w eb db R g) (hW : Sp.Row w ao n W) (hs : ∀ s ∈ W, s.size ≠ 0) :
    Calls Tryz.prog 35 #[Nf.rfVal eb db g.N, .slice ao n cap] w (Nf.AscPost g.N (Nf.Lead g W (Nf.Beg g)) w) := by
  have hn := hW.le
  have Hlen := Sp.hid hW.1
  have Hs := Sp.hid hs
  have hb := (Below.refl w.heap.size w).alloc (Nat.le_refl _) (.cells (Nf.rfCells eb db g.N) 71)
  have hgb := Nf.Below.heap_new w (.cells (Nf.rfCells eb db g.N) 71)
  have HStart := Sp.hid (start_any _ eb db R g (hG.below hb))
  have HW := Sp.hid (hW.below hb)
  have HG := Sp.hid (hG.below hb)
  have Hb := Sp.hid hb
  have Hgb := Sp.hid hgb
  unfold Nf.rfCells at Hb Hgb HStart HW HG
  unfold Nf.rfVal at HStart
  unfold Nf.rfVal
  clear hG hW hs hb hgb
  have c0 : (w.alloc (.cells #[.int .i64 0, .slice (some ⟨eb, 0, none⟩) g.N g.N, .slice (some ⟨db, 0, none⟩) g.N g.N] 71)).heap[w.heap.size]? = _ := Hgb.out
  clear c0
  obtain ⟨w1, hw1⟩ : ∃ w1, w.alloc (.cells #[.int .i64 0, .slice (some ⟨eb, 0, none⟩) g.N g.N, .slice (some ⟨db, 0, none⟩) g.N g.N] 71) = w1 := ⟨_, rfl⟩
  rw [hw1] at Hb Hgb HStart HW HG
  have Hw1 := Sp.hid hw1
  clear hw1
  go_enter Tryz.func35, Tryz.ntmps35
  go_wp2_with fail
  rw [Hw1.out]
  refine HStart.out.mono ?_
  rintro e w2 ⟨v, L0, rfl, hown, hpl, hasc, hmem, hbel⟩
  have Hown := Sp.hid hown
  have Hpl := Sp.hid hpl
  have Hasc := Sp.hid hasc
  have Hmem := Sp.hid hmem
  have Hbel := Sp.hid hbel
  clear hown hpl hasc hmem hbel
  go_wp2_with fail
  go_loopw [5, 6] (fun l i wr => ∃ (k : Nat) (v : Value) (L : List Nat), i = .int .i64 k ∧ k ≤ n ∧ v = l ∧ wr.ownsRow w1.heap.size 3 1 v L.length (L.map Nf.num) ∧ Nf.Pool g.N L ∧ L.Pairwise (· < ·) ∧ (∀ q, q ∈ L ↔ Nf.Lead g (W.take k) (Nf.Beg g) q) ∧ Below w1.heap.size w1 wr) (fun _ i _ => n - (intOf i).toNat)
  case atStart => exact ⟨0, v, L0, rfl, Nat.zero_le _, rfl, Hown.out, Hpl.out, Hasc.out, Hmem.out, Hbel.out⟩
  case round =>
    clear Hown Hpl Hasc Hmem Hbel HStart
    obtain ⟨k, v, L, rfl, hk, rfl, hown, hpl, hasc, hmem, hbel⟩ := hrel
    have hN := HG.out.small
    have hLN := hpl.len
    have Hown := Sp.hid hown
    have Hpl := Sp.hid hpl
    have Hasc := Sp.hid hasc
    have Hmem := Sp.hid hmem
    have Hbel := Sp.hid hbel
    obtain ⟨lo, lcap, rfl, hseq, hlc⟩ := Nf.seq_of_own hown (by unfold maxLen; omega)
    have Hseq := Sp.hid hseq
    clear hown hpl hasc hmem hbel hseq
    by_cases hkn : k < n
    · by_cases hL : 0 < L.length
      · obtain ⟨b, off, s, rfl, cs, hsz, hs?, htk⟩ := (HW.out.below Hbel.out).at hkn
        unfold maxLen at hsz
        have hs0 := Hs.out s (List.mem_of_getElem? hs?)
        have hzz := Sp.not_empty_of_size hs0
        have Htk := Sp.hid htk
        have hgb2 := Nf.blk_below Hgb.out Hbel.out (Nf.blk_lt Hgb.out)
        have cA : wr.cell? ⟨w.heap.size, 0, none⟩ = some (.int .i64 0) := Nf.blk_cell (i := 0) hgb2 rfl
        have cB : wr.cell? ⟨w.heap.size, 1, none⟩ = some (.slice (some ⟨eb, 0, none⟩) g.N g.N) := Nf.blk_cell (i := 1) hgb2 rfl
        have cC : wr.cell? ⟨w.heap.size, 2, none⟩ = some (.slice (some ⟨db, 0, none⟩) g.N g.N) := Nf.blk_cell (i := 2) hgb2 rfl
        have HStep := Sp.hid (step_any wr.drew eb db R g lo L.length lcap L s ((HG.out.below Hbel.out).below ((Below.refl _ _).drew)) Hseq.out Hpl.out hsz)
        unfold Nf.rfVal at HStep
        have i1 : (0 : Int) ≤ (k : Int) := by omega
        have i2 : (k : Int) < (n : Int) := by omega
        have hL2 : (0 : Int) < (L.length : Int) := by omega
        clear hs? htk hgb2 hs0
        go_wp2_with fail
        go_still_tail 6, (by kernel_rfl)
        change wpList _ _ _ _ _ wr.drew
        go_wp2_with fail
        refine HStep.out.mono ?_
        rintro e w3 ⟨v3, L3, rfl, hown, hpl, hasc, hmem, hbel⟩
        have hz := Hbel.out.size
        have Hown3 := Sp.hid (Nf.own_base hown (show w1.heap.size ≤ wr.drew.heap.size from hz))
        have Hpl3 := Sp.hid hpl
        have Hasc3 := Sp.hid hasc
        have Hmem3 := Sp.hid hmem
        have Hbel3 := Sp.hid (show Below w1.heap.size w1 w3 from Hbel.out.drew.trans (hbel.mono hz))
        clear hown hpl hasc hmem hbel
        go_wp2_with fail
        go_roundw
        case rel =>
          refine ⟨k + 1, v3, L3, by go_num, hkn, rfl, Hown3.out, Hpl3.out, Hasc3.out, fun q => ?_, Hbel3.out⟩
          rw [Hmem3.out q, Htk.out, Nf.lead_snoc]
          have e : (fun x => x ∈ L) = Nf.Lead g (W.take k) (Nf.Beg g) := funext fun x => propext (Hmem.out x)
          rw [e]
        case measure => simp [intOf]; omega
      · have hL0 : L = [] := List.length_eq_zero_iff.1 (by omega)
        have HL0 := Sp.hid hL0
        have hL1 : ¬ (0 : Int) < (L.length : Int) := by omega
        clear hL0
        go_wp2_with fail
        go_ret
        refine ⟨_, L, rfl, Nf.own_base Hown.out Hb.out.size, Hpl.out, Hasc.out, fun q => ?_, Hb.out.trans (Hbel.out.mono Hb.out.size)⟩
        have e : Nf.Lead g (W.take k) (Nf.Beg g) = fun _ => False := funext fun x => propext ⟨fun h => by have := (Hmem.out x).2 h; rw [HL0.out] at this; simp at this, fun h => h.elim⟩
        have e2 : Nf.Lead g W (Nf.Beg g) = Nf.Lead g (W.drop k) (Nf.Lead g (W.take k) (Nf.Beg g)) := by rw [← Nf.lead_append, List.take_append_drop]
        rw [e2, e, HL0.out]
        exact ⟨fun h => by simp at h, fun h => absurd h (Nf.lead_none _ _)⟩
    · have e : W.take k = W := List.take_of_length_le (by rw [Hlen.out]; omega)
      have Hall := Sp.hid (show ∀ q, q ∈ L ↔ Nf.Lead g W (Nf.Beg g) q by have h := Hmem.out; rwa [e] at h)
      clear e
      go_wp2_with fail
      go_ret
      exact ⟨_, L, rfl, Nf.own_base Hown.out Hb.out.size, Hpl.out, Hasc.out, Hall.out, Hb.out.trans (Hbel.out.mono Hb.out.size)⟩
end Go.Proofs.YtpoblcmjfcpiaaaGreat
