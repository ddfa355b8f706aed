/-
  The walks of the reference's Start, IsEnd and Run.
-/
import Derived.Test.YtpoblcmjfcpiaaaGreatMgReClReSt
import Derived.Test.YtpoblcmjfcpiaaaGreatMgAuAAuBAuCAuD
import Derived.Deep.RegionHeld3
import Derived.Deep.DrawnRows
import Derived.StillTailTactics
import Derived.Test.YtpoblcmjfcpiaaaGreatMgReTurnReClMReSortReNg
import Derived.Test.YtpoblcmjfcpiaaaGreatMgAuI
set_option linter.unusedVariables false
set_option linter.unusedSimpArgs false
namespace Go.Proofs.YtpoblcmjfcpiaaaGreat
open Go.RowKit

set_option maxHeartbeats 1000000 in
set_option maxRecDepth 100000 in
theorem start_any (w : World) (eb db : Nat) (R : Nat → List (ByteArray × Nat)) (g : Nf.Gr) (hG : Nf.RfAt w eb db R g) :
    Calls Tryz.prog 62 #[Nf.rfVal eb db g.N] w (Nf.AscPost g.N (Nf.Beg g) w) := by
  have hpos := hG.ok.pos
  have hbw : Below w.heap.size w ((w.alloc (.cells (Nf.rfCells eb db g.N) 71)).alloc (.cells #[.int .i64 0] 3)) := ((Below.refl _ w).alloc (Nat.le_refl _) _).alloc (by simp) _
  have hsq := Nf.seq_one Nf.num (w.alloc (.cells (Nf.rfCells eb db g.N) 71)) 0 3
  have HClose := Sp.hid (close_any _ eb db R g _ 1 1 [0] (hG.below hbw) hsq (by intro q hq; simp at hq; subst hq; exact hpos) (by omega))
  unfold Nf.rfVal Nf.rfCells at HClose
  have Hb := Sp.hid hbw
  unfold Nf.rfCells at Hb
  unfold Nf.rfVal
  clear hG hbw hsq
  simp only [World.size_alloc] at HClose
  go_enter Tryz.func62, Tryz.ntmps62
  go_wp2_with fail
  refine HClose.out.mono ?_
  rintro e w5 ⟨v, Ls, rfl, hown, hpl, hasc, hmem, hbel⟩
  have Hown := Sp.hid hown
  have Hpl := Sp.hid hpl
  have Hasc := Sp.hid hasc
  have Hm := Sp.hid hmem
  have Hbel := Sp.hid hbel
  clear hown hpl hasc hmem hbel
  go_wp2_with fail
  go_ret
  have hz := Hb.out.size
  refine ⟨_, Ls, rfl, Nf.own_base Hown.out hz, Hpl.out, Hasc.out, fun q => ?_, Hb.out.trans (Hbel.out.mono hz)⟩
  rw [Hm.out q]
  constructor
  · rintro ⟨p, hp, hst⟩
    simp at hp
    exact ⟨p, hp, hst⟩
  · rintro ⟨p, hp, hst⟩
    exact ⟨p, by simp [hp], hst⟩

set_option maxHeartbeats 1000000 in
set_option maxRecDepth 100000 in
theorem isEnd_any (w : World) (eb db : Nat) (R : Nat → List (ByteArray × Nat)) (g : Nf.Gr) (ao : Option Addr) (n cap : Nat) (L : List Nat) (hG : Nf.RfAt w eb db R g) (hL : Nf.Seq Nf.num w ao n L) (hlt : ∀ q ∈ L, q < g.N) :
    Calls Tryz.prog 39 #[Nf.rfVal eb db g.N, .slice ao n cap] w (Nf.EqPost (∃ q, q ∈ L ∧ q ∈ g.ends) w) := by
  have hN := hG.small
  have hn := hL.le
  have HG := Sp.hid hG
  have HL := Sp.hid hL
  have Hlt := Sp.hid hlt
  have Hlen := Sp.hid hL.1
  have Hb := Sp.hid (show Below w.heap.size w (w.alloc (.cells (Nf.rfCells eb db g.N) 71)) from (Below.refl _ w).alloc (Nat.le_refl _) _)
  have Hgb := Sp.hid (Nf.Below.heap_new w (.cells (Nf.rfCells eb db g.N) 71))
  unfold Nf.rfCells at Hb Hgb
  unfold Nf.rfVal
  clear hG hL hlt
  go_enter Tryz.func39, Tryz.ntmps39
  go_wp2_with fail
  obtain ⟨w1, hw1⟩ : ∃ w1, w.alloc (.cells #[.int .i64 0, .slice (some ⟨eb, 0, none⟩) g.N g.N, .slice (some ⟨db, 0, none⟩) g.N g.N] 71) = w1 := ⟨_, rfl⟩
  rw [hw1] at Hb Hgb ⊢
  clear hw1
  go_loopw [5] (fun i wr => ∃ k : Nat, i = .int .i64 k ∧ k ≤ n ∧ Below w1.heap.size w1 wr ∧ ∀ q, q ∈ L.take k → q ∉ g.ends) (fun i _ => n - (intOf i).toNat)
  case atStart => exact ⟨0, rfl, Nat.zero_le _, Below.refl _ _, by simp⟩
  case round =>
    obtain ⟨k, rfl, hk, hbel, hno⟩ := hrel
    have Hbel := Sp.hid hbel
    have Hno := Sp.hid hno
    clear hbel hno
    by_cases hkn : k < n
    · obtain ⟨b, off, p, rfl, cp0, hp?, htk⟩ := ((HL.out.below Hb.out).below Hbel.out).at hkn
      have hpN := Hlt.out p (List.mem_of_getElem? hp?)
      have Hpm := Sp.hid (Nf.take_mem htk)
      have HpL := Sp.hid (List.mem_of_getElem? hp?)
      have cp : wr.cell? ⟨b, off + k, none⟩ = some (.int .i64 p) := cp0
      have cG : wr.cell? ⟨w.heap.size, 2, none⟩ = some (.slice (some ⟨db, 0, none⟩) g.N g.N) := Nf.blk_cell (i := 2) (Nf.blk_below Hgb.out Hbel.out (Nf.blk_lt Hgb.out)) rfl
      have cE := ((HG.out.ends.below Hb.out).below Hbel.out).2 p hpN
      have i1 : (0 : Int) ≤ (k : Int) := by omega
      have i2 : (k : Int) < (n : Int) := by omega
      have i3 : (0 : Int) ≤ (p : Int) := by omega
      have i4 : (p : Int) < (g.N : Int) := by omega
      clear hp? htk cp0
      by_cases he : p ∈ g.ends
      · rw [Nf.bl_true he] at cE
        have hf := Sp.hid (show Nf.bl (∃ q, q ∈ L ∧ q ∈ g.ends) = true from Nf.bl_true ⟨p, HpL.out, he⟩)
        clear he
        go_wp2_with fail
        go_quiet (fail)
        go_wp2_with fail
        go_ret
        exact ⟨by rw [hf.out]; rfl, below_drewN (Hb.out.trans (Hbel.out.mono Hb.out.size)) _⟩
      · rw [Nf.bl_false he] at cE
        have He := Sp.hid he
        clear he
        go_wp2_with fail
        go_quiet (fail)
        go_wp2_with fail
        go_roundw
        case rel =>
          refine ⟨k + 1, by go_num, hkn, below_drewN Hbel.out _, fun q hq => ?_⟩
          rcases (Hpm.out q).1 hq with h | rfl
          · exact Hno.out q h
          · exact He.out
        case measure => simp [intOf]; omega
    · have hf := Sp.hid (show Nf.bl (∃ q, q ∈ L ∧ q ∈ g.ends) = false from Nf.bl_false (by
        rintro ⟨q, h1, h2⟩
        have e : L.take k = L := List.take_of_length_le (by rw [Hlen.out]; omega)
        exact Hno.out q (by rw [e]; exact h1) h2))
      go_wp2_with fail
      go_ret
      exact ⟨by rw [hf.out]; rfl, Hb.out.trans (Hbel.out.mono Hb.out.size)⟩

set_option maxHeartbeats 2000000 in
set_option maxRecDepth 100000 in
theorem run_any (w : World) (eb db : Nat) (R : Nat → List (ByteArray × Nat)) (g : Nf.Gr) (ao : Option Addr) (n cap : Nat) (W : List ByteArray) (hG : Nf.RfAt w eb db R g) (hW : Sp.Row w ao n W) (hs : ∀ s ∈ W, s.size ≠ 0) :
    Calls Tryz.prog 35 #[Nf.rfVal eb db g.N, .slice ao n cap] w (Nf.AscPost g.N (Nf.Lead g W (Nf.Beg g)) w) := by
  have hn := hW.le
  have Hlen := Sp.hid hW.1
  have Hs := Sp.hid hs
  have hb := (Below.refl w.heap.size w).alloc (Nat.le_refl _) (.cells (Nf.rfCells eb db g.N) 71)
  have hgb := Nf.Below.heap_new w (.cells (Nf.rfCells eb db g.N) 71)
  have HStart := Sp.hid (start_any _ eb db R g (hG.below hb))
  have HW := Sp.hid (hW.below hb)
  have HG := Sp.hid (hG.below hb)
  have Hb := Sp.hid hb
  have Hgb := Sp.hid hgb
  unfold Nf.rfCells at Hb Hgb HStart HW HG
  unfold Nf.rfVal at HStart
  unfold Nf.rfVal
  clear hG hW hs hb hgb
  have c0 : (w.alloc (.cells #[.int .i64 0, .slice (some ⟨eb, 0, none⟩) g.N g.N, .slice (some ⟨db, 0, none⟩) g.N g.N] 71)).heap[w.heap.size]? = _ := Hgb.out
  clear c0
  obtain ⟨w1, hw1⟩ : ∃ w1, w.alloc (.cells #[.int .i64 0, .slice (some ⟨eb, 0, none⟩) g.N g.N, .slice (some ⟨db, 0, none⟩) g.N g.N] 71) = w1 := ⟨_, rfl⟩
  rw [hw1] at Hb Hgb HStart HW HG
  have Hw1 := Sp.hid hw1
  clear hw1
  go_enter Tryz.func35, Tryz.ntmps35
  go_wp2_with fail
  rw [Hw1.out]
  refine HStart.out.mono ?_
  rintro e w2 ⟨v, L0, rfl, hown, hpl, hasc, hmem, hbel⟩
  have Hown := Sp.hid hown
  have Hpl := Sp.hid hpl
  have Hasc := Sp.hid hasc
  have Hmem := Sp.hid hmem
  have Hbel := Sp.hid hbel
  clear hown hpl hasc hmem hbel
  go_wp2_with fail
  go_loopw [5, 6] (fun l i wr => ∃ (k : Nat) (v : Value) (L : List Nat), i = .int .i64 k ∧ k ≤ n ∧ v = l ∧ wr.ownsRow w1.heap.size 3 1 v L.length (L.map Nf.num) ∧ Nf.Pool g.N L ∧ L.Pairwise (· < ·) ∧ (∀ q, q ∈ L ↔ Nf.Lead g (W.take k) (Nf.Beg g) q) ∧ Below w1.heap.size w1 wr) (fun _ i _ => n - (intOf i).toNat)
  case atStart => exact ⟨0, v, L0, rfl, Nat.zero_le _, rfl, Hown.out, Hpl.out, Hasc.out, Hmem.out, Hbel.out⟩
  case round =>
    clear Hown Hpl Hasc Hmem Hbel HStart
    obtain ⟨k, v, L, rfl, hk, rfl, hown, hpl, hasc, hmem, hbel⟩ := hrel
    have hN := HG.out.small
    have hLN := hpl.len
    have Hown := Sp.hid hown
    have Hpl := Sp.hid hpl
    have Hasc := Sp.hid hasc
    have Hmem := Sp.hid hmem
    have Hbel := Sp.hid hbel
    obtain ⟨lo, lcap, rfl, hseq, hlc⟩ := Nf.seq_of_own hown (by unfold maxLen; omega)
    have Hseq := Sp.hid hseq
    clear hown hpl hasc hmem hbel hseq
    by_cases hkn : k < n
    · by_cases hL : 0 < L.length
      · obtain ⟨b, off, s, rfl, cs, hsz, hs?, htk⟩ := (HW.out.below Hbel.out).at hkn
        unfold maxLen at hsz
        have hs0 := Hs.out s (List.mem_of_getElem? hs?)
        have hzz := Sp.not_empty_of_size hs0
        have Htk := Sp.hid htk
        have hgb2 := Nf.blk_below Hgb.out Hbel.out (Nf.blk_lt Hgb.out)
        have cA : wr.cell? ⟨w.heap.size, 0, none⟩ = some (.int .i64 0) := Nf.blk_cell (i := 0) hgb2 rfl
        have cB : wr.cell? ⟨w.heap.size, 1, none⟩ = some (.slice (some ⟨eb, 0, none⟩) g.N g.N) := Nf.blk_cell (i := 1) hgb2 rfl
        have cC : wr.cell? ⟨w.heap.size, 2, none⟩ = some (.slice (some ⟨db, 0, none⟩) g.N g.N) := Nf.blk_cell (i := 2) hgb2 rfl
        have HStep := Sp.hid (step_any wr.drew eb db R g lo L.length lcap L s ((HG.out.below Hbel.out).below ((Below.refl _ _).drew)) Hseq.out Hpl.out hsz)
        unfold Nf.rfVal at HStep
        have i1 : (0 : Int) ≤ (k : Int) := by omega
        have i2 : (k : Int) < (n : Int) := by omega
        have hL2 : (0 : Int) < (L.length : Int) := by omega
        clear hs? htk hgb2 hs0
        go_wp2_with fail
        go_still_tail 6, (by kernel_rfl)
        change wpList _ _ _ _ _ wr.drew
        go_wp2_with fail
        refine HStep.out.mono ?_
        rintro e w3 ⟨v3, L3, rfl, hown, hpl, hasc, hmem, hbel⟩
        have hz := Hbel.out.size
        have Hown3 := Sp.hid (Nf.own_base hown (show w1.heap.size ≤ wr.drew.heap.size from hz))
        have Hpl3 := Sp.hid hpl
        have Hasc3 := Sp.hid hasc
        have Hmem3 := Sp.hid hmem
        have Hbel3 := Sp.hid (show Below w1.heap.size w1 w3 from Hbel.out.drew.trans (hbel.mono hz))
        clear hown hpl hasc hmem hbel
        go_wp2_with fail
        go_roundw
        case rel =>
          refine ⟨k + 1, v3, L3, by go_num, hkn, rfl, Hown3.out, Hpl3.out, Hasc3.out, fun q => ?_, Hbel3.out⟩
          rw [Hmem3.out q, Htk.out, Nf.lead_snoc]
          have e : (fun x => x ∈ L) = Nf.Lead g (W.take k) (Nf.Beg g) := funext fun x => propext (Hmem.out x)
          rw [e]
        case measure => simp [intOf]; omega
      · have hL0 : L = [] := List.length_eq_zero_iff.1 (by omega)
        have HL0 := Sp.hid hL0
        have hL1 : ¬ (0 : Int) < (L.length : Int) := by omega
        clear hL0
        go_wp2_with fail
        go_ret
        refine ⟨_, L, rfl, Nf.own_base Hown.out Hb.out.size, Hpl.out, Hasc.out, fun q => ?_, Hb.out.trans (Hbel.out.mono Hb.out.size)⟩
        have e : Nf.Lead g (W.take k) (Nf.Beg g) = fun _ => False := funext fun x => propext ⟨fun h => by have := (Hmem.out x).2 h; rw [HL0.out] at this; simp at this, fun h => h.elim⟩
        have e2 : Nf.Lead g W (Nf.Beg g) = Nf.Lead g (W.drop k) (Nf.Lead g (W.take k) (Nf.Beg g)) := by rw [← Nf.lead_append, List.take_append_drop]
        rw [e2, e, HL0.out]
        exact ⟨fun h => by simp at h, fun h => absurd h (Nf.lead_none _ _)⟩
    · have e : W.take k = W := List.take_of_length_le (by rw [Hlen.out]; omega)
      have Hall := Sp.hid (show ∀ q, q ∈ L ↔ Nf.Lead g W (Nf.Beg g) q by have h := Hmem.out; rwa [e] at h)
      clear e
      go_wp2_with fail
      go_ret
      exact ⟨_, L, rfl, Nf.own_base Hown.out Hb.out.size, Hpl.out, Hasc.out, Hall.out, Hb.out.trans (Hbel.out.mono Hb.out.size)⟩
end Go.Proofs.YtpoblcmjfcpiaaaGreat

/-
  The walk of the reference's GraphOf.
-/
set_option linter.unusedVariables false
set_option linter.unusedSimpArgs false
namespace Go.Proofs.YtpoblcmjfcpiaaaGreat
open Go.RowKit
namespace Nf
theorem edgeInfo : (Tryz.prog.info? 102).map (fun i => (i.zero, i.size, i.bytes)) = some (some (.agg #[.string ⟨#[]⟩, .int .i64 0]), 2, 24) := by kernel_rfl
/-- The graph under way. -/
structure GofAt (w0 w : World) (nb rb gB eb db N : Nat) (nc : Array Value) (F : Nat → Bool) (V : Nat → Value) (R : Nat → List (ByteArray × Nat)) : Prop where
  rows : RowsAt enE 102 100 2 w w0.heap.size eb N V R
  nblk : w.heap[nb]? = some (.cells nc 26 (0, 0))
  rblk : w.heap[rb]? = some (.cells #[.int .i64 0, .slice none 0 0, .slice none 0 0] 71 (0, 0))
  gblk : w.heap[gB]? = some (.cells #[.int .i64 0, .slice (some ⟨eb, 0, none⟩) N N, .slice (some ⟨db, 0, none⟩) N N] 71 (0, 0))
  dblk : Vec Value.bool w db 4 N N F
  dbase : w0.heap.size ≤ db
  rbase : w0.heap.size ≤ rb
  below : Below w0.heap.size w0 w
section
variable {w0 w w1 : World} {nb rb gB eb db N : Nat} {nc : Array Value} {F : Nat → Bool} {V : Nat → Value} {R : Nat → List (ByteArray × Nat)}
theorem GofAt.alloc (h : GofAt w0 w nb rb gB eb db N nc F V R) (o : Obj) : GofAt w0 (w.alloc o) nb rb gB eb db N nc F V R :=
  ⟨h.rows.alloc o, blk_alloc h.nblk o, blk_alloc h.rblk o, blk_alloc h.gblk o, Vec.alloc_ h.dblk o, h.dbase, h.rbase, h.below.alloc h.below.size o⟩
theorem GofAt.drew (h : GofAt w0 w nb rb gB eb db N nc F V R) : GofAt w0 w.drew nb rb gB eb db N nc F V R :=
  ⟨⟨h.rows.tab, h.rows.tbb, h.rows.row, h.rows.apart⟩, h.nblk, h.rblk, h.gblk, h.dblk, h.dbase, h.rbase, h.below.drew⟩
theorem GofAt.push (h : GofAt w0 w nb rb gB eb db N nc F V R) {i : Nat} (hi : i < N) {v' : Value} {x : ByteArray × Nat} (hg : w.grownBy w1 (V i).ownBlock)
    (hown : w1.ownsRow w0.heap.size 102 2 v' ((R i).length + 1) ((R i).flatMap enE ++ enE x)) (hat : (V i).ownBlock = v'.ownBlock ∨ ∃ g, v'.ownBlock = some g ∧ w.heap.size ≤ g) :
    GofAt w0 (w1.setCell ⟨eb, i, none⟩ v') nb rb gB eb db N nc F (up1 V i v') (up1 R i (R i ++ [x])) := by
  have hr := h.rows.row i hi
  obtain ⟨tc, htc⟩ := Vec.blk h.rows.tab
  obtain ⟨dc, hdc⟩ := Vec.blk h.dblk
  have htc1 := blk_grown htc hg (own_vec_ne hr h.rows.tab (by decide))
  have hn1 := blk_grown h.nblk hg (own_ne hr h.nblk (by decide))
  have hr1 := blk_grown h.rblk hg (own_ne hr h.rblk (by decide))
  have hg1 := blk_grown h.gblk hg (own_ne hr h.gblk (by decide))
  have hd1 := blk_grown hdc hg (own_ne hr hdc (by decide))
  refine ⟨h.rows.push (by decide) hi hg hown hat, blk_far hn1 (a := ⟨eb, i, none⟩) (fun e => blk_ne hn1 htc1 (by decide) e) _, blk_far hr1 (a := ⟨eb, i, none⟩) (fun e => blk_ne hr1 htc1 (by decide) e) _, blk_far hg1 (a := ⟨eb, i, none⟩) (fun e => blk_ne hg1 htc1 (by decide) e) _, ?_, h.dbase, h.rbase, ?_⟩
  · exact Vec.far (h.dblk.grown hg (fun e => own_ne hr hdc (by decide) e.symm)) (a := ⟨eb, i, none⟩) (fun e => blk_ne hd1 htc1 (by decide) e) _
  · exact (h.below.grown hg h.below.size (fun k hk => (hr.lt k hk).1)).setCell (p := ⟨eb, i, none⟩) h.rows.tbb _
theorem GofAt.mark (h : GofAt w0 w nb rb gB eb db N nc F V R) (i : Nat) : GofAt w0 (w.setCell ⟨db, i, none⟩ (.bool true)) nb rb gB eb db N nc (fun j => if j = i then true else F j) V R := by
  obtain ⟨dc, hdc⟩ := Vec.blk h.dblk
  exact ⟨h.rows.far (a := ⟨db, i, none⟩) hdc (by decide) (by decide) _, blk_far h.nblk (a := ⟨db, i, none⟩) (fun e => blk_ne h.nblk hdc (by decide) e) _, blk_far h.rblk (a := ⟨db, i, none⟩) (fun e => blk_ne h.rblk hdc (by decide) e) _, blk_far h.gblk (a := ⟨db, i, none⟩) (fun e => blk_ne h.gblk hdc (by decide) e) _, h.dblk.set (i := i) true, h.dbase, h.rbase, h.below.setCell (p := ⟨db, i, none⟩) h.dbase _⟩
theorem GofAt.res (h : GofAt w0 w nb rb gB eb db N nc F V R) (a b c : Value) :
    RowsAt enE 102 100 2 (((w.setCell ⟨rb, 0, none⟩ a).setCell ⟨rb, 1, none⟩ b).setCell ⟨rb, 2, none⟩ c) w0.heap.size eb N V R ∧ Vec Value.bool (((w.setCell ⟨rb, 0, none⟩ a).setCell ⟨rb, 1, none⟩ b).setCell ⟨rb, 2, none⟩ c) db 4 N N F ∧
    (((w.setCell ⟨rb, 0, none⟩ a).setCell ⟨rb, 1, none⟩ b).setCell ⟨rb, 2, none⟩ c).heap[rb]? = some (.cells #[a, b, c] 71 (0, 0)) ∧ Below w0.heap.size w0 (((w.setCell ⟨rb, 0, none⟩ a).setCell ⟨rb, 1, none⟩ b).setCell ⟨rb, 2, none⟩ c) := by
  have b1 := blk_set (i := 0) h.rblk a
  have b2 := blk_set (i := 1) b1 b
  have b3 := blk_set (i := 2) b2 c
  have r3 := ((h.rows.far (a := ⟨rb, 0, none⟩) h.rblk (by decide) (by decide) a).far (a := ⟨rb, 1, none⟩) b1 (by decide) (by decide) b).far (a := ⟨rb, 2, none⟩) b2 (by decide) (by decide) c
  obtain ⟨dc, hdc⟩ := Vec.blk h.dblk
  have hne : db ≠ rb := blk_ne hdc h.rblk (by decide)
  exact ⟨r3, Vec.far (Vec.far (Vec.far h.dblk (a := ⟨rb, 0, none⟩) hne a) (a := ⟨rb, 1, none⟩) hne b) (a := ⟨rb, 2, none⟩) hne c, b3, ((h.below.setCell (p := ⟨rb, 0, none⟩) h.rbase a).setCell (p := ⟨rb, 1, none⟩) h.rbase b).setCell (p := ⟨rb, 2, none⟩) h.rbase c⟩
end
/-- What arcs put into the rows. -/
def RelE (arcs : List ArcV) (R : Nat → List (ByteArray × Nat)) : Prop := ∀ p x, x ∈ R p ↔ ∃ a, a ∈ arcs ∧ a.f = (p : Int) ∧ x = (a.i, a.t.toNat)
theorem relE_nil : RelE [] (fun _ => []) := fun p x => by simp
theorem relE_push {arcs : List ArcV} {R : Nat → List (ByteArray × Nat)} {a : ArcV} {p q : Nat} (h : RelE arcs R) (hf : a.f = (p : Int)) (ht : a.t = (q : Int)) : RelE (arcs ++ [a]) (up1 R p (R p ++ [(a.i, q)])) := by
  have hq : a.t.toNat = q := by omega
  intro i x
  by_cases e : i = p
  · subst e
    rw [up1_same, List.mem_append, h i x]
    constructor
    · rintro (⟨b, hb, h1, h2⟩ | hx)
      · exact ⟨b, by simp [hb], h1, h2⟩
      · simp at hx; exact ⟨a, by simp, hf, by rw [hx, hq]⟩
    · rintro ⟨b, hb, h1, h2⟩
      rcases List.mem_append.1 hb with hb | hb
      · exact .inl ⟨b, hb, h1, h2⟩
      · simp at hb; subst hb; right; rw [h2, hq]; simp
  · rw [up1_ne _ _ e, h i x]
    constructor
    · rintro ⟨b, hb, h1, h2⟩; exact ⟨b, by simp [hb], h1, h2⟩
    · rintro ⟨b, hb, h1, h2⟩
      rcases List.mem_append.1 hb with hb | hb
      · exact ⟨b, hb, h1, h2⟩
      · simp at hb; subst hb; omega
theorem up1_len {n i : Nat} {α : Type} {R : Nat → List α} {x : α} (hs : ∀ i, (R i).length ≤ n) : ∀ j, (up1 R i (R i ++ [x]) j).length ≤ n + 1 := by
  intro j
  unfold up1
  split
  · have := hs i; simp; omega
  · have := hs j; omega
/-- What hands a graph back. -/
def GofPost (g : Gr) (w : World) (e : Ending) (w' : World) : Prop := ∃ eb db R, e = .returned (rfVal eb db g.N) ∧ RfAt w' eb db R g ∧ Below w.heap.size w w'
theorem rfAt_of {w0 wr : World} {so : Option Addr} {sn : Nat} {sig : List ByteArray} {N : Nat} {ao : Option Addr} {an : Nat} {arcs : List ArcV} {eo : Option Addr} {en : Nat} {ends : List EndV} (hp : IndexPre w0 so sn sig N ao an arcs eo en ends)
    {eb db : Nat} {F : Nat → Bool} {V : Nat → Value} {R : Nat → List (ByteArray × Nat)} (hIr : RowsAt enE 102 100 2 wr w0.heap.size eb N V R) (hId : Vec Value.bool wr db 4 N N F) (hR : RelE arcs R) (hF : ∀ q : Nat, F q = true ↔ ∃ d, d ∈ ends ∧ d.s = (q : Int)) (hs : ∀ i, (R i).length ≤ 1000000) :
    RfAt wr eb db R (grOf sig N arcs ends) := by
  have hne : ∀ s ∈ sig, s ≠ eps := fun s hs e => by have h1 := hp.hfull s hs; rw [e] at h1; exact absurd h1 (by decide)
  refine ⟨⟨by show 0 < N; have := hp.hpos; omega, ?_, ?_, ?_, ?_, (Sp.isSet_iff sig).2 hp.hasc, hne⟩, hp.hN, hIr.tabC enE_len hs, ?_, ?_, ?_⟩
  · intro a ha
    obtain ⟨b, hb, rfl⟩ := List.mem_map.1 ha
    have := hp.hf b hb; show b.f.toNat < N; omega
  · intro a ha
    obtain ⟨b, hb, rfl⟩ := List.mem_map.1 ha
    have := hp.ht b hb; show b.t.toNat < N; omega
  · intro a ha
    obtain ⟨b, hb, rfl⟩ := List.mem_map.1 ha
    rcases hp.hsy b hb with h | h
    · exact .inl (size_eps.1 h)
    · exact .inr h
  · intro q hq
    obtain ⟨b, hb, rfl⟩ := List.mem_map.1 hq
    have := hp.hd b hb; show b.s.toNat < N; omega
  · refine BoolsT.of hId fun q hq => ?_
    rw [hId.cell hq]
    congr 2
    have h1 : q ∈ (grOf sig N arcs ends).ends ↔ F q = true := by
      rw [hF]
      show q ∈ ends.map _ ↔ _
      rw [List.mem_map]
      constructor
      · rintro ⟨d, hd, he⟩; have := (hp.hd d hd).1; exact ⟨d, hd, by omega⟩
      · rintro ⟨d, hd, he⟩; exact ⟨d, hd, by omega⟩
    cases hb : F q with
    | true => exact (bl_true (h1.2 hb)).symm
    | false => exact (bl_false (fun h => by rw [h1.1 h] at hb; cases hb)).symm
  · intro p s q
    rw [hR p (s, q)]
    show _ ↔ (p, s, q) ∈ arcs.map _
    rw [List.mem_map]
    simp only [Prod.mk.injEq]
    constructor
    · rintro ⟨a, ha, h1, h2, h3⟩; exact ⟨a, ha, by omega, h2.symm, h3.symm⟩
    · rintro ⟨a, ha, h1, h2, h3⟩; have := hp.hf a ha; exact ⟨a, ha, by omega, h2.symm, h3.symm⟩
  · intro p x hx
    obtain ⟨a, ha, _, rfl⟩ := (hR p x).1 hx
    have := (hp.ha.2.2.2 a ha).1
    unfold maxLen at this
    exact this
end Nf

set_option maxHeartbeats 8000000 in
set_option maxRecDepth 100000 in
theorem graphOf_any (w : World) (so : Option Addr) (sn scap : Nat) (sig : List ByteArray) (N : Nat) (ao : Option Addr) (an acap : Nat) (arcs : List ArcV) (eo : Option Addr) (en ecap : Nat) (ends : List EndV) (hpre : Nf.IndexPre w so sn sig N ao an arcs eo en ends) :
    Calls Tryz.prog 33 #[.agg #[.slice so sn scap, .int .i64 N, .slice ao an acap, .slice eo en ecap]] w (Nf.GofPost (Nf.grOf sig N arcs ends) w) := by
  obtain ⟨i0, hi, hiz0, hiz1, hiz2⟩ := info_parts Nf.edgeInfo
  have Hpre := Sp.hid hpre
  have hN := hpre.hN
  have han := hpre.han
  have hen := hpre.hen
  have Ha := Sp.hid hpre.ha
  have He := Sp.hid hpre.he
  have Hlen := Sp.hid hpre.ha.1
  have HlenE := Sp.hid hpre.he.1
  clear hpre
  obtain ⟨nc, hnc⟩ : ∃ nc : Array Value, #[.slice so sn scap, .int .i64 N, .slice ao an acap, .slice eo en ecap] = nc := ⟨_, rfl⟩
  have Hnc := Sp.hid hnc
  clear hnc
  obtain ⟨w1, hw1⟩ : ∃ w1, (w.alloc (.cells #[.slice so sn scap, .int .i64 N, .slice ao an acap, .slice eo en ecap] 26)).alloc (.cells #[.int .i64 0, .slice none 0 0, .slice none 0 0] 71) = w1 := ⟨_, rfl⟩
  have hnb : w1.heap[w.heap.size]? = some (.cells #[.slice so sn scap, .int .i64 N, .slice ao an acap, .slice eo en ecap] 26 (0, 0)) := by rw [← hw1]; exact Nf.blk_alloc (Nf.Below.heap_new _ _) _
  have hrb : w1.heap[w.heap.size + 1]? = some (.cells #[.int .i64 0, .slice none 0 0, .slice none 0 0] 71 (0, 0)) := by rw [← hw1]; have := Nf.Below.heap_new (w.alloc (.cells #[.slice so sn scap, .int .i64 N, .slice ao an acap, .slice eo en ecap] 26)) (.cells #[.int .i64 0, .slice none 0 0, .slice none 0 0] 71); simpa using this
  have hbw : Below w.heap.size w w1 := by rw [← hw1]; exact ((Below.refl _ w).alloc (Nat.le_refl _) _).alloc (by simp) _
  have c1 : w1.cell? ⟨w.heap.size, 1, none⟩ = some (.int .i64 N) := Nf.blk_cell (i := 1) hnb rfl
  have Hw1 := Sp.hid hw1
  have Hnb := Sp.hid hnb
  have Hrb := Sp.hid hrb
  have Hbw := Sp.hid hbw
  have HNG := Sp.hid (newGraph_any w1 N hN)
  clear hw1 hnb hrb hbw
  go_enter Tryz.func33, Tryz.ntmps33
  go_wp2_with fail
  rw [Hw1.out]
  go_wp2_with fail
  refine HNG.out.mono ?_
  rintro e w2 ⟨eb, db, rfl, h1, h2, h3, h4, h5, h6⟩
  have hz6 := h6.size
  have hbz := Hbw.out.size
  have hI0 : Nf.GofAt w (w2.alloc (.cells #[.int .i64 0, .slice (some ⟨eb, 0, none⟩) N N, .slice (some ⟨db, 0, none⟩) N N] 71)) w.heap.size (w.heap.size + 1) w2.heap.size eb db N nc (fun _ => false) (fun _ => .slice none 0 0) (fun _ => []) := by
    refine ⟨Nf.RowsAt.made (by omega) (by omega) (Nf.blk_alloc h4 _), ?_, ?_, Nf.Below.heap_new w2 _, ?_, by omega, by omega, (Hbw.out.trans (h6.mono hbz)).alloc (by omega) _⟩
    · rw [← Hnc.out]; exact Nf.blk_alloc (Nf.blk_below Hnb.out h6 (Nf.blk_lt Hnb.out)) _
    · exact Nf.blk_alloc (Nf.blk_below Hrb.out h6 (Nf.blk_lt Hrb.out)) _
    · exact Nf.vec_made_bool (Nf.blk_alloc h5 _) (by omega)
  have HI0 := Sp.hid hI0
  unfold Nf.rfVal
  have Hne := Sp.hid h3
  clear h1 h2 h3 h4 h5 h6 hI0 hz6 hbz c1
  go_wp2_with fail
  obtain ⟨w3, hw3⟩ : ∃ w3, w2.alloc (.cells #[.int .i64 0, .slice (some ⟨eb, 0, none⟩) N N, .slice (some ⟨db, 0, none⟩) N N] 71) = w3 := ⟨_, rfl⟩
  rw [hw3] at HI0 ⊢
  obtain ⟨gB, hgB⟩ : ∃ gB, w2.heap.size = gB := ⟨_, rfl⟩
  rw [hgB] at HI0 ⊢
  obtain ⟨rb, hrb⟩ : ∃ rb, w.heap.size + 1 = rb := ⟨_, rfl⟩
  rw [hrb] at HI0 ⊢
  clear hw3 hgB hrb Hrb Hnb Hbw HNG Hw1
  go_loopw [4, 5] (fun i _ wr => ∃ (k : Nat) (V : Nat → Value) (R : Nat → List (ByteArray × Nat)), i = .int .i64 k ∧ k ≤ an ∧ Nf.GofAt w wr w.heap.size rb gB eb db N nc (fun _ => false) V R ∧ Nf.RelE (arcs.take k) R ∧ ∀ i, (R i).length ≤ k) (fun i _ _ => an - (intOf i).toNat)
  case atStart => exact ⟨0, _, _, rfl, Nat.zero_le _, HI0.out, Nf.relE_nil, fun i => by simp⟩
  case round =>
    clear HI0
    obtain ⟨k, V, R, rfl, hk, hI, hR, hsz⟩ := hrel
    have HI := Sp.hid hI
    have HR := Sp.hid hR
    have Hsz := Sp.hid hsz
    have hnb := hI.nblk
    rw [← Hnc.out] at hnb
    have d2 : wr.cell? ⟨w.heap.size, 2, none⟩ = some (.slice ao an acap) := Nf.blk_cell (i := 2) hnb rfl
    have d3 : wr.cell? ⟨w.heap.size, 3, none⟩ = some (.slice eo en ecap) := Nf.blk_cell (i := 3) hnb rfl
    clear hI hR hsz hnb
    by_cases hkn : k < an
    · obtain ⟨b, off, x, rfl, ⟨c0, c1, c2, c3, c4⟩, hi1, ho1, hx, htk⟩ := (Ha.out.below HI.out.below).at hkn
      have hxm := List.mem_of_getElem? hx
      have Htk := Sp.hid htk
      obtain ⟨⟨hf0, hf1⟩, ht0, ht1⟩ := And.intro (Hpre.out.hf x hxm) (Hpre.out.ht x hxm)
      obtain ⟨xf, xi, xo, xt, xc⟩ := x
      simp only at c0 c1 c2 c3 c4 hi1 ho1 hf0 hf1 ht0 ht1
      obtain ⟨p, rfl⟩ := Int.eq_ofNat_of_zero_le hf0
      obtain ⟨q, rfl⟩ := Int.eq_ofNat_of_zero_le ht0
      have i1 : (0 : Int) ≤ (k : Int) := by omega
      have i2 : (k : Int) < (an : Int) := by omega
      have hHI := HI.out.alloc (.cells #[.int .i64 p, .string xi, .string xo, .int .i64 q, .int .i64 xc] 51)
      obtain ⟨wq, hwq⟩ : ∃ wq, wr.alloc (.cells #[.int .i64 p, .string xi, .string xo, .int .i64 q, .int .i64 xc] 51) = wq := ⟨_, rfl⟩
      have hab : wq.heap[wr.heap.size]? = some (.cells #[.int .i64 p, .string xi, .string xo, .int .i64 q, .int .i64 xc] 51 (0, 0)) := by rw [← hwq]; exact Nf.Below.heap_new _ _
      rw [hwq] at hHI
      have HI1 := Sp.hid hHI
      have Hwq := Sp.hid hwq
      obtain ⟨ab, hab2⟩ : ∃ ab, wr.heap.size = ab := ⟨_, rfl⟩
      have Hab2 := Sp.hid hab2
      rw [hab2] at hab
      have Hab := Sp.hid hab
      clear hx htk hxm hHI hwq hab hab2 d3
      go_wp2_with fail
      rw [Hwq.out, Hab2.out]
      clear d2 c0 c1 c2 c3 c4
      have hHH := HI1.out.below.size
      have hszp := Hsz.out p
      have k1 : wq.cell? ⟨gB, 1, none⟩ = some (.slice (some ⟨eb, 0, none⟩) N N) := Nf.blk_cell (i := 1) HI1.out.gblk rfl
      have l1 : gB < wq.heap.size := Nf.blk_lt HI1.out.gblk
      have o1 : (V p).ownBlock ≠ some gB := Nf.own_ne (HI1.out.rows.row p (by omega)) HI1.out.gblk (by decide)
      have k2 : wq.cell? ⟨ab, 0, none⟩ = some (.int .i64 p) := Nf.blk_cell (i := 0) Hab.out rfl
      have l2 : ab < wq.heap.size := Nf.blk_lt Hab.out
      have o2 : (V p).ownBlock ≠ some ab := Nf.own_ne (HI1.out.rows.row p (by omega)) Hab.out (by decide)
      have k3 : wq.cell? ⟨ab, 1, none⟩ = some (.string xi) := Nf.blk_cell (i := 1) Hab.out rfl
      have l3 : ab < wq.heap.size := Nf.blk_lt Hab.out
      have o3 : (V p).ownBlock ≠ some ab := Nf.own_ne (HI1.out.rows.row p (by omega)) Hab.out (by decide)
      have k4 : wq.cell? ⟨ab, 3, none⟩ = some (.int .i64 q) := Nf.blk_cell (i := 3) Hab.out rfl
      have l4 : ab < wq.heap.size := Nf.blk_lt Hab.out
      have o4 : (V p).ownBlock ≠ some ab := Nf.own_ne (HI1.out.rows.row p (by omega)) Hab.out (by decide)
      have k5 : wq.cell? ⟨eb, p, none⟩ = some (V p) := HI1.out.rows.tab.cell (by omega)
      have l5 : eb < wq.heap.size := HI1.out.rows.tab.lt
      have o5 : (V p).ownBlock ≠ some eb := Nf.own_vec_ne (HI1.out.rows.row p (by omega)) HI1.out.rows.tab (by decide)
      have hrow := (HI1.out.rows).row p (by omega)
      have f4 := (HI1.out.rows).tab.free p
      have hrow2 : ((wq.alloc (.cells #[.string xi, .int .i64 q] 102)).drew).ownsRow w.heap.size 102 2 (V p) (R p).length ((R p).flatMap Nf.enE) := hrow.alloc _
      have Hrow2 := Sp.hid hrow2
      clear hrow2 hrow
      refine Open.begin (S := fun w' => w'.cell? ⟨gB, 1, none⟩ = some (.slice (some ⟨eb, 0, none⟩) N N) ∧ w'.cell? ⟨ab, 0, none⟩ = some (.int .i64 p) ∧ w'.cell? ⟨ab, 1, none⟩ = some (.string xi) ∧ w'.cell? ⟨ab, 3, none⟩ = some (.int .i64 q) ∧ w'.cell? ⟨eb, p, none⟩ = some (V p)) (z := 18) (by kernel_rfl) ?_
      have HS : wq.drew.cell? ⟨gB, 1, none⟩ = some (.slice (some ⟨eb, 0, none⟩) N N) ∧ wq.drew.cell? ⟨ab, 0, none⟩ = some (.int .i64 p) ∧ wq.drew.cell? ⟨ab, 1, none⟩ = some (.string xi) ∧ wq.drew.cell? ⟨ab, 3, none⟩ = some (.int .i64 q) ∧ wq.drew.cell? ⟨eb, p, none⟩ = some (V p) := ⟨k1, k2, k3, k4, k5⟩
      refine Open.take (i := 0) (v := ?_) rfl (by kernel_rfl) (by kernel_rfl) (by kernel_rfl) (by kernel_rfl) (fun _ _ _ h => h) HS (Or.inl ⟨rfl, ?_⟩) ?_
      rotate_left
      · rintro w' ⟨k1, k2, k3, k4, k5⟩
        go_simp
        try rfl
      simp only [Act.put, List.setIfInBounds_toArray, List.set_cons_zero, List.set_cons_succ]
      refine Open.take (i := 1) (v := ?_) rfl (by kernel_rfl) (by kernel_rfl) (by kernel_rfl) (by kernel_rfl) (fun _ _ _ h => h) HS (Or.inl ⟨rfl, ?_⟩) ?_
      rotate_left
      · rintro w' ⟨k1, k2, k3, k4, k5⟩
        go_simp
        try rfl
      simp only [Act.put, List.setIfInBounds_toArray, List.set_cons_zero, List.set_cons_succ]
      refine Open.take (i := 2) (v := ?_) rfl (by kernel_rfl) (by kernel_rfl) (by kernel_rfl) (by kernel_rfl) (fun _ _ _ h => h) HS (Or.inl ⟨rfl, ?_⟩) ?_
      rotate_left
      · rintro w' ⟨k1, k2, k3, k4, k5⟩
        go_simp
        try rfl
      simp only [Act.put, List.setIfInBounds_toArray, List.set_cons_zero, List.set_cons_succ]
      refine Open.take (i := 3) (v := ?_) rfl (by kernel_rfl) (by kernel_rfl) (by kernel_rfl) (by kernel_rfl) (fun _ _ _ h => h) HS (Or.inl ⟨rfl, ?_⟩) ?_
      rotate_left
      · rintro w' ⟨k1, k2, k3, k4, k5⟩
        go_simp
        try rfl
      simp only [Act.put, List.setIfInBounds_toArray, List.set_cons_zero, List.set_cons_succ]
      refine Open.take (i := 4) (v := ?_) rfl (by kernel_rfl) (by kernel_rfl) (by kernel_rfl) (by kernel_rfl) (fun _ _ _ h => h) HS (Or.inl ⟨rfl, ?_⟩) ?_
      rotate_left
      · rintro w' ⟨k1, k2, k3, k4, k5⟩
        go_simp
        try rfl
      simp only [Act.put, List.setIfInBounds_toArray, List.set_cons_zero, List.set_cons_succ]
      refine Open.take (i := 5) (v := ?_) rfl (by kernel_rfl) (by kernel_rfl) (by kernel_rfl) (by kernel_rfl) (fun _ _ _ h => h) HS (Or.inl ⟨rfl, ?_⟩) ?_
      rotate_left
      · rintro w' ⟨k1, k2, k3, k4, k5⟩
        go_simp
        try rfl
      simp only [Act.put, List.setIfInBounds_toArray, List.set_cons_zero, List.set_cons_succ]
      refine Open.take (i := 6) (v := ?_) rfl (by kernel_rfl) (by kernel_rfl) (by kernel_rfl) (by kernel_rfl) (fun _ _ _ h => h) HS (Or.inl ⟨rfl, ?_⟩) ?_
      rotate_left
      · rintro w' ⟨k1, k2, k3, k4, k5⟩
        go_simp
        try rfl
      simp only [Act.put, List.setIfInBounds_toArray, List.set_cons_zero, List.set_cons_succ]
      refine Open.take (i := 7) (v := ?_) rfl (by kernel_rfl) (by kernel_rfl) (by kernel_rfl) (by kernel_rfl) (fun _ _ _ h => h) HS (Or.inl ⟨rfl, ?_⟩) ?_
      rotate_left
      · rintro w' ⟨k1, k2, k3, k4, k5⟩
        go_simp
        try rfl
      simp only [Act.put, List.setIfInBounds_toArray, List.set_cons_zero, List.set_cons_succ]
      refine Open.take (i := 8) (v := ?_) rfl (by kernel_rfl) (by kernel_rfl) (by kernel_rfl) (by kernel_rfl) (fun _ _ _ h => h) HS (Or.inl ⟨rfl, ?_⟩) ?_
      rotate_left
      · rintro w' ⟨k1, k2, k3, k4, k5⟩
        go_simp
        try rfl
      simp only [Act.put, List.setIfInBounds_toArray, List.set_cons_zero, List.set_cons_succ]
      refine Open.take (i := 9) (v := ?_) rfl (by kernel_rfl) (by kernel_rfl) (by kernel_rfl) (by kernel_rfl) (fun _ _ _ h => h) HS (Or.inl ⟨rfl, ?_⟩) ?_
      rotate_left
      · rintro w' ⟨k1, k2, k3, k4, k5⟩
        go_simp
        try rfl
      simp only [Act.put, List.setIfInBounds_toArray, List.set_cons_zero, List.set_cons_succ]
      refine Open.take (i := 10) (v := ?_) rfl (by kernel_rfl) (by kernel_rfl) (by kernel_rfl) (by kernel_rfl) (fun _ _ _ h => h) HS (Or.inl ⟨rfl, ?_⟩) ?_
      rotate_left
      · rintro w' ⟨k1, k2, k3, k4, k5⟩
        go_simp
        try rfl
      simp only [Act.put, List.setIfInBounds_toArray, List.set_cons_zero, List.set_cons_succ]
      refine Open.take (i := 11) (v := ?_) rfl (by kernel_rfl) (by kernel_rfl) (by kernel_rfl) (by kernel_rfl) (fun _ _ _ h => h) HS (Or.inl ⟨rfl, ?_⟩) ?_
      rotate_left
      · rintro w' ⟨k1, k2, k3, k4, k5⟩
        go_simp
        try rfl
      simp only [Act.put, List.setIfInBounds_toArray, List.set_cons_zero, List.set_cons_succ]
      refine Open.take (i := 12) (v := ?_) rfl (by kernel_rfl) (by kernel_rfl) (by kernel_rfl) (by kernel_rfl) (fun _ _ _ h => h) HS (Or.inl ⟨rfl, ?_⟩) ?_
      rotate_left
      · rintro w' ⟨k1, k2, k3, k4, k5⟩
        go_simp
        try rfl
      simp only [Act.put, List.setIfInBounds_toArray, List.set_cons_zero, List.set_cons_succ]
      refine Open.take (i := 13) (v := ?_) rfl (by kernel_rfl) (by kernel_rfl) (by kernel_rfl) (by kernel_rfl) (fun _ _ _ h => h) HS (Or.inl ⟨rfl, ?_⟩) ?_
      rotate_left
      · rintro w' ⟨k1, k2, k3, k4, k5⟩
        go_simp
        try rfl
      simp only [Act.put, List.setIfInBounds_toArray, List.set_cons_zero, List.set_cons_succ]
      refine Open.take (i := 14) (v := ?_) rfl (by kernel_rfl) (by kernel_rfl) (by kernel_rfl) (by kernel_rfl) (fun _ _ _ h => h) HS (Or.inl ⟨rfl, ?_⟩) ?_
      rotate_left
      · rintro w' ⟨k1, k2, k3, k4, k5⟩
        go_simp
        try rfl
      simp only [Act.put, List.setIfInBounds_toArray, List.set_cons_zero, List.set_cons_succ]
      refine Open.one (i := 15) rfl (by kernel_rfl) rfl (fun K hK => ?_)
      go_simp
      refine hK _ _ ⟨fun _ => ⟨?_, ?_, ?_, ?_, ?_⟩, ?_⟩
      · simpa [World.cell?_alloc_past _ _ _ l1] using k1
      · simpa [World.cell?_alloc_past _ _ _ l2] using k2
      · simpa [World.cell?_alloc_past _ _ _ l3] using k3
      · simpa [World.cell?_alloc_past _ _ _ l4] using k4
      · simpa [World.cell?_alloc_past _ _ _ l5] using k5
      clear hK K
      refine Open.one (i := 16) rfl (by kernel_rfl) rfl (fun K hK => ?_)
      refine wp_append_lies _ _ _ 100 (by rfl) w.heap.size 102 i0 _ 2 24 Tryz.underlying100 hi hiz0 hiz1 hiz2 rfl (by decide) (V p) _ _ (by rfl) Hrow2.out ⟨wq.heap.size, 0, none⟩ 1 1 [.string xi, .int .i64 q] (by rfl) rfl (World.news_of_block (cs := #[.string xi, .int .i64 q]) (t := 102) (fr := (0, 0)) (heap_alloc_new wq _)) (by simp [Value.oneCell']) (by omega) ?_ ?_ ?_ (wq.heap.size + 1) (by simp) ?_
      · unfold maxLen; omega
      · omega
      · simp; omega
      intro g cap w4 hown3 hgrow3 hat3 hlt3
      have hl1 : gB < ((wq.alloc (.cells #[.string xi, .int .i64 q] 102)).drew).heap.size := by simp; omega
      have m1 : w4.cell? ⟨gB, 1, none⟩ = some (.slice (some ⟨eb, 0, none⟩) N N) := by rw [hgrow3.cell_far ⟨gB, 1, none⟩ hl1 (Ne.symm o1)]; simpa [World.cell?_alloc_past _ _ _ l1] using k1
      have hl2 : ab < ((wq.alloc (.cells #[.string xi, .int .i64 q] 102)).drew).heap.size := by simp; omega
      have m2 : w4.cell? ⟨ab, 0, none⟩ = some (.int .i64 p) := by rw [hgrow3.cell_far ⟨ab, 0, none⟩ hl2 (Ne.symm o2)]; simpa [World.cell?_alloc_past _ _ _ l2] using k2
      have hl3 : ab < ((wq.alloc (.cells #[.string xi, .int .i64 q] 102)).drew).heap.size := by simp; omega
      have m3 : w4.cell? ⟨ab, 1, none⟩ = some (.string xi) := by rw [hgrow3.cell_far ⟨ab, 1, none⟩ hl3 (Ne.symm o3)]; simpa [World.cell?_alloc_past _ _ _ l3] using k3
      have hl4 : ab < ((wq.alloc (.cells #[.string xi, .int .i64 q] 102)).drew).heap.size := by simp; omega
      have m4 : w4.cell? ⟨ab, 3, none⟩ = some (.int .i64 q) := by rw [hgrow3.cell_far ⟨ab, 3, none⟩ hl4 (Ne.symm o4)]; simpa [World.cell?_alloc_past _ _ _ l4] using k4
      have hl5 : eb < ((wq.alloc (.cells #[.string xi, .int .i64 q] 102)).drew).heap.size := by simp; omega
      have m5 : w4.cell? ⟨eb, p, none⟩ = some (V p) := by rw [hgrow3.cell_far ⟨eb, p, none⟩ hl5 (Ne.symm o5)]; simpa [World.cell?_alloc_past _ _ _ l5] using k5
      have mf : w4.frozen? ⟨eb, p, none⟩ = false := by rw [hgrow3.frozen_far ⟨eb, p, none⟩ hl5 (Ne.symm o5)]; simpa [World.frozen?_alloc_past _ _ _ l5] using f4
      have hgr : wq.grownBy w4 (V p).ownBlock := World.grownBy.trans (World.grownBy_alloc wq (.cells #[.string xi, .int .i64 q] 102) _) ⟨hgrow3.os, hgrow3.tape, hgrow3.output, hgrow3.size, hgrow3.block⟩
      have hat4 : (V p).ownBlock = (Value.slice (some ⟨g, 0, none⟩) ((R p).length + 1) cap).ownBlock ∨ ∃ g', (Value.slice (some ⟨g, 0, none⟩) ((R p).length + 1) cap).ownBlock = some g' ∧ wq.heap.size ≤ g' := by
        rcases hat3 with h3 | h3
        · exact .inl h3
        · exact .inr ⟨g, rfl, by omega⟩
      have Hown3 := Sp.hid hown3
      have Hgr := Sp.hid hgr
      have Hat4 := Sp.hid hat4
      refine hK _ _ ⟨fun _ => ⟨m1, m2, m3, m4, m5⟩, ?_⟩
      clear hK K HS hown3 hgrow3 hat3 hlt3 hgr hat4 Hrow2 f4 hl1 hl2 hl3 hl4 hl5 k1 k2 k3 k4 k5
      have HS : w4.cell? ⟨gB, 1, none⟩ = some (.slice (some ⟨eb, 0, none⟩) N N) ∧ w4.cell? ⟨ab, 0, none⟩ = some (.int .i64 p) ∧ w4.cell? ⟨ab, 1, none⟩ = some (.string xi) ∧ w4.cell? ⟨ab, 3, none⟩ = some (.int .i64 q) ∧ w4.cell? ⟨eb, p, none⟩ = some (V p) := ⟨m1, m2, m3, m4, m5⟩
      refine Open.take (i := 17) (v := ?_) rfl (by kernel_rfl) (by kernel_rfl) (by kernel_rfl) (by kernel_rfl) (fun _ _ _ h => h) HS (Or.inl ⟨rfl, ?_⟩) ?_
      rotate_left
      · rintro w' ⟨k1, k2, k3, k4, k5⟩
        go_simp
        try rfl
      simp only [Act.put, List.setIfInBounds_toArray, List.set_cons_zero, List.set_cons_succ]
      refine Open.one (i := 18) rfl (by kernel_rfl) rfl (fun K hK => ?_)
      go_simp
      refine hK _ _ ⟨fun e => absurd rfl e, ?_⟩
      clear hK K HS mf m1 m2 m3 m4 m5 o1 o2 o3 o4 o5 l1 l2 l3 l4 l5
      refine Open.end (by kernel_rfl) ?_
      have Hpush := Sp.hid (HI1.out.push (i := p) (by omega) (x := (xi, q)) Hgr.out Hown3.out Hat4.out)
      have HRp := Sp.hid (Nf.relE_push (p := p) (q := q) (a := ⟨p, xi, xo, q, xc⟩) HR.out rfl rfl)
      have Hszp := Sp.hid (Nf.up1_len (i := p) (x := (xi, q)) Hsz.out)
      obtain ⟨v2, hv2⟩ : ∃ v2, Value.slice (some ⟨g, 0, none⟩) ((R p).length + 1) cap = v2 := ⟨_, rfl⟩
      rw [hv2] at Hpush ⊢
      obtain ⟨w5, hw5⟩ : ∃ w5, w4.setCell ⟨eb, p, none⟩ v2 = w5 := ⟨_, rfl⟩
      rw [hw5] at Hpush ⊢
      clear hv2 hw5 Hown3 Hgr Hat4 hszp hHH
      go_wp2_with fail
      go_roundw
      case rel => exact ⟨k + 1, _, _, by go_num, hkn, Hpush.out, by rw [Htk.out]; exact HRp.out, Hszp.out⟩
      case measure => simp [intOf]; omega
    · have HRA := Sp.hid (show Nf.RelE arcs R by have e : arcs.take k = arcs := List.take_of_length_le (by rw [Hlen.out]; omega); have h := HR.out; rwa [e] at h)
      go_wp2_with fail
      rename World => wA
      clear d2 d3
      go_loopw [6] (fun i wr => ∃ (j : Nat) (F : Nat → Bool), i = .int .i64 j ∧ j ≤ en ∧ Nf.GofAt w wr w.heap.size rb gB eb db N nc F V R ∧ ∀ q : Nat, F q = true ↔ ∃ d, d ∈ ends.take j ∧ d.s = (q : Int)) (fun i _ => en - (intOf i).toNat)
      case atStart => exact ⟨0, _, rfl, Nat.zero_le _, HI.out, fun q => by simp⟩
      case round =>
        clear HI HR
        obtain ⟨j, F, rfl, hj, hI, hF⟩ := hrel
        have HI := Sp.hid hI
        have HF := Sp.hid hF
        have hnb := hI.nblk
        rw [← Hnc.out] at hnb
        have d3 : wr.cell? ⟨w.heap.size, 3, none⟩ = some (.slice eo en ecap) := Nf.blk_cell (i := 3) hnb rfl
        have d0 : wr.cell? ⟨gB, 2, none⟩ = some (.slice (some ⟨db, 0, none⟩) N N) := Nf.blk_cell (i := 2) hI.gblk rfl
        clear hI hF hnb
        by_cases hje : j < en
        · obtain ⟨b, off, d, rfl, ⟨c0, c1⟩, hd, htk⟩ := (He.out.below HI.out.below).at hje
          have hdm := Hpre.out.hd d (List.mem_of_getElem? hd)
          obtain ⟨xs, xc⟩ := d
          simp only at c0 c1 hdm
          obtain ⟨hd0, hd1⟩ := hdm
          obtain ⟨q, rfl⟩ := Int.eq_ofNat_of_zero_le hd0
          have i1 : (0 : Int) ≤ (j : Int) := by omega
          have i2 : (j : Int) < (en : Int) := by omega
          have f3 := HI.out.dblk.free q
          have Htk := Sp.hid htk
          have cD := HI.out.dblk.cell (show q < N by omega)
          clear htk hd c1
          go_wp2_with fail
          refine Open.begin (S := fun w' => w'.cell? ⟨gB, 2, none⟩ = some (.slice (some ⟨db, 0, none⟩) N N) ∧ w'.cell? ⟨w.heap.size, 3, none⟩ = some (.slice (some ⟨b, off, none⟩) en ecap) ∧ w'.cell? ⟨b, off + j * 2, none⟩ = some (.int .i64 q)) (z := 9) (by kernel_rfl) ?_
          have HS : wr.drew.cell? ⟨gB, 2, none⟩ = some (.slice (some ⟨db, 0, none⟩) N N) ∧ wr.drew.cell? ⟨w.heap.size, 3, none⟩ = some (.slice (some ⟨b, off, none⟩) en ecap) ∧ wr.drew.cell? ⟨b, off + j * 2, none⟩ = some (.int .i64 q) := ⟨d0, d3, c0⟩
          refine Open.take (i := 0) (v := ?_) rfl (by kernel_rfl) (by kernel_rfl) (by kernel_rfl) (by kernel_rfl) (fun _ _ _ h => h) HS (Or.inl ⟨rfl, ?_⟩) ?_
          rotate_left
          · rintro w' ⟨k1, k2, k3⟩
            go_simp
            try rfl
          simp only [Act.put, List.setIfInBounds_toArray, List.set_cons_zero, List.set_cons_succ]
          refine Open.take (i := 1) (v := ?_) rfl (by kernel_rfl) (by kernel_rfl) (by kernel_rfl) (by kernel_rfl) (fun _ _ _ h => h) HS (Or.inl ⟨rfl, ?_⟩) ?_
          rotate_left
          · rintro w' ⟨k1, k2, k3⟩
            go_simp
            try rfl
          simp only [Act.put, List.setIfInBounds_toArray, List.set_cons_zero, List.set_cons_succ]
          refine Open.take (i := 2) (v := ?_) rfl (by kernel_rfl) (by kernel_rfl) (by kernel_rfl) (by kernel_rfl) (fun _ _ _ h => h) HS (Or.inl ⟨rfl, ?_⟩) ?_
          rotate_left
          · rintro w' ⟨k1, k2, k3⟩
            go_simp
            try rfl
          simp only [Act.put, List.setIfInBounds_toArray, List.set_cons_zero, List.set_cons_succ]
          refine Open.take (i := 3) (v := ?_) rfl (by kernel_rfl) (by kernel_rfl) (by kernel_rfl) (by kernel_rfl) (fun _ _ _ h => h) HS (Or.inl ⟨rfl, ?_⟩) ?_
          rotate_left
          · rintro w' ⟨k1, k2, k3⟩
            go_simp
            try rfl
          simp only [Act.put, List.setIfInBounds_toArray, List.set_cons_zero, List.set_cons_succ]
          refine Open.take (i := 4) (v := ?_) rfl (by kernel_rfl) (by kernel_rfl) (by kernel_rfl) (by kernel_rfl) (fun _ _ _ h => h) HS (Or.inl ⟨rfl, ?_⟩) ?_
          rotate_left
          · rintro w' ⟨k1, k2, k3⟩
            go_simp
            try rfl
          simp only [Act.put, List.setIfInBounds_toArray, List.set_cons_zero, List.set_cons_succ]
          refine Open.take (i := 5) (v := ?_) rfl (by kernel_rfl) (by kernel_rfl) (by kernel_rfl) (by kernel_rfl) (fun _ _ _ h => h) HS (Or.inl ⟨rfl, ?_⟩) ?_
          rotate_left
          · rintro w' ⟨k1, k2, k3⟩
            go_simp
            try rfl
          simp only [Act.put, List.setIfInBounds_toArray, List.set_cons_zero, List.set_cons_succ]
          refine Open.take (i := 6) (v := ?_) rfl (by kernel_rfl) (by kernel_rfl) (by kernel_rfl) (by kernel_rfl) (fun _ _ _ h => h) HS (Or.inl ⟨rfl, ?_⟩) ?_
          rotate_left
          · rintro w' ⟨k1, k2, k3⟩
            go_simp
            try rfl
          simp only [Act.put, List.setIfInBounds_toArray, List.set_cons_zero, List.set_cons_succ]
          refine Open.take (i := 7) (v := ?_) rfl (by kernel_rfl) (by kernel_rfl) (by kernel_rfl) (by kernel_rfl) (fun _ _ _ h => h) HS (Or.inl ⟨rfl, ?_⟩) ?_
          rotate_left
          · rintro w' ⟨k1, k2, k3⟩
            go_simp
            try rfl
          simp only [Act.put, List.setIfInBounds_toArray, List.set_cons_zero, List.set_cons_succ]
          refine Open.take (i := 8) (v := ?_) rfl (by kernel_rfl) (by kernel_rfl) (by kernel_rfl) (by kernel_rfl) (fun _ _ _ h => h) HS (Or.inl ⟨rfl, ?_⟩) ?_
          rotate_left
          · rintro w' ⟨k1, k2, k3⟩
            go_simp
            try rfl
          simp only [Act.put, List.setIfInBounds_toArray, List.set_cons_zero, List.set_cons_succ]
          refine Open.one (i := 9) rfl (by kernel_rfl) rfl (fun K hK => ?_)
          go_simp
          refine hK _ _ ⟨fun e => absurd rfl e, ?_⟩
          clear hK K HS d0 d3 c0 f3 cD
          refine Open.end (by kernel_rfl) ?_
          have HM := Sp.hid ((HI.out.mark q).drew)
          obtain ⟨w5, hw5⟩ : ∃ w5, (wr.setCell ⟨db, q, none⟩ (.bool true)).drew = w5 := ⟨_, rfl⟩
          try rw [World.setCell_drew]
          rw [hw5] at HM ⊢
          clear hw5
          go_wp2_with fail
          go_roundw
          case rel =>
            refine ⟨j + 1, _, by go_num, hje, HM.out, fun r => ?_⟩
            rw [Htk.out]
            constructor
            · intro h
              by_cases e : r = q
              · exact ⟨⟨q, xc⟩, by simp, by rw [e]⟩
              · simp only [e, if_false] at h
                obtain ⟨d, hd1, hd2⟩ := (HF.out r).1 h
                exact ⟨d, by simp [hd1], hd2⟩
            · rintro ⟨d, hd1, hd2⟩
              rcases List.mem_append.1 hd1 with h | h
              · by_cases e : r = q
                · simp [e]
                · simp only [e, if_false]; exact (HF.out r).2 ⟨d, h, hd2⟩
              · simp at h; subst h
                have e : r = q := by simp only at hd2; omega
                simp [e]
          case measure => simp [intOf]; omega
        · have HFA := Sp.hid (show ∀ q : Nat, F q = true ↔ ∃ d, d ∈ ends ∧ d.s = (q : Int) by have e : ends.take j = ends := List.take_of_length_le (by rw [HlenE.out]; omega); have h := HF.out; rwa [e] at h)
          have g0 : wr.cell? ⟨gB, 0, none⟩ = some (.int .i64 0) := Nf.blk_cell (i := 0) HI.out.gblk rfl
          have g1 : wr.cell? ⟨gB, 1, none⟩ = some (.slice (some ⟨eb, 0, none⟩) N N) := Nf.blk_cell (i := 1) HI.out.gblk rfl
          have r0 : wr.cell? ⟨rb, 0, none⟩ = some (.int .i64 0) := Nf.blk_cell (i := 0) HI.out.rblk rfl
          have r1 : wr.cell? ⟨rb, 1, none⟩ = some (.slice none 0 0) := Nf.blk_cell (i := 1) HI.out.rblk rfl
          have r2 : wr.cell? ⟨rb, 2, none⟩ = some (.slice none 0 0) := Nf.blk_cell (i := 2) HI.out.rblk rfl
          have f0 := Nf.blk_free (i := 0) HI.out.rblk
          have f1 := Nf.blk_free (i := 1) HI.out.rblk
          have f2 := Nf.blk_free (i := 2) HI.out.rblk
          obtain ⟨m1, m2, m3, m4⟩ := HI.out.res (.int .i64 0) (.slice (some ⟨eb, 0, none⟩) N N) (.slice (some ⟨db, 0, none⟩) N N)
          have HG := Sp.hid (Nf.rfAt_of Hpre.out m1 m2 HRA.out HFA.out (fun i => Nat.le_trans (Hsz.out i) (by omega)))
          have M3 := Sp.hid m3
          have M4 := Sp.hid m4
          clear HF HFA m1 m2 m3 m4
          go_wp2_with fail
          obtain ⟨w5, hw5⟩ : ∃ w5, ((wr.setCell ⟨rb, 0, none⟩ (.int .i64 0)).setCell ⟨rb, 1, none⟩ (.slice (some ⟨eb, 0, none⟩) N N)).setCell ⟨rb, 2, none⟩ (.slice (some ⟨db, 0, none⟩) N N) = w5 := ⟨_, rfl⟩
          rw [hw5] at HG M3 M4 ⊢
          have q0 := Nf.blk_cell (i := 0) M3.out rfl
          have q1 := Nf.blk_cell (i := 1) M3.out rfl
          have q2 := Nf.blk_cell (i := 2) M3.out rfl
          refine bodyPost_ret (v := Nf.rfVal eb db N) (by simp [results, Tryz.results33, go_sem, Tryz.underlying71, Tryz.isAgg71, Tryz.sizeOf71, q0, q1, q2, Nf.rfVal]) rfl ?_
          exact ⟨_, _, _, rfl, HG.out, M4.out⟩
end Go.Proofs.YtpoblcmjfcpiaaaGreat
