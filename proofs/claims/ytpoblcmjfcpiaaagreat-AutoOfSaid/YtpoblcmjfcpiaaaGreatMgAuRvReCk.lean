/-
  The walks of the reference's IsFree and Validate.
-/
import Derived.Test.YtpoblcmjfcpiaaaGreatMgAuRn
import Derived.Test.YtpoblcmjfcpiaaaGreatMgReGoReRun
import Derived.Test.YtpoblcmjfcpiaaaGreatMgAuZAuZaAuKnAuLa
import Derived.Test.YtpoblcmjfcpiaaaGreatMgWalkB
set_option linter.unusedVariables false
set_option linter.unusedSimpArgs false
namespace Go.Proofs.YtpoblcmjfcpiaaaGreat
open Go.RowKit
namespace Nf
def freeOk (n : Net) : Bool := n.arcs.all (fun a => decide (a.c = 0)) && n.ends.all (fun d => decide (d.c = 0))
theorem all_and {α : Type} (p q : α → Bool) : ∀ l : List α, (l.all fun a => p a && q a) = (l.all p && l.all q)
  | [] => rfl
  | a :: l => by simp only [List.all_cons, all_and p q l]; cases p a <;> cases q a <;> simp
theorem accOk_split (n : Net) : accOk n = (n.arcs.all (fun a => bl (a.o = a.i)) && freeOk n) := by
  have h : n.arcs.all arcFree = (n.arcs.all (fun a => bl (a.o = a.i)) && n.arcs.all (fun a => decide (a.c = 0))) := all_and _ _ _
  unfold accOk freeOk
  rw [h, Bool.and_assoc]
theorem errNet_base (n : Net) : errNet n = if errBase n ≠ 0 then errBase n else if accOk n = false then 6 else 0 := by
  unfold errNet errBase
  by_cases h1 : 3000 < n.st ∨ 60000 < n.arcs.length ∨ 60000 < n.ends.length
  · rw [if_pos h1, if_pos h1]; simp
  · rw [if_neg h1, if_neg h1]
    by_cases h2 : Sp.errAlpha n.sig = 0
    · rw [h2]
      cases netOk n <;> simp
    · rw [if_pos h2, if_pos h2, if_pos h2]
end Nf

set_option maxHeartbeats 2000000 in
set_option maxRecDepth 100000 in
theorem isFree_any (w : World) (n : Nf.Net) (h : Nf.NetAt w n) :
    Calls Tryz.prog 54 #[n.val] w fun e w' => e = .returned (.bool (Nf.freeOk n)) ∧ Below w.heap.size w w' := by
  obtain ⟨r, hr⟩ : ∃ r, Nf.freeOk n = r := ⟨_, rfl⟩
  rw [hr]
  have Hr := Sp.hid hr
  have hb0 : Below w.heap.size w (w.alloc (.cells n.cells 26)) := (Below.refl _ w).alloc (Nat.le_refl _) _
  have HA := Sp.hid (h.arcs.below hb0)
  have HE := Sp.hid (h.ends.below hb0)
  have han : n.an ≤ 2600000000000 := h.arcs.2.1
  have hen : n.en ≤ 9000000000000 := h.ends.2.1
  have Hb0 := Sp.hid hb0
  clear h hb0 hr
  obtain ⟨so, sn, scap, sig, st, ao, an, acap, arcs, eo, en, ecap, ends⟩ := n
  unfold Nf.Net.val
  simp only [Nf.Net.cells] at *
  go_enter Tryz.func54, Tryz.ntmps54
  go_wp2_with fail
  go_loopw [3] (fun i wr => ∃ k : Nat, i = .int .i64 k ∧ k ≤ an ∧ (arcs.take k).all (fun a => decide (a.c = 0)) = true ∧ wr = w.alloc (.cells #[.slice so sn scap, .int .i64 st, .slice ao an acap, .slice eo en ecap] 26)) (fun i _ => an - (intOf i).toNat)
  case atStart => exact ⟨0, rfl, Nat.zero_le _, by simp, rfl⟩
  case round =>
    obtain ⟨k, rfl, hk, hall, rfl⟩ := hrel
    have Hall := Sp.hid hall
    clear hall
    by_cases hkn : k < an
    · obtain ⟨b, off, x, rfl, ⟨c0, c1, c2, c3, c4⟩, hi1, ho1, hx, ht⟩ := HA.out.at hkn
      by_cases hc : x.c = 0
      · have hall2 : (arcs.take (k + 1)).all (fun a => decide (a.c = 0)) = true := by rw [ht, List.all_append, Hall.out]; simpa using hc
        rw [hc] at c4
        have Hall2 := Sp.hid hall2
        clear hx ht hall2
        go_wp2_with fail
        go_roundw
        case rel => exact ⟨k + 1, by go_num, hkn, Hall2.out, trivial⟩
        case measure => simp [intOf]; omega
      · have hf : r = false := by rw [← Hr.out]; unfold Nf.freeOk; simp only; rw [Sp.all_false_of (p := fun a : ArcV => decide (a.c = 0)) hx (by simpa using hc)]; rfl
        subst hf
        have hcb : (x.c != 0) = true := by simpa using hc
        clear hx ht
        go_wp2_with fail
        go_ret
        exact ⟨rfl, Hb0.out⟩
    · have HallA := Sp.hid (show arcs.all (fun a => decide (a.c = 0)) = true by have := Hall.out; rwa [List.take_of_length_le (by rw [HA.out.1]; omega)] at this)
      go_wp2_with fail
      go_loopw [4] (fun i wr => ∃ k : Nat, i = .int .i64 k ∧ k ≤ en ∧ (ends.take k).all (fun a => decide (a.c = 0)) = true ∧ wr = w.alloc (.cells #[.slice so sn scap, .int .i64 st, .slice ao an acap, .slice eo en ecap] 26)) (fun i _ => en - (intOf i).toNat)
      case atStart => exact ⟨0, rfl, Nat.zero_le _, by simp, rfl⟩
      case round =>
        clear hk hkn Hall
        obtain ⟨k, rfl, hk, hall, rfl⟩ := hrel
        have Hall := Sp.hid hall
        clear hall
        by_cases hkn : k < en
        · obtain ⟨b, off, x, rfl, ⟨c0, c1⟩, hx, ht⟩ := HE.out.at hkn
          by_cases hc : x.c = 0
          · have hall2 : (ends.take (k + 1)).all (fun a => decide (a.c = 0)) = true := by rw [ht, List.all_append, Hall.out]; simpa using hc
            rw [hc] at c1
            have Hall2 := Sp.hid hall2
            clear hx ht hall2
            go_wp2_with fail
            go_roundw
            case rel => exact ⟨k + 1, by go_num, hkn, Hall2.out, trivial⟩
            case measure => simp [intOf]; omega
          · have hf : r = false := by rw [← Hr.out]; unfold Nf.freeOk; simp only; rw [Sp.all_false_of (p := fun a : EndV => decide (a.c = 0)) hx (by simpa using hc)]; simp
            subst hf
            have hcb : (x.c != 0) = true := by simpa using hc
            clear hx ht
            go_wp2_with fail
            go_ret
            exact ⟨rfl, Hb0.out⟩
        · have hf : r = true := by
            rw [← Hr.out]; unfold Nf.freeOk; simp only
            have := Hall.out
            rw [List.take_of_length_le (by rw [HE.out.1]; omega)] at this
            rw [HallA.out, this]; rfl
          subst hf
          go_wp2_with fail
          go_ret
          exact ⟨rfl, Hb0.out⟩

set_option maxHeartbeats 2000000 in
set_option maxRecDepth 100000 in
theorem refValidN_any (w : World) (n : Nf.Net) (h : Nf.NetAt w n) :
    Calls Tryz.prog 26 #[n.val] w fun e w' => e = .returned (.int .i64 (Nf.errNet n)) ∧ Below w.heap.size w w' := by
  obtain ⟨r, hr⟩ : ∃ r, Nf.errNet n = r := ⟨_, rfl⟩
  rw [hr]
  rw [Nf.errNet_base, Nf.accOk_split] at hr
  have hb0 : Below w.heap.size w (w.alloc (.cells n.cells 26)) := (Below.refl _ w).alloc (Nat.le_refl _) _
  have HV := Sp.hid (refNet_any _ n (h.below hb0))
  have hblk : (w.alloc (.cells n.cells 26)).heap[w.heap.size]? = some (.cells n.cells 26 (0, 0)) := Nf.Below.heap_new w _
  have Hblk := Sp.hid hblk
  have Hb0 := Sp.hid hb0
  have HA := Sp.hid h.arcs
  have HF := Sp.hid (fun (w2 : World) (hb : Below w.heap.size w w2) => isFree_any w2 n (h.below hb))
  have han : n.an ≤ 2600000000000 := h.arcs.2.1
  generalize Nf.errBase n = r0 at HV hr
  generalize Nf.freeOk n = fr at HF hr
  clear h hb0 hblk
  obtain ⟨so, sn, scap, sig, st, ao, an, acap, arcs, eo, en, ecap, ends⟩ := n
  unfold Nf.Net.val at *
  simp only [Nf.Net.cells] at *
  by_cases h0 : r0 = 0
  · subst h0
    rw [if_neg (by simp)] at hr
    have Hr := Sp.hid hr
    clear hr
    go_enter Tryz.func26, Tryz.ntmps26
    go_wp2_with fail
    refine HV.out.mono ?_
    rintro e w2 ⟨rfl, hb2⟩
    have Hb2 := Sp.hid (Hb0.out.trans (hb2.mono Hb0.out.size))
    have Hk2 := Sp.hid (Nf.blk_below Hblk.out hb2 (Nf.blk_lt Hblk.out))
    clear hb2
    go_wp2_with fail
    go_loopw [4] (fun i wr => ∃ k : Nat, i = .int .i64 k ∧ k ≤ an ∧ (arcs.take k).all (fun a => Nf.bl (a.o = a.i)) = true ∧ Below w.heap.size w wr ∧ wr.heap[w.heap.size]? = some (.cells #[.slice so sn scap, .int .i64 st, .slice ao an acap, .slice eo en ecap] 26 (0, 0))) (fun i _ => an - (intOf i).toNat)
    case atStart => exact ⟨0, rfl, Nat.zero_le _, by simp, Hb2.out, Hk2.out⟩
    case round =>
      obtain ⟨k, rfl, hk, hall, hbel, hblk⟩ := hrel
      have Hall := Sp.hid hall
      have Hbel := Sp.hid hbel
      have Hblk := Sp.hid hblk
      have d0 : wr.cell? ⟨w.heap.size, 0, none⟩ = some (.slice so sn scap) := Nf.blk_cell (i := 0) hblk rfl
      have d1 : wr.cell? ⟨w.heap.size, 1, none⟩ = some (.int .i64 st) := Nf.blk_cell (i := 1) hblk rfl
      have d2 : wr.cell? ⟨w.heap.size, 2, none⟩ = some (.slice ao an acap) := Nf.blk_cell (i := 2) hblk rfl
      have d3 : wr.cell? ⟨w.heap.size, 3, none⟩ = some (.slice eo en ecap) := Nf.blk_cell (i := 3) hblk rfl
      clear hall hbel hblk
      by_cases hkn : k < an
      · obtain ⟨b, off, x, rfl, ⟨c0, c1, c2, c3, c4⟩, hi1, ho1, hx, ht⟩ := (HA.out.below Hbel.out).at hkn
        have i1 : (0 : Int) ≤ (k : Int) := by omega
        have i2 : (k : Int) < (an : Int) := by omega
        by_cases he : x.o = x.i
        · have hall2 : (arcs.take (k + 1)).all (fun a => Nf.bl (a.o = a.i)) = true := by rw [ht, List.all_append, Hall.out]; simpa using Nf.bl_true he
          have Hall2 := Sp.hid hall2
          rw [he] at c2
          clear hx ht hall2 d0 d1 d3 he
          go_wp2_with fail
          go_quiet (fail)
          clear i1 i2
          go_wp2_with fail
          go_roundw
          case rel => exact ⟨k + 1, by go_num, hkn, Hall2.out, Hbel.out.trans ⟨rfl, rfl, rfl, Nat.le_refl _, fun _ _ => rfl⟩, Hblk.out⟩
          case measure => simp [intOf]; omega
        · have hf : r = 6 := by
            rw [← Hr.out, Sp.all_false_of (p := fun a : ArcV => Nf.bl (a.o = a.i)) hx (Nf.bl_false he)]; rfl
          subst hf
          have hq := str_ne x.i x.o (fun e => he e.symm)
          clear hx ht d0 d1 d3 he
          go_wp2_with fail
          go_quiet (fail)
          clear i1 i2
          go_wp2_with fail
          go_ret
          exact ⟨rfl, Hbel.out.trans ⟨rfl, rfl, rfl, Nat.le_refl _, fun _ _ => rfl⟩⟩
      · have hA : arcs.all (fun a => Nf.bl (a.o = a.i)) = true := by have := Hall.out; rwa [List.take_of_length_le (by rw [HA.out.1]; omega)] at this
        have hr2 := Hr.out
        rw [hA, Bool.true_and] at hr2
        have HFr := Sp.hid (HF.out wr Hbel.out)
        clear hA
        cases fr with
        | false =>
          have hf : r = 6 := by rw [← hr2]; rfl
          subst hf
          clear hr2
          go_wp2_with fail
          refine HFr.out.mono ?_
          rintro e w3 ⟨rfl, hb3⟩
          have Hb3 := Sp.hid (Hbel.out.trans (hb3.mono Hbel.out.size))
          clear hb3
          go_wp2_with fail
          go_ret
          exact ⟨rfl, Hb3.out⟩
        | true =>
          have hf : r = 0 := by rw [← hr2]; rfl
          subst hf
          clear hr2
          go_wp2_with fail
          refine HFr.out.mono ?_
          rintro e w3 ⟨rfl, hb3⟩
          have Hb3 := Sp.hid (Hbel.out.trans (hb3.mono Hbel.out.size))
          clear hb3
          go_wp2_with fail
          go_ret
          exact ⟨rfl, Hb3.out⟩
  · rw [if_pos h0] at hr
    subst hr
    have h3 : (r0 != 0) = true := by simpa using h0
    go_enter Tryz.func26, Tryz.ntmps26
    go_wp2_with fail
    refine HV.out.mono ?_
    rintro e w2 ⟨rfl, hb2⟩
    have Hb2 := Sp.hid (Hb0.out.trans (hb2.mono Hb0.out.size))
    clear hb2
    go_wp2_with fail
    go_ret
    exact ⟨rfl, Hb2.out⟩
end Go.Proofs.YtpoblcmjfcpiaaaGreat

/-
  The walk of the reference's checked; the errors of a net and a word; the graph's cells.
-/
set_option linter.unusedVariables false
set_option linter.unusedSimpArgs false
namespace Go.Proofs.YtpoblcmjfcpiaaaGreat
open Go.RowKit
namespace Nf
/-- The error of a net and a word. -/
noncomputable def errCk (n : Net) (W : List ByteArray) : Int := if errNet n ≠ 0 then errNet n else Sp.errWord W
noncomputable def accSpec (n : Net) (W : List ByteArray) : Bool × Int := if errCk n W ≠ 0 then (false, errCk n W) else (bl (Acc (netGr n) W), 0)
def AccPost (n : Net) (W : List ByteArray) (w : World) (e : Ending) (w' : World) : Prop := e = .returned (.tuple #[.bool (accSpec n W).1, .int .i64 (accSpec n W).2]) ∧ RowKit.Below w.heap.size w w'
theorem errCk_zero {n : Net} {W : List ByteArray} (h : errCk n W = 0) : errNet n = 0 ∧ Sp.errWord W = 0 := by
  unfold errCk at h
  by_cases he : errNet n = 0
  · rw [if_neg (by simpa using he)] at h; exact ⟨he, h⟩
  · rw [if_pos he] at h; exact absurd h he
theorem word_full {W : List ByteArray} (h : Sp.errWord W = 0) : ∀ s ∈ W, s.size ≠ 0 := by
  intro s hs
  have := (Sp.word_small h).2.2
  unfold Sp.allSym at this
  rw [List.all_eq_true] at this
  have := this s hs
  unfold Sp.isSym at this
  simp only [Bool.and_eq_true, decide_eq_true_eq] at this
  omega
theorem word_ne {W : List ByteArray} (h : Sp.errWord W = 0) : ∀ s ∈ W, s ≠ eps := fun s hs e => word_full h s hs (by rw [e]; rfl)
end Nf

set_option maxHeartbeats 1000000 in
set_option maxRecDepth 100000 in
theorem checked_any (w : World) (n : Nf.Net) (wo : Option Addr) (wn wcap : Nat) (W : List ByteArray) (h : Nf.NetAt w n) (hW : Sp.Row w wo wn W) :
    Calls Tryz.prog 32 #[n.val, .slice wo wn wcap] w fun e w' => e = .returned (.int .i64 (Nf.errCk n W)) ∧ Below w.heap.size w w' := by
  have hb0 : Below w.heap.size w (w.alloc (.cells n.cells 26)) := (Below.refl _ w).alloc (Nat.le_refl _) _
  have HV := Sp.hid (refValidN_any _ n (h.below hb0))
  have Hb0 := Sp.hid hb0
  have HW := Sp.hid hW
  by_cases he : Nf.errNet n = 0
  · have hs := Sp.hid (show Nf.errCk n W = Sp.errWord W by unfold Nf.errCk; rw [if_neg (by simpa using he)])
    rw [hs.out]
    rw [he] at HV
    clear h hb0 hW he hs
    obtain ⟨so, sn, scap, sig, st, ao, an, acap, arcs, eo, en, ecap, ends⟩ := n
    unfold Nf.Net.val at *
    simp only [Nf.Net.cells] at *
    go_enter Tryz.func32, Tryz.ntmps32
    go_wp2_with fail
    refine HV.out.mono ?_
    rintro e w2 ⟨rfl, hb2⟩
    have Hb2 := Sp.hid (Hb0.out.trans (hb2.mono Hb0.out.size))
    have HWd := Sp.hid (refValidateWord_any wo wn wcap W w2 (HW.out.below Hb2.out))
    clear hb2
    go_wp2_with fail
    refine HWd.out.mono ?_
    rintro e w3 ⟨rfl, rfl⟩
    go_wp2_with fail
    go_ret
    exact ⟨rfl, Hb2.out⟩
  · have hs := Sp.hid (show Nf.errCk n W = Nf.errNet n by unfold Nf.errCk; rw [if_pos he])
    rw [hs.out]
    generalize Nf.errNet n = r at HV he
    have h3 : (r != 0) = true := by simpa using he
    clear h hb0 hW he hs
    obtain ⟨so, sn, scap, sig, st, ao, an, acap, arcs, eo, en, ecap, ends⟩ := n
    unfold Nf.Net.val at *
    simp only [Nf.Net.cells] at *
    go_enter Tryz.func32, Tryz.ntmps32
    go_wp2_with fail
    refine HV.out.mono ?_
    rintro e w2 ⟨rfl, hb2⟩
    have Hb2 := Sp.hid (Hb0.out.trans (hb2.mono Hb0.out.size))
    clear hb2
    go_wp2_with fail
    go_ret
    exact ⟨rfl, Hb2.out⟩

/-- The graph's three cells. -/
def Nf.RfB (B eb db N : Nat) (w : World) : Prop := w.cell? ⟨B, 0, none⟩ = some (.int .i64 0) ∧ w.cell? ⟨B, 1, none⟩ = some (.slice (some ⟨eb, 0, none⟩) N N) ∧ w.cell? ⟨B, 2, none⟩ = some (.slice (some ⟨db, 0, none⟩) N N)
theorem Nf.RfB.below {B eb db N : Nat} {w w' : World} (h : Nf.RfB B eb db N w) (hb : Below w.heap.size w w') : Nf.RfB B eb db N w' := by
  have l := World.block_lt_of_cell? w _ h.1
  exact ⟨by rw [hb.cell (p := ⟨B, 0, none⟩) l]; exact h.1, by rw [hb.cell (p := ⟨B, 1, none⟩) l]; exact h.2.1, by rw [hb.cell (p := ⟨B, 2, none⟩) l]; exact h.2.2⟩
end Go.Proofs.YtpoblcmjfcpiaaaGreat
