/-
  The walk of the reference's checked; the errors of a net and a word; the graph's cells.
-/
import Derived.Test.YtpoblcmjfcpiaaaGreatMgReRun
import Derived.Test.YtpoblcmjfcpiaaaGreatMgReGo
import Derived.Test.YtpoblcmjfcpiaaaGreatMgAuRv
import Derived.Test.YtpoblcmjfcpiaaaGreatMgAuZAuZaAuKnAuLa
import Derived.Test.YtpoblcmjfcpiaaaGreatMgWalkB
set_option linter.unusedVariables false
set_option linter.unusedSimpArgs false
namespace Go.Proofs.YtpoblcmjfcpiaaaGreat
open Go.RowKit
namespace Nf
/-- The error of a net and a word. -/
noncomputable def errCk (n : Net) (W : List ByteArray) : Int := if errNet n ≠ 0 then errNet n else Sp.errWord W
noncomputable def accSpec (n : Net) (W : List ByteArray) : Bool × Int := if errCk n W ≠ 0 then (false, errCk n W) else (bl (Acc (netGr n) W), 0)
def AccPost (n : Net) (W : List ByteArray) (w : World) (e : Ending) (w' : World) : Prop := e = .returned (.tuple #[.bool (accSpec n W).1, .int .i64 (accSpec n W).2]) ∧ RowKit.Below w.heap.size w w'
theorem errCk_zero {n : Net} {W : List ByteArray} (h : errCk n W = 0) : errNet n = 0 ∧ Sp.errWord W = 0 := by
  unfold errCk at h
  by_cases he : errNet n = 0
  · rw [if_neg (by simpa using he)] at h; exact ⟨he, h⟩
  · rw [if_pos he] at h; exact absurd h he
theorem word_full {W : List ByteArray} (h : Sp.errWord W = 0) : ∀ s ∈ W, s.size ≠ 0 := by
  intro s hs
  have := (Sp.word_small h).2.2
  unfold Sp.allSym at this
  rw [List.all_eq_true] at this
  have := this s hs
  unfold Sp.isSym at this
  simp only [Bool.and_eq_true, decide_eq_true_eq] at this
  omega
theorem word_ne {W : List ByteArray} (h : Sp.errWord W = 0) : ∀ s ∈ W, s ≠ eps := fun s hs e => word_full h s hs (by rw [e]; rfl)
end Nf

set_option maxHeartbeats 1000000 in
set_option maxRecDepth 100000 in
theorem checked_any (w : World) (n : Nf.Net) (wo : Option Addr) (wn wcap : Nat) (W : List ByteArray) (h : Nf.NetAt w n) (hW : Sp.Row w wo wn W) :
    Calls Tryz.prog 32 #[n.val, .slice wo wn wcap] w fun e w' => e = .returned (.int .i64 (Nf.errCk n W)) ∧ Below w.heap.size w w' := by
  have hb0 : Below w.heap.size w (w.alloc (.cells n.cells 26)) := (Below.refl _ w).alloc (Nat.le_refl _) _
  have HV := Sp.hid (refValidN_any _ n (h.below hb0))
  have Hb0 := Sp.hid hb0
  have HW := Sp.hid hW
  by_cases he : Nf.errNet n = 0
  · have hs := Sp.hid (show Nf.errCk n W = Sp.errWord W by unfold Nf.errCk; rw [if_neg (by simpa using he)])
    rw [hs.out]
    rw [he] at HV
    clear h hb0 hW he hs
    obtain ⟨so, sn, scap, sig, st, ao, an, acap, arcs, eo, en, ecap, ends⟩ := n
    unfold Nf.Net.val at *
    simp only [Nf.Net.cells] at *
    go_enter Tryz.func32, Tryz.ntmps32
    go_wp2_with fail
    refine HV.out.mono ?_
    rintro e w2 ⟨rfl, hb2⟩
    have Hb2 := Sp.hid (Hb0.out.trans (hb2.mono Hb0.out.size))
    have HWd := Sp.hid (refValidateWord_any wo wn wcap W w2 (HW.out.below Hb2.out))
    clear hb2
    go_wp2_with fail
    refine HWd.out.mono ?_
    rintro e w3 ⟨rfl, rfl⟩
    go_wp2_with fail
    go_ret
    exact ⟨rfl, Hb2.out⟩
  · have hs := Sp.hid (show Nf.errCk n W = Nf.errNet n by unfold Nf.errCk; rw [if_pos he])
    rw [hs.out]
    generalize Nf.errNet n = r at HV he
    have h3 : (r != 0) = true := by simpa using he
    clear h hb0 hW he hs
    obtain ⟨so, sn, scap, sig, st, ao, an, acap, arcs, eo, en, ecap, ends⟩ := n
    unfold Nf.Net.val at *
    simp only [Nf.Net.cells] at *
    go_enter Tryz.func32, Tryz.ntmps32
    go_wp2_with fail
    refine HV.out.mono ?_
    rintro e w2 ⟨rfl, hb2⟩
    have Hb2 := Sp.hid (Hb0.out.trans (hb2.mono Hb0.out.size))
    clear hb2
    go_wp2_with fail
    go_ret
    exact ⟨rfl, Hb2.out⟩

/-- The graph's three cells. -/
def Nf.RfB (B eb db N : Nat) (w : World) : Prop := w.cell? ⟨B, 0, none⟩ = some (.int .i64 0) ∧ w.cell? ⟨B, 1, none⟩ = some (.slice (some ⟨eb, 0, none⟩) N N) ∧ w.cell? ⟨B, 2, none⟩ = some (.slice (some ⟨db, 0, none⟩) N N)
theorem Nf.RfB.below {B eb db N : Nat} {w w' : World} (h : Nf.RfB B eb db N w) (hb : Below w.heap.size w w') : Nf.RfB B eb db N w' := by
  have l := World.block_lt_of_cell? w _ h.1
  exact ⟨by rw [hb.cell (p := ⟨B, 0, none⟩) l]; exact h.1, by rw [hb.cell (p := ⟨B, 1, none⟩) l]; exact h.2.1, by rw [hb.cell (p := ⟨B, 2, none⟩) l]; exact h.2.2⟩
end Go.Proofs.YtpoblcmjfcpiaaaGreat
