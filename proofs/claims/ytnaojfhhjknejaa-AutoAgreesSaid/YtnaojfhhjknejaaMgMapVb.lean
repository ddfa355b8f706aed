/-
  The walk of package auto's validateBoth.
-/
import Derived.Test.YtnaojfhhjknejaaMgMapG
import Derived.Test.YtnaojfhhjknejaaMgCkSTeNAgP
import Derived.Test.YtnaojfhhjknejaaMgAuF
import Derived.Test.YtnaojfhhjknejaaMgWalkA
import Derived.Deep.RegionHeld3
set_option linter.unusedVariables false
set_option linter.unusedSimpArgs false
namespace Go.Proofs.Ytnaojfhhjknejaa
open Go.RowKit

set_option maxHeartbeats 1000000 in
set_option maxRecDepth 100000 in
theorem validateBoth_any (w : World) (n : Nf.Net) (wo : Option Addr) (wn wcap : Nat) (W : List ByteArray) (h : Nf.NetAt w n) (hW : Sp.Row w wo wn W) :
    Calls Try.prog 16 #[n.val, .slice wo wn wcap] w fun e w' => e = .returned (.int .i64 (Nf.errCk n W)) ∧ Below w.heap.size w w' := by
  have hb0 : Below w.heap.size w (w.alloc (.cells n.cells 26)) := (Below.refl _ w).alloc (Nat.le_refl _) _
  have HV := Sp.hid (netValidate_any _ n (h.below hb0))
  have Hb0 := Sp.hid hb0
  have HW := Sp.hid hW
  by_cases he : Nf.errNet n = 0
  · have hs := Sp.hid (show Nf.errCk n W = Sp.errWord W by unfold Nf.errCk; rw [if_neg (by simpa using he)])
    rw [hs.out]
    rw [he] at HV
    clear h hb0 hW he hs
    obtain ⟨so, sn, scap, sig, st, ao, an, acap, arcs, eo, en, ecap, ends⟩ := n
    unfold Nf.Net.val at *
    simp only [Nf.Net.cells] at *
    go_enter Try.func16, Try.ntmps16
    go_wp2_with fail
    refine HV.out.mono ?_
    rintro e w2 ⟨rfl, hb2⟩
    have Hb2 := Sp.hid (Hb0.out.trans (hb2.mono Hb0.out.size))
    have HWd := Sp.hid (validateWord_any wo wn wcap W w2 (HW.out.below Hb2.out))
    clear hb2
    go_wp2_with fail
    refine HWd.out.mono ?_
    rintro e w3 ⟨rfl, rfl⟩
    go_wp2_with fail
    go_ret
    exact ⟨rfl, Hb2.out⟩
  · have hs := Sp.hid (show Nf.errCk n W = Nf.errNet n by unfold Nf.errCk; rw [if_pos he])
    rw [hs.out]
    generalize Nf.errNet n = r at HV he
    have h3 : (r != 0) = true := by simpa using he
    clear h hb0 hW he hs
    obtain ⟨so, sn, scap, sig, st, ao, an, acap, arcs, eo, en, ecap, ends⟩ := n
    unfold Nf.Net.val at *
    simp only [Nf.Net.cells] at *
    go_enter Try.func16, Try.ntmps16
    go_wp2_with fail
    refine HV.out.mono ?_
    rintro e w2 ⟨rfl, hb2⟩
    have Hb2 := Sp.hid (Hb0.out.trans (hb2.mono Hb0.out.size))
    clear hb2
    go_wp2_with fail
    go_ret
    exact ⟨rfl, Hb2.out⟩
end Go.Proofs.Ytnaojfhhjknejaa
