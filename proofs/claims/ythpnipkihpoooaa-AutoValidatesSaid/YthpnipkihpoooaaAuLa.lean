/-
  The walk of the guard: far too much.
-/
import Derived.Test.YthpnipkihpoooaaAuKn
set_option linter.unusedVariables false
set_option linter.unusedSimpArgs false
namespace Go.Proofs.Ythpnipkihpoooaa
open Go.RowKit

set_option maxHeartbeats 2000000 in
set_option maxRecDepth 100000 in
theorem isOver_any (w : World) (n : Nf.Net) (h : Nf.NetAt w n) :
    Calls Try.prog 8 #[n.val] w (fun e w' => ∃ r : Bool, e = .returned (.bool r) ∧ Below w.heap.size w w') := by
  have hb0 : Below w.heap.size w (w.alloc (.cells n.cells 26)) := (Below.refl _ w).alloc (Nat.le_refl _) _
  have Hsig := Sp.hid (h.sig.below hb0)
  have hsn : n.sn ≤ 9223372036854775807 := h.sig.2.1
  have HB := Sp.hid hb0
  clear h hb0
  obtain ⟨so, sn, scap, sig, st, ao, an, acap, arcs, eo, en, ecap, ends⟩ := n
  unfold Nf.Net.val
  simp only [Nf.Net.cells] at *
  go_enter Try.func8, Try.ntmps8
  go_wp2_with fail
  go_loopw [3, 4] (fun s i wr => ∃ (a : Int) (k : Nat), s = .int .i64 a ∧ i = .int .i64 k ∧ k ≤ sn ∧ wr = w.alloc (.cells #[.slice so sn scap, .int .i64 st, .slice ao an acap, .slice eo en ecap] 26)) (fun _ i _ => sn - (intOf i).toNat)
  case atStart => exact ⟨_, 0, rfl, rfl, Nat.zero_le _, rfl⟩
  case round =>
    obtain ⟨a, k, rfl, rfl, hk, rfl⟩ := hrel
    by_cases hks : k < sn
    · obtain ⟨b, off, s, rfl, hc, hsz, _, _⟩ := Hsig.out.at hks
      go_wp2_with fail
      go_roundw
      case rel => exact ⟨_, k + 1, rfl, by go_num, hks, trivial⟩
      case measure => simp [intOf]; omega
    · go_wp2_with fail
      go_ret
      exact ⟨_, rfl, HB.out⟩
end Go.Proofs.Ythpnipkihpoooaa
