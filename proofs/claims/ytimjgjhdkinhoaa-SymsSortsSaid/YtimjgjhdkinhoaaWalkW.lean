/-
  The reference's Shortlex, Sorted and SameWords.
-/
import Derived.Test.YtimjgjhdkinhoaaWalkV
import Derived.Deep.QuietTactic
import Derived.BigQuiet
set_option linter.unusedVariables false
namespace Go.Proofs.Ytimjgjhdkinhoaa
open Go.RowKit

set_option maxHeartbeats 1000000 in
theorem refShortlex_any (ao : Option Addr) (n cap : Nat) (els : List Lst) (w : World) (h : Sp.RowE w ao n els) (hn : n ≤ 200) :
    Calls Try.prog 67 #[.slice ao n cap] w fun e w' => ∃ v LL, e = .returned v ∧ Sp.SetL LL (Sp.lists els) ∧ ∃ bo m cp, v = .slice bo m cp ∧ Sp.Row2 w' bo m LL ∧ Below w.heap.size w w' := by
  have Hlen := Sp.hid h.1
  go_enter Try.func67, Try.ntmps67
  go_wp2_with fail
  go_loopw [3, 4] (fun v i wr => ∃ (k : Nat) (bo : Option Addr) (m cp : Nat) (es : List Lst), k ≤ n ∧ i = .int .i64 k ∧ v = .slice bo m cp ∧ Sp.RowE wr bo m es ∧ m ≤ cp ∧ (m = 0 → bo = none ∧ cp = 0) ∧ m ≤ k ∧ Sp.AscL (Sp.lists es) ∧ (∀ y, y ∈ Sp.lists es ↔ y ∈ Sp.lists (els.take k)) ∧ Below w.heap.size w wr) (fun _ i _ => n - (intOf i).toNat)
  case atStart => exact ⟨0, none, 0, 0, [], Nat.zero_le _, rfl, rfl, ⟨rfl, by decide, fun h => absurd h (by omega), by simp⟩, Nat.le_refl _, fun _ => ⟨rfl, rfl⟩, Nat.le_refl _, by simp [Sp.AscL, Sp.lists], fun y => by simp [Sp.lists], Below.refl _ _⟩
  case round =>
    obtain ⟨k, bo, m, cp, es, hk, rfl, rfl, hE, hcp, hnc, hmk, hasc, hmem, hbel⟩ := hrel
    have Hmem := Sp.hid hmem
    have Hasc := Sp.hid hasc
    clear hmem hasc
    by_cases hlt : k < n
    · obtain ⟨b, off, x, rfl, hc, hrow, hl, ht⟩ := (h.below hbel).at hlt
      have HI := Sp.hid (refInto_any bo m cp es x wr hE hcp hnc hrow (by omega) Hasc.out)
      have Ht := Sp.hid ht
      have hesl := Sp.hid hE.1
      have hlm := Sp.hid (show x.l ∈ Sp.lists els from List.mem_map_of_mem (List.mem_of_getElem? hl))
      clear hl ht hrow hnc hE
      go_wp2_with fail
      refine HI.out.mono ?_
      rintro e w2 ⟨v, rfl, bo2, m2, cp2, es2, rfl, hE2, hcp2, hm2, hb2, hml, hasc2, hmem2⟩
      have hb3 := hbel.trans (hb2.mono hbel.size)
      have Hmem2 := Sp.hid hmem2
      have Hasc2 := Sp.hid hasc2
      have HE2 := Sp.hid hE2
      have hml2 : m2 ≤ k + 1 := by have := hesl.out; omega
      clear hb2 hmem2 hasc2 hE2 hbel
      go_wp2_with fail
      go_roundw
      case rel =>
        refine ⟨k + 1, bo2, m2, cp2, es2, hlt, by go_num, rfl, HE2.out, hcp2, fun h => absurd h (by omega), hml2, Hasc2.out, fun y => ?_, hb3⟩
        rw [Hmem2.out, Hmem.out, Ht.out]
        simp [Sp.lists]
      case measure => simp [intOf]; omega
    · have hk' : k = n := by omega
      subst hk'
      have hset := Sp.hid (show Sp.SetL (Sp.lists es) (Sp.lists els) from ⟨Hasc.out, fun y => by rw [Hmem.out, List.take_of_length_le (by rw [Hlen.out]; omega)]⟩)
      have HE := Sp.hid hE
      clear hE
      go_wp2_with fail
      go_ret
      exact ⟨_, Sp.lists es, rfl, hset.out, bo, m, cp, rfl, HE.out.row2, hbel⟩

theorem refSorted_any (ao : Option Addr) (n cap : Nat) (els : List Lst) (w : World) (h : Sp.RowE w ao n els) :
    Calls Try.prog 34 #[.slice ao n cap] w (PostW (Sp.lists els) w) := by
  have hn : n ≤ 9223372036854775807 := by have := h.2.1; unfold maxLen at this; exact this
  have Hll := Sp.hid (show (Sp.lists els).length = n by simp [Sp.lists, h.1])
  by_cases h2 : 200 < n
  · go_enter Try.func34, Try.ntmps34
    go_wp2_with fail
    go_ret2
    have hll := Hll.out
    exact ⟨_, [], by rw [if_pos (by omega)]; rfl, by rw [if_pos (by omega)], none, 0, 0, rfl, Sp.row2_nil _, Below.refl _ _⟩
  · have HW := Sp.hid (refWords_any ao n cap els w h)
    have HS := Sp.hid (refShortlex_any ao n cap els w h (by omega))
    obtain ⟨r, hr⟩ : ∃ r, Sp.errWords (Sp.lists els) = r := ⟨_, rfl⟩
    rw [hr] at HW
    have h200 := Sp.hid (show ¬ 200 < (Sp.lists els).length by rw [Hll.out]; exact h2)
    by_cases h0 : r = 0
    · subst h0
      have Hr := Sp.hid hr
      clear hr
      go_enter Try.func34, Try.ntmps34
      go_wp2_with fail
      refine HW.out.mono ?_
      rintro e w1 ⟨rfl, rfl⟩
      go_wp2_with fail
      refine HS.out.mono ?_
      rintro e w2 ⟨v, LL, rfl, hset, bo, m, cp, rfl, hrow, hb⟩
      have Hset := Sp.hid hset
      have Hrow := Sp.hid hrow
      clear hset hrow
      go_wp2_with fail
      go_ret2
      exact ⟨_, LL, by rw [if_neg h200.out, Hr.out]; rfl, by rw [if_neg h200.out, if_pos Hr.out]; exact Hset.out, bo, m, cp, rfl, Hrow.out, hb⟩
    · have h1 : (r == 0) = false := by simpa using h0
      have H0 := Sp.hid h0
      have Hr := Sp.hid hr
      clear hr h0
      go_enter Try.func34, Try.ntmps34
      go_wp2_with fail
      refine HW.out.mono ?_
      rintro e w1 ⟨rfl, rfl⟩
      go_wp2_with fail
      go_ret2
      exact ⟨_, [], by rw [if_neg h200.out, Hr.out]; rfl, by rw [if_neg h200.out, if_neg (by rw [Hr.out]; exact H0.out)], none, 0, 0, rfl, Sp.row2_nil _, Below.refl _ _⟩

set_option maxHeartbeats 1000000 in
theorem sameWords_self (ao bo : Option Addr) (n cap m cbp : Nat) (ll : List (List ByteArray)) (w : World) (h : Sp.Row2 w ao n ll) (g : Sp.Row2 w bo m ll) :
    Calls Try.prog 35 #[.slice ao n cap, .slice bo m cbp] w fun e w' => e = .returned (.bool true) ∧ Below w.heap.size w w' := by
  have hnm : m = n := by rw [← h.1, ← g.1]
  subst hnm
  have hn : m ≤ 9223372036854775807 := by have := h.2.1; unfold maxLen at this; exact this
  go_enter Try.func35, Try.ntmps35
  go_wp2_with fail
  go_loopw [5] (fun i wr => ∃ k : Nat, k ≤ m ∧ i = .int .i64 k ∧ Below w.heap.size w wr) (fun i _ => m - (intOf i).toNat)
  case atStart => exact ⟨0, Nat.zero_le _, rfl, Below.refl _ _⟩
  case round =>
    obtain ⟨k, hk, rfl, hbel⟩ := hrel
    by_cases hlt : k < m
    · obtain ⟨b, off, xo, xn, xc, x, rfl, hc, hx, hl, _⟩ := (h.below hbel).at hlt
      obtain ⟨b2, off2, yo, yn, yc, y, rfl, hc2, hy, hl2, _⟩ := (g.below hbel).at hlt
      rw [hl] at hl2
      cases hl2
      have hcall : ∀ r, Calls Try.prog 25 #[.slice xo xn xc, .slice yo yn yc] (wr.drewN r) fun e w' => e = .returned (.bool true) ∧ ∃ q, w' = (wr.drewN r).drewN q := fun r => by
        have := refSame_any xo yo xn yn xc yc x x (wr.drewN r) hx hy
        rw [Sp.ord_self] at this
        exact this
      have Hcall := Sp.hid hcall
      have Hbel := Sp.hid hbel
      have w5 : (k : Int) < m := by omega
      have w6 : 0 ≤ (k : Int) := by omega
      clear hcall hl hx hy hbel
      go_wp2_with fail
      go_quiet ((exact Calls.quiet_of (Hcall.out _)))
      go_wp2_with fail
      go_roundw
      case rel => exact ⟨k + 1, hlt, by go_num, Hbel.out.trans ⟨rfl, rfl, rfl, Nat.le_refl _, fun _ _ => rfl⟩⟩
      case measure => simp [intOf]; omega
    · have hk' : k = m := by omega
      clear hk'
      go_wp2_with fail
      go_ret
      exact ⟨rfl, hbel⟩

end Go.Proofs.Ytimjgjhdkinhoaa
