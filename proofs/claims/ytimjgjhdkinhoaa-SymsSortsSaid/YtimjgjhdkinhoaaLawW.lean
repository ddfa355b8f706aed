/-
  SymsSorts, walked.
-/
import Derived.Test.YtimjgjhdkinhoaaWalkW
import Derived.Test.YtimjgjhdkinhoaaWalkD
import Derived.Test.YtimjgjhdkinhoaaWalkC
set_option linter.unusedVariables false
namespace Go.Proofs.Ytimjgjhdkinhoaa
open Go.RowKit

set_option maxHeartbeats 2000000 in
set_option maxRecDepth 100000 in
theorem symsSorts_any (ao : Option Addr) (n cap : Nat) (els : List Lst) (w : World) (h : Sp.RowE w ao n els) :
    Calls Try.prog 10 #[.slice ao n cap] w fun e w' => e = .returned (.bool true) ∧ Below w.heap.size w w' := by
  have hn : n ≤ 9223372036854775807 := by have := h.2.1; unfold maxLen at this; exact this
  by_cases h4 : 4000 < n
  · go_enter Try.func10, Try.ntmps10
    go_wp2_with fail
    refine (known_any _).mono ?_
    rintro e w1 ⟨rfl, hb⟩
    go_wp2
    go_ret
    exact ⟨rfl, hb⟩
  · have HO := Sp.hid (over_any ao n cap (Sp.lists els) w h.row2 (by omega))
    cases ho : Sp.over (Sp.lists els) with
    | true =>
      rw [ho] at HO
      clear ho
      go_enter Try.func10, Try.ntmps10
      go_wp2_with fail
      refine HO.out.mono ?_
      rintro e w1 ⟨rfl, rfl⟩
      go_wp2_with fail
      refine (known_any _).mono ?_
      rintro e w1 ⟨rfl, hb⟩
      go_wp2
      go_ret
      exact ⟨rfl, hb⟩
    | false =>
      rw [ho] at HO
      have HS := Sp.hid (sorted_any ao n cap els w h)
      have HR := Sp.hid (fun w1 h1 => refSorted_any ao n cap els w1 h1)
      clear ho
      go_enter Try.func10, Try.ntmps10
      go_wp2_with fail
      refine HO.out.mono ?_
      rintro e w1 ⟨rfl, rfl⟩
      go_wp2_with fail
      refine HS.out.mono ?_
      rintro e w1 ⟨v, LL, rfl, hL, bo, m, cp, rfl, hrow1, hb1⟩
      obtain ⟨r, hr⟩ : ∃ r, (if 200 < (Sp.lists els).length then 3 else Sp.errWords (Sp.lists els)) = r := ⟨_, rfl⟩
      have HL := Sp.hid hL
      have Hr := Sp.hid hr
      rw [hr]
      clear hL hr
      go_wp2_with fail
      refine (HR.out _ (h.below hb1)).mono ?_
      rintro e w2 ⟨v, LL2, rfl, hL2, bo2, m2, cp2, rfl, hrow2, hb2⟩
      have hLL : LL2 = LL := by
        have h1 := HL.out
        by_cases c1 : 200 < (Sp.lists els).length
        · rw [if_pos c1] at h1 hL2; rw [h1, hL2]
        · rw [if_neg c1] at h1 hL2
          by_cases c2 : Sp.errWords (Sp.lists els) = 0
          · rw [if_pos c2] at h1 hL2; exact hL2.unique h1
          · rw [if_neg c2] at h1 hL2; rw [h1, hL2]
      subst hLL
      rw [Hr.out]
      have hb3 := hb1.trans (hb2.mono hb1.size)
      have hrow1b := hrow1.below hb2
      clear hb1 hb2 hrow1 hL2
      go_wp2_with fail
      refine (sameWords_self bo bo2 m cp m2 cp2 LL2 _ hrow1b hrow2).mono ?_
      rintro e w3 ⟨rfl, hbb⟩
      have hb4 := hb3.trans (hbb.mono hb3.size)
      clear hbb hb3 hrow1b hrow2
      go_wp2_with fail
      refine (known_any _).mono ?_
      rintro e w6 ⟨rfl, hbb⟩
      have b6 := hb4.trans (hbb.mono hb4.size)
      clear hbb
      go_wp2
      go_ret
      exact ⟨rfl, b6⟩

end Go.Proofs.Ytimjgjhdkinhoaa
