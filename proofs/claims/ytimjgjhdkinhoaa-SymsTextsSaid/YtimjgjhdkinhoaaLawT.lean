/-
  SymsTexts: its walk.
-/
import Derived.Test.YtimjgjhdkinhoaaLawV
import Derived.Test.YtimjgjhdkinhoaaWalkE
set_option linter.unusedVariables false
namespace Go.Proofs.Ytimjgjhdkinhoaa
open Go.RowKit

set_option maxHeartbeats 1000000 in
theorem symsTexts_any (ao : Option Addr) (n cap : Nat) (l : List ByteArray) (w : World) (h : Sp.Row w ao n l) (hcap : n ≤ cap) :
    Calls Try.prog 4 #[.slice ao n cap] w fun e w' => e = .returned (.bool true) ∧ Below w.heap.size w w' := by
  have b0 : Below w.heap.size w (w.alloc (.cells #[.slice ao n cap] 22)) := (Below.refl _ w).alloc (Nat.le_refl _) _
  have HO := Sp.hid (over_any (some ⟨w.heap.size, 0, none⟩) 1 1 [l] _ (row2_one ao n cap l w h) (by omega))
  have hrow := h.below b0
  cases ho : Sp.over [l] with
  | true =>
    have Ho := Sp.hid ho
    clear ho
    go_enter Try.func4, Try.ntmps4
    go_wp2_with fail
    refine HO.out.mono ?_
    rintro e w1 ⟨rfl, rfl⟩
    rw [Ho.out]
    go_wp2_with fail
    refine (known_any _).mono ?_
    rintro e w1 ⟨rfl, hb⟩
    have hb' := b0.trans (hb.mono (by simp))
    clear hb
    go_wp2
    go_ret
    exact ⟨rfl, hb'⟩
  | false =>
    have Ho := Sp.hid ho
    clear ho
    go_enter Try.func4, Try.ntmps4
    go_wp2_with fail
    refine HO.out.mono ?_
    rintro e w1 ⟨rfl, rfl⟩
    rw [Ho.out]
    go_wp2_with fail
    refine (text_any ao n cap l _ hrow).mono ?_
    rintro e w1 ⟨rfl, hb⟩
    have hb1 := b0.trans (hb.mono (by simp))
    have hrow1 := h.below hb1
    clear hb
    go_wp2_with fail
    refine (refText_any ao n cap l _ hrow1).mono ?_
    rintro e w1 ⟨rfl, rfl⟩
    go_wp2_with fail
    refine (raw_any ao n cap l _ hrow1 hcap).mono ?_
    rintro e w2 ⟨rfl, hb⟩
    have hb2 := hb1.trans (hb.mono hb1.size)
    have hrow2 := h.below hb2
    clear hb
    go_wp2_with fail
    refine (refRaw_any ao n cap l _ hrow2).mono ?_
    rintro e w1 ⟨rfl, rfl⟩
    go_wp2_with fail
    refine (known_any _).mono ?_
    rintro e w3 ⟨rfl, hb⟩
    have hb' := hb2.trans (hb.mono hb2.size)
    clear hb
    go_wp2
    go_ret
    exact ⟨rfl, hb'⟩

end Go.Proofs.Ytimjgjhdkinhoaa
