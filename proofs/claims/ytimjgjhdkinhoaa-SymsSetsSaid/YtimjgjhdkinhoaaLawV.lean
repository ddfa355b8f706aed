/-
  SymsValidates: its walk.
-/
import Derived.Test.YtimjgjhdkinhoaaWalkC
import Derived.Test.YtimjgjhdkinhoaaWalkD
set_option linter.unusedVariables false
namespace Go.Proofs.Ytimjgjhdkinhoaa
open Go.RowKit

/-- One slice of strings laid into a new slice of slices. -/
theorem row2_one (ao : Option Addr) (n cap : Nat) (l : List ByteArray) (w : World) (h : Sp.Row w ao n l) :
    Sp.Row2 (w.alloc (.cells #[.slice ao n cap] 22)) (some ⟨w.heap.size, 0, none⟩) 1 [l] := by
  have hb : Below w.heap.size w (w.alloc (.cells #[.slice ao n cap] 22)) := (Below.refl _ w).alloc (Nat.le_refl _) _
  refine ⟨rfl, by decide, fun _ => ⟨_, _, rfl, fun i l' hi => ?_⟩⟩
  match i, hi with
  | 0, hi =>
    simp at hi
    subst hi
    exact ⟨ao, n, cap, by simp, h.below hb⟩
  | i + 1, hi => simp at hi

theorem bdrewN {B : Nat} {a w : World} (h : Below B a w) (q : Nat) : Below B a (w.drewN q) := h.trans ⟨rfl, rfl, rfl, Nat.le_refl _, fun _ _ => rfl⟩

set_option maxHeartbeats 1000000 in
theorem symsValidates_any (ao : Option Addr) (n cap : Nat) (l : List ByteArray) (w : World) (h : Sp.Row w ao n l) :
    Calls Try.prog 3 #[.slice ao n cap] w fun e w' => e = .returned (.bool true) ∧ Below w.heap.size w w' := by
  have b0 : Below w.heap.size w (w.alloc (.cells #[.slice ao n cap] 22)) := (Below.refl _ w).alloc (Nat.le_refl _) _
  have HO := Sp.hid (over_any (some ⟨w.heap.size, 0, none⟩) 1 1 [l] _ (row2_one ao n cap l w h) (by omega))
  have hrow := h.below b0
  cases ho : Sp.over [l] with
  | true =>
    have Ho := Sp.hid ho
    clear ho
    go_enter Try.func3, Try.ntmps3
    go_wp2_with fail
    refine HO.out.mono ?_
    rintro e w1 ⟨rfl, rfl⟩
    rw [Ho.out]
    go_wp2_with fail
    refine (known_any _).mono ?_
    rintro e w1 ⟨rfl, hb⟩
    have hb' := b0.trans (hb.mono (by simp))
    clear hb
    go_wp2
    go_ret
    exact ⟨rfl, hb'⟩
  | false =>
    have Ho := Sp.hid ho
    clear ho
    go_enter Try.func3, Try.ntmps3
    go_wp2_with fail
    refine HO.out.mono ?_
    rintro e w1 ⟨rfl, rfl⟩
    rw [Ho.out]
    go_wp2_with fail
    refine (validate_any ao n cap l _ hrow).mono ?_
    rintro e w1 ⟨rfl, rfl⟩
    go_wp2_with fail
    refine (refValidate_any ao n cap l _ hrow).mono ?_
    rintro e w1 ⟨rfl, q, rfl⟩
    have hb1 := bdrewN b0 q
    have hrow1 := h.below hb1
    go_wp2_with fail
    refine (validateWord_any ao n cap l _ hrow1).mono ?_
    rintro e w1 ⟨rfl, rfl⟩
    go_wp2_with fail
    refine (refValidateWord_any ao n cap l _ hrow1).mono ?_
    rintro e w1 ⟨rfl, rfl⟩
    go_wp2_with fail
    refine (known_any _).mono ?_
    rintro e w1 ⟨rfl, hb⟩
    have hb' := hb1.trans (hb.mono hb1.size)
    clear hb
    go_wp2
    go_ret
    exact ⟨rfl, hb'⟩

end Go.Proofs.Ytimjgjhdkinhoaa
