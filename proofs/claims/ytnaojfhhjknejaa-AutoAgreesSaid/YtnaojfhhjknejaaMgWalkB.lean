/-
  Walks of the reference's IsSymbol, allSymbols, IsSet, ValidateWord, Validate, and of syms.Validate.
-/
import Derived.Test.YtnaojfhhjknejaaMgWalkA
import Derived.Deep.QuietTactic
import Derived.BigQuiet
set_option linter.unusedVariables false
namespace Go.Proofs.Ytnaojfhhjknejaa
open Go.RowKit

theorem Sp.isSym_bad {s : ByteArray} {k : Nat} (h : k < s.size) (hc : ¬ (33 ≤ (s[k].toNat : Int) ∧ (s[k].toNat : Int) ≤ 126 ∧ (s[k].toNat : Int) ≠ 60 ∧ (s[k].toNat : Int) ≠ 62)) : Sp.isSym s = false := by
  have := Sp.allPlain_take_false s k h (Sp.plain_no hc)
  simp [Sp.isSym, this]

set_option maxHeartbeats 800000 in
theorem validate_any (ao : Option Addr) (n cap : Nat) (l : List ByteArray) (w : World) (h : Sp.Row w ao n l) :
    Calls Try.prog 24 #[.slice ao n cap] w fun e w' => e = .returned (.int .i64 (Sp.errAlpha l)) ∧ w = w' := by
  have hn := h.le
  have HT := Sp.hid (tooLarge_any ao n cap l 40 w h (by omega))
  by_cases hlt : (decide (40 < n) || Sp.anyLong l) = true
  · have hf := Sp.hid (show Sp.errAlpha l = 3 by unfold Sp.errAlpha; rw [if_pos]; rw [h.1]; simpa using hlt)
    go_enter Try.func24, Try.ntmps24
    go_wp2_with fail
    refine HT.out.mono ?_
    rintro e w' ⟨rfl, rfl⟩
    rw [hlt]
    clear hlt
    go_wp2
    go_ret
    exact ⟨by rw [hf.out]; rfl, rfl⟩
  · have Hlt := Sp.hid (show (decide (40 < n) || Sp.anyLong l) = false by simpa using hlt)
    have hf := Sp.hid (show Sp.errAlpha l = if Sp.allSym l = true ∧ Sp.isSet l = true then 0 else 1 by unfold Sp.errAlpha; rw [if_neg]; rw [h.1]; simpa using hlt)
    clear hlt
    go_enter Try.func24, Try.ntmps24
    go_wp2_with fail
    refine HT.out.mono ?_
    rintro e w' ⟨rfl, rfl⟩
    rw [Hlt.out]
    go_wp2_with fail
    go_loop [3, 4, 9] (fun _ _ i => ∃ k : Nat, k ≤ n ∧ i = .int .i64 k ∧ Sp.allSym (l.take k) = true ∧ Sp.isSet (l.take k) = true) (fun _ _ i => n - (intOf i).toNat)
    case atStart => exact ⟨0, Nat.zero_le _, rfl, rfl, rfl⟩
    case round =>
      obtain ⟨k, hk, rfl, hall, hset⟩ := hrel
      have Hall := Sp.hid hall
      have Hset := Sp.hid hset
      clear hall hset
      by_cases hlt : k < n
      · obtain ⟨b0, off0, s0, e0, hc0, hs0, hk0, ht0⟩ := h.at hlt
        cases hb : Sp.isSym s0 with
        | false =>
          subst e0
          have hf' := Sp.hid (show Sp.errAlpha l = 1 by rw [hf.out, if_neg]; intro hh; have h9 : Sp.allSym l = false := Sp.all_false_of hk0 hb; rw [h9] at hh; exact absurd hh.1 (by simp))
          clear hk0 ht0
          go_wp2_with (go_at_call 44; refine (isSymbol_any _ _ (by assumption)).mono ?_; rintro e w' ⟨rfl, rfl⟩)
          go_ret
          exact ⟨by rw [hf'.out]; rfl, rfl⟩
        | true =>
          have hs1 := Sp.hid (show Sp.allSym (l.take (k + 1)) = true by rw [ht0]; unfold Sp.allSym; rw [Sp.all_snoc, show (l.take k).all Sp.isSym = true from Hall.out, hb]; rfl)
          by_cases hk0' : k = 0
          · subst hk0'
            subst e0
            have hs2 := Sp.hid (show Sp.isSet (l.take (0 + 1)) = true from Sp.isSet_short (by simp; omega))
            simp only [Nat.add_zero] at hc0
            clear hk0 ht0
            go_wp2_with (go_at_call 44; refine (isSymbol_any _ _ (by assumption)).mono ?_; rintro e w' ⟨rfl, rfl⟩)
            go_round
            case rel => exact ⟨0 + 1, by omega, by go_num, hs1.out, hs2.out⟩
            case measure => simp [intOf]; omega
          · have hkp : 0 < k := by omega
            obtain ⟨b, off, a, s, e1, ca, cs, ha, hs, hk?, htp, ht⟩ := h.at2 hkp hlt
            obtain rfl : s = s0 := by rw [hk0] at hk?; exact (Option.some.inj hk?).symm
            clear hc0 hs0 hk0 ht0 e0
            subst e1
            have hk1 : decide (0 < (k : Int)) = true := decide_eq_true (by omega)
            cases hb2 : Sp.less a s with
            | false =>
              have hf' := Sp.hid (show Sp.errAlpha l = 1 by rw [hf.out, if_neg]; intro hh; rw [Sp.isSet_bad ht hb2] at hh; exact absurd hh.2 (by simp))
              have hb' : Op.bytesLess a.toList s.toList = false := hb2
              clear hk? htp ht hb2
              go_wp2_with (go_at_call 44; refine (isSymbol_any _ _ (by assumption)).mono ?_; rintro e w' ⟨rfl, rfl⟩)
              go_ret
              exact ⟨by rw [hf'.out]; rfl, rfl⟩
            | true =>
              have hs2 := Sp.hid (show Sp.isSet (l.take (k + 1)) = true by rw [ht, Sp.isSet_snoc, ← htp, Hset.out, hb2]; rfl)
              have hb' : Op.bytesLess a.toList s.toList = true := hb2
              clear hk? htp ht hb2
              go_wp2_with (go_at_call 44; refine (isSymbol_any _ _ (by assumption)).mono ?_; rintro e w' ⟨rfl, rfl⟩)
              go_round
              case rel => exact ⟨k + 1, by omega, by go_num, hs1.out, hs2.out⟩
              case measure => simp [intOf]; omega
      · have hk' : l.take k = l := List.take_of_length_le (by rw [h.1]; omega)
        have hf' := Sp.hid (show Sp.errAlpha l = 0 by
          have h1 := Hall.out
          have h2 := Hset.out
          rw [hk'] at h1 h2
          rw [hf.out, if_pos ⟨h1, h2⟩])
        clear hk'
        go_wp2
        go_ret
        exact ⟨by rw [hf'.out]; rfl, rfl⟩

end Go.Proofs.Ytnaojfhhjknejaa
