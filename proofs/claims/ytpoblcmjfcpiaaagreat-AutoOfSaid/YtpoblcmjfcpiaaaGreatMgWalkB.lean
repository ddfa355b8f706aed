/-
  Walks of the reference's IsSymbol, allSymbols, IsSet, ValidateWord, Validate, and of syms.Validate.
-/
import Derived.Test.YtpoblcmjfcpiaaaGreatMgWalkA
import Derived.Deep.QuietTactic
import Derived.BigQuiet
set_option linter.unusedVariables false
namespace Go.Proofs.YtpoblcmjfcpiaaaGreat
open Go.RowKit

theorem Sp.isSym_bad {s : ByteArray} {k : Nat} (h : k < s.size) (hc : ¬ (33 ≤ (s[k].toNat : Int) ∧ (s[k].toNat : Int) ≤ 126 ∧ (s[k].toNat : Int) ≠ 60 ∧ (s[k].toNat : Int) ≠ 62)) : Sp.isSym s = false := by
  have := Sp.allPlain_take_false s k h (Sp.plain_no hc)
  simp [Sp.isSym, this]

set_option maxHeartbeats 400000 in
theorem refIsSymbol_any (s : ByteArray) (w : World) (hs : s.size ≤ maxLen) :
    Calls Tryz.prog 100 #[.string s] w fun e w' => e = .returned (.bool (Sp.isSym s)) ∧ w = w' := by
  unfold maxLen at hs
  go_enter Tryz.func100, Tryz.ntmps100
  go_wp2_with fail
  go_loop [3] (fun i => ∃ k : Nat, k ≤ s.size ∧ i = .int .i64 k ∧ Sp.allPlain (s.data.toList.take k) = true) (fun i => s.size - (intOf i).toNat)
  case atStart => exact ⟨0, Nat.zero_le _, rfl, rfl⟩
  case round =>
    obtain ⟨k, hk, rfl, hall⟩ := hrel
    have Hall := Sp.hid hall
    clear hall
    by_cases hlt : k < s.size
    · by_cases c1 : (s[k].toNat : Int) < 33
      · have hf := Sp.hid (Sp.isSym_bad hlt (by omega))
        go_wp2
        go_ret
        exact ⟨by rw [hf.out]; rfl, rfl⟩
      · by_cases c2 : 126 < (s[k].toNat : Int)
        · have hf := Sp.hid (Sp.isSym_bad hlt (by omega))
          go_wp2
          go_ret
          exact ⟨by rw [hf.out]; rfl, rfl⟩
        · by_cases c3 : (s[k].toNat : Int) = 60
          · have hf := Sp.hid (Sp.isSym_bad hlt (by omega))
            have b3 : ((s[k].toNat : Int) == 60) = true := by simpa using c3
            clear c3
            go_wp2
            go_ret
            exact ⟨by rw [hf.out]; rfl, rfl⟩
          · by_cases c4 : (s[k].toNat : Int) = 62
            · have hf := Sp.hid (Sp.isSym_bad hlt (by omega))
              have b3 : ((s[k].toNat : Int) == 60) = false := by simpa using c3
              have b4 : ((s[k].toNat : Int) == 62) = true := by simpa using c4
              clear c3 c4
              go_wp2
              go_ret
              exact ⟨by rw [hf.out]; rfl, rfl⟩
            · have hs1 := Sp.hid (show Sp.allPlain (s.data.toList.take (k + 1)) = true by rw [Sp.take_snoc s k hlt, Sp.allPlain_snoc, Hall.out, Sp.plain_yes (by omega) (by omega) c3 c4]; rfl)
              have b3 : ((s[k].toNat : Int) == 60) = false := by simpa using c3
              have b4 : ((s[k].toNat : Int) == 62) = false := by simpa using c4
              clear c3 c4
              go_wp2
              go_round
              case rel => exact ⟨k + 1, by omega, by go_num, hs1.out⟩
              case measure => simp [intOf]; omega
    · have hk' : k = s.size := by omega
      have hf := Sp.hid (show Sp.isSym s = (decide (1 ≤ s.size) && decide (s.size ≤ 16)) by
        have h := Hall.out
        rw [hk', List.take_of_length_le (by simp)] at h
        simp [Sp.isSym, h])
      clear hk'
      by_cases d1 : 1 ≤ s.size
      · have e1 : decide (1 ≤ (s.size : Int)) = true := decide_eq_true (by omega)
        by_cases d2 : s.size ≤ 16
        · have e2 : decide ((s.size : Int) ≤ 16) = true := decide_eq_true (by omega)
          have hf2 := Sp.hid (show Sp.isSym s = true by rw [hf.out]; simp [d1, d2])
          go_wp2
          go_ret
          exact ⟨by rw [hf2.out]; first | rfl | (simp; omega), rfl⟩
        · have e2 : decide ((s.size : Int) ≤ 16) = false := decide_eq_false (by omega)
          have hf2 := Sp.hid (show Sp.isSym s = false by rw [hf.out]; simp [d2])
          go_wp2
          go_ret
          exact ⟨by rw [hf2.out]; first | rfl | (simp; omega), rfl⟩
      · have e1 : decide (1 ≤ (s.size : Int)) = false := decide_eq_false (by omega)
        have hf2 := Sp.hid (show Sp.isSym s = false by rw [hf.out]; simp [d1])
        go_wp2
        go_ret
        exact ⟨by rw [hf2.out]; first | rfl | (simp; omega), rfl⟩

set_option maxHeartbeats 400000 in
theorem refAllSymbols_any (ao : Option Addr) (n cap : Nat) (l : List ByteArray) (w : World) (h : Sp.Row w ao n l) :
    Calls Tryz.prog 78 #[.slice ao n cap] w fun e w' => e = .returned (.bool (Sp.allSym l)) ∧ w = w' := by
  have hn := h.le
  go_enter Tryz.func78, Tryz.ntmps78
  go_wp2_with fail
  go_loop [3] (fun i => ∃ k : Nat, k ≤ n ∧ i = .int .i64 k ∧ Sp.allSym (l.take k) = true) (fun i => n - (intOf i).toNat)
  case atStart => exact ⟨0, Nat.zero_le _, rfl, rfl⟩
  case round =>
    obtain ⟨k, hk, rfl, hall⟩ := hrel
    have Hall := Sp.hid hall
    clear hall
    by_cases hlt : k < n
    · obtain ⟨b, off, s, rfl, hc, hs, hk?, ht⟩ := h.at hlt
      cases hb : Sp.isSym s with
      | false =>
        have hf' := Sp.hid (show Sp.allSym l = false from Sp.all_false_of hk? hb)
        clear hk? ht
        go_wp2_with (go_at_call 100; refine (refIsSymbol_any _ _ (by assumption)).mono ?_; rintro e w' ⟨rfl, rfl⟩)
        go_ret
        exact ⟨by rw [hf'.out]; rfl, rfl⟩
      | true =>
        have hs1 := Sp.hid (show Sp.allSym (l.take (k + 1)) = true by rw [ht]; unfold Sp.allSym; rw [Sp.all_snoc, show (l.take k).all Sp.isSym = true from Hall.out, hb]; rfl)
        clear hk? ht
        go_wp2_with (go_at_call 100; refine (refIsSymbol_any _ _ (by assumption)).mono ?_; rintro e w' ⟨rfl, rfl⟩)
        go_round
        case rel => exact ⟨k + 1, by omega, by go_num, hs1.out⟩
        case measure => simp [intOf]; omega
    · have hk' : l.take k = l := List.take_of_length_le (by rw [h.1]; omega)
      have hf' := Sp.hid (show Sp.allSym l = true by have h := Hall.out; rwa [hk'] at h)
      clear hk'
      go_wp2
      go_ret
      exact ⟨by rw [hf'.out]; rfl, rfl⟩

set_option maxHeartbeats 400000 in
theorem refIsSet_any (ao : Option Addr) (n cap : Nat) (l : List ByteArray) (w : World) (h : Sp.Row w ao n l) :
    Calls Tryz.prog 79 #[.slice ao n cap] w fun e w' => e = .returned (.bool (Sp.isSet l)) ∧ ∃ q, w' = w.drewN q := by
  have hn := h.le
  go_enter Tryz.func79, Tryz.ntmps79
  go_wp2_with fail
  go_loopw [3] (fun i wr => ∃ k q : Nat, 1 ≤ k ∧ (k ≤ n ∨ k = 1) ∧ i = .int .i64 k ∧ Sp.isSet (l.take k) = true ∧ wr = w.drewN q) (fun i _ => n - (intOf i).toNat)
  case atStart => exact ⟨1, 0, by omega, by omega, rfl, Sp.isSet_short (by simp; omega), rfl⟩
  case round =>
    obtain ⟨k, q, hk0, hk, rfl, hall, rfl⟩ := hrel
    have Hall := Sp.hid hall
    clear hall
    by_cases hlt : k < n
    · obtain ⟨b, off, a, s, rfl, ca, cs, ha, hs, hk?, ht0, ht⟩ := h.at2 (by omega) hlt
      unfold maxLen at ha hs
      cases hb : Sp.less a s with
      | false =>
        have hf' := Sp.hid (show Sp.isSet l = false from Sp.isSet_bad ht hb)
        have hb' : Op.bytesLess a.toList s.toList = false := hb
        clear hk? ht ht0 hb
        go_wp2
        go_quiet (fail)
        go_wp2
        go_ret
        exact ⟨by rw [hf'.out]; rfl, _, World.drewN_drewN _ _ _⟩
      | true =>
        have hs1 := Sp.hid (show Sp.isSet (l.take (k + 1)) = true by rw [ht, Sp.isSet_snoc, ← ht0, Hall.out, hb]; rfl)
        have hb' : Op.bytesLess a.toList s.toList = true := hb
        clear hk? ht ht0 hb
        go_wp2
        go_quiet (fail)
        go_wp2
        go_roundw
        case rel => exact ⟨k + 1, _, by omega, by omega, by go_num, hs1.out, rfl⟩
        case measure => simp [intOf]; omega
    · have hk' : l.take k = l := List.take_of_length_le (by rw [h.1]; omega)
      have hf' := Sp.hid (show Sp.isSet l = true by have h := Hall.out; rwa [hk'] at h)
      clear hk'
      go_wp2
      go_ret
      exact ⟨by rw [hf'.out]; rfl, _, rfl⟩

set_option maxHeartbeats 400000 in
theorem refValidateWord_any (ao : Option Addr) (n cap : Nat) (l : List ByteArray) (w : World) (h : Sp.Row w ao n l) :
    Calls Tryz.prog 49 #[.slice ao n cap] w fun e w' => e = .returned (.int .i64 (Sp.errWord l)) ∧ w = w' := by
  have hn := h.le
  have hl := Sp.hid h.1
  have hf := Sp.hid (show Sp.errWord l = if 60 < n ∨ Sp.anyLong l = true then 3 else if Sp.allSym l = true then 0 else 1 by unfold Sp.errWord; rw [hl.out])
  by_cases hlt : 60 < n
  · have hf2 := Sp.hid (show Sp.errWord l = 3 by rw [hf.out, if_pos (Or.inl hlt)])
    go_enter Tryz.func49, Tryz.ntmps49
    go_wp2_with fail
    go_ret
    exact ⟨by rw [hf2.out]; rfl, rfl⟩
  · cases ha : Sp.anyLong l with
    | true =>
      have hf2 := Sp.hid (show Sp.errWord l = 3 by rw [hf.out, if_pos (Or.inr ha)])
      go_enter Tryz.func49, Tryz.ntmps49
      go_wp2_with (go_at_call 77; refine (anyLong_any _ _ _ l _ h).mono ?_; rintro e w' ⟨rfl, rfl⟩)
      go_ret
      exact ⟨by rw [hf2.out]; rfl, rfl⟩
    | false =>
      cases hs : Sp.allSym l with
      | true =>
        have hf2 := Sp.hid (show Sp.errWord l = 0 by rw [hf.out, if_neg (by simp [hlt, ha]), if_pos hs])
        go_enter Tryz.func49, Tryz.ntmps49
        go_wp2_with (first | (go_at_call 77; refine (anyLong_any _ _ _ l _ h).mono ?_; rintro e w' ⟨rfl, rfl⟩) | (go_at_call 78; refine (refAllSymbols_any _ _ _ l _ h).mono ?_; rintro e w' ⟨rfl, rfl⟩))
        go_ret
        exact ⟨by rw [hf2.out]; rfl, rfl⟩
      | false =>
        have hf2 := Sp.hid (show Sp.errWord l = 1 by rw [hf.out, if_neg (by simp [hlt, ha]), if_neg (by simp [hs])])
        go_enter Tryz.func49, Tryz.ntmps49
        go_wp2_with (first | (go_at_call 77; refine (anyLong_any _ _ _ l _ h).mono ?_; rintro e w' ⟨rfl, rfl⟩) | (go_at_call 78; refine (refAllSymbols_any _ _ _ l _ h).mono ?_; rintro e w' ⟨rfl, rfl⟩))
        go_ret
        exact ⟨by rw [hf2.out]; rfl, rfl⟩

set_option maxHeartbeats 400000 in
theorem refValidate_any (ao : Option Addr) (n cap : Nat) (l : List ByteArray) (w : World) (h : Sp.Row w ao n l) :
    Calls Tryz.prog 48 #[.slice ao n cap] w fun e w' => e = .returned (.int .i64 (Sp.errAlpha l)) ∧ ∃ q, w' = w.drewN q := by
  have hn := h.le
  have hl := Sp.hid h.1
  have hf := Sp.hid (show Sp.errAlpha l = if 40 < n ∨ Sp.anyLong l = true then 3 else if Sp.allSym l = true ∧ Sp.isSet l = true then 0 else 1 by unfold Sp.errAlpha; rw [hl.out])
  by_cases hlt : 40 < n
  · have hf2 := Sp.hid (show Sp.errAlpha l = 3 by rw [hf.out, if_pos (Or.inl hlt)])
    go_enter Tryz.func48, Tryz.ntmps48
    go_wp2_with fail
    go_ret
    exact ⟨by rw [hf2.out]; rfl, 0, rfl⟩
  · cases ha : Sp.anyLong l with
    | true =>
      have hf2 := Sp.hid (show Sp.errAlpha l = 3 by rw [hf.out, if_pos (Or.inr ha)])
      go_enter Tryz.func48, Tryz.ntmps48
      go_wp2_with (go_at_call 77; refine (anyLong_any _ _ _ l _ h).mono ?_; rintro e w' ⟨rfl, rfl⟩)
      go_ret
      exact ⟨by rw [hf2.out]; rfl, 0, rfl⟩
    | false =>
      cases hs : Sp.allSym l with
      | true =>
        cases ht : Sp.isSet l with
        | true =>
          have hf2 := Sp.hid (show Sp.errAlpha l = 0 by rw [hf.out, if_neg (by simp [hlt, ha]), if_pos ⟨hs, ht⟩])
          go_enter Tryz.func48, Tryz.ntmps48
          go_wp2_with (first | (go_at_call 77; refine (anyLong_any _ _ _ l _ h).mono ?_; rintro e w' ⟨rfl, rfl⟩) | (go_at_call 78; refine (refAllSymbols_any _ _ _ l _ h).mono ?_; rintro e w' ⟨rfl, rfl⟩) | (go_at_call 79; refine (refIsSet_any _ _ _ l _ h).mono ?_; rintro e w' ⟨rfl, q, rfl⟩))
          go_ret
          exact ⟨by rw [hf2.out]; rfl, _, rfl⟩
        | false =>
          have hf2 := Sp.hid (show Sp.errAlpha l = 1 by rw [hf.out, if_neg (by simp [hlt, ha]), if_neg (by simp [ht])])
          go_enter Tryz.func48, Tryz.ntmps48
          go_wp2_with (first | (go_at_call 77; refine (anyLong_any _ _ _ l _ h).mono ?_; rintro e w' ⟨rfl, rfl⟩) | (go_at_call 78; refine (refAllSymbols_any _ _ _ l _ h).mono ?_; rintro e w' ⟨rfl, rfl⟩) | (go_at_call 79; refine (refIsSet_any _ _ _ l _ h).mono ?_; rintro e w' ⟨rfl, q, rfl⟩))
          go_ret
          exact ⟨by rw [hf2.out]; rfl, _, rfl⟩
      | false =>
        have hf2 := Sp.hid (show Sp.errAlpha l = 1 by rw [hf.out, if_neg (by simp [hlt, ha]), if_neg (by simp [hs])])
        go_enter Tryz.func48, Tryz.ntmps48
        go_wp2_with (first | (go_at_call 77; refine (anyLong_any _ _ _ l _ h).mono ?_; rintro e w' ⟨rfl, rfl⟩) | (go_at_call 78; refine (refAllSymbols_any _ _ _ l _ h).mono ?_; rintro e w' ⟨rfl, rfl⟩))
        go_ret
        exact ⟨by rw [hf2.out]; rfl, 0, rfl⟩

set_option maxHeartbeats 800000 in
theorem validate_any (ao : Option Addr) (n cap : Nat) (l : List ByteArray) (w : World) (h : Sp.Row w ao n l) :
    Calls Tryz.prog 65 #[.slice ao n cap] w fun e w' => e = .returned (.int .i64 (Sp.errAlpha l)) ∧ w = w' := by
  have hn := h.le
  have HT := Sp.hid (tooLarge_any ao n cap l 40 w h (by omega))
  by_cases hlt : (decide (40 < n) || Sp.anyLong l) = true
  · have hf := Sp.hid (show Sp.errAlpha l = 3 by unfold Sp.errAlpha; rw [if_pos]; rw [h.1]; simpa using hlt)
    go_enter Tryz.func65, Tryz.ntmps65
    go_wp2_with fail
    refine HT.out.mono ?_
    rintro e w' ⟨rfl, rfl⟩
    rw [hlt]
    clear hlt
    go_wp2
    go_ret
    exact ⟨by rw [hf.out]; rfl, rfl⟩
  · have Hlt := Sp.hid (show (decide (40 < n) || Sp.anyLong l) = false by simpa using hlt)
    have hf := Sp.hid (show Sp.errAlpha l = if Sp.allSym l = true ∧ Sp.isSet l = true then 0 else 1 by unfold Sp.errAlpha; rw [if_neg]; rw [h.1]; simpa using hlt)
    clear hlt
    go_enter Tryz.func65, Tryz.ntmps65
    go_wp2_with fail
    refine HT.out.mono ?_
    rintro e w' ⟨rfl, rfl⟩
    rw [Hlt.out]
    go_wp2_with fail
    go_loop [3, 4, 9] (fun _ _ i => ∃ k : Nat, k ≤ n ∧ i = .int .i64 k ∧ Sp.allSym (l.take k) = true ∧ Sp.isSet (l.take k) = true) (fun _ _ i => n - (intOf i).toNat)
    case atStart => exact ⟨0, Nat.zero_le _, rfl, rfl, rfl⟩
    case round =>
      obtain ⟨k, hk, rfl, hall, hset⟩ := hrel
      have Hall := Sp.hid hall
      have Hset := Sp.hid hset
      clear hall hset
      by_cases hlt : k < n
      · obtain ⟨b0, off0, s0, e0, hc0, hs0, hk0, ht0⟩ := h.at hlt
        cases hb : Sp.isSym s0 with
        | false =>
          subst e0
          have hf' := Sp.hid (show Sp.errAlpha l = 1 by rw [hf.out, if_neg]; intro hh; have h9 : Sp.allSym l = false := Sp.all_false_of hk0 hb; rw [h9] at hh; exact absurd hh.1 (by simp))
          clear hk0 ht0
          go_wp2_with (go_at_call 83; refine (isSymbol_any _ _ (by assumption)).mono ?_; rintro e w' ⟨rfl, rfl⟩)
          go_ret
          exact ⟨by rw [hf'.out]; rfl, rfl⟩
        | true =>
          have hs1 := Sp.hid (show Sp.allSym (l.take (k + 1)) = true by rw [ht0]; unfold Sp.allSym; rw [Sp.all_snoc, show (l.take k).all Sp.isSym = true from Hall.out, hb]; rfl)
          by_cases hk0' : k = 0
          · subst hk0'
            subst e0
            have hs2 := Sp.hid (show Sp.isSet (l.take (0 + 1)) = true from Sp.isSet_short (by simp; omega))
            simp only [Nat.add_zero] at hc0
            clear hk0 ht0
            go_wp2_with (go_at_call 83; refine (isSymbol_any _ _ (by assumption)).mono ?_; rintro e w' ⟨rfl, rfl⟩)
            go_round
            case rel => exact ⟨0 + 1, by omega, by go_num, hs1.out, hs2.out⟩
            case measure => simp [intOf]; omega
          · have hkp : 0 < k := by omega
            obtain ⟨b, off, a, s, e1, ca, cs, ha, hs, hk?, htp, ht⟩ := h.at2 hkp hlt
            obtain rfl : s = s0 := by rw [hk0] at hk?; exact (Option.some.inj hk?).symm
            clear hc0 hs0 hk0 ht0 e0
            subst e1
            have hk1 : decide (0 < (k : Int)) = true := decide_eq_true (by omega)
            cases hb2 : Sp.less a s with
            | false =>
              have hf' := Sp.hid (show Sp.errAlpha l = 1 by rw [hf.out, if_neg]; intro hh; rw [Sp.isSet_bad ht hb2] at hh; exact absurd hh.2 (by simp))
              have hb' : Op.bytesLess a.toList s.toList = false := hb2
              clear hk? htp ht hb2
              go_wp2_with (go_at_call 83; refine (isSymbol_any _ _ (by assumption)).mono ?_; rintro e w' ⟨rfl, rfl⟩)
              go_ret
              exact ⟨by rw [hf'.out]; rfl, rfl⟩
            | true =>
              have hs2 := Sp.hid (show Sp.isSet (l.take (k + 1)) = true by rw [ht, Sp.isSet_snoc, ← htp, Hset.out, hb2]; rfl)
              have hb' : Op.bytesLess a.toList s.toList = true := hb2
              clear hk? htp ht hb2
              go_wp2_with (go_at_call 83; refine (isSymbol_any _ _ (by assumption)).mono ?_; rintro e w' ⟨rfl, rfl⟩)
              go_round
              case rel => exact ⟨k + 1, by omega, by go_num, hs1.out, hs2.out⟩
              case measure => simp [intOf]; omega
      · have hk' : l.take k = l := List.take_of_length_le (by rw [h.1]; omega)
        have hf' := Sp.hid (show Sp.errAlpha l = 0 by
          have h1 := Hall.out
          have h2 := Hset.out
          rw [hk'] at h1 h2
          rw [hf.out, if_pos ⟨h1, h2⟩])
        clear hk'
        go_wp2
        go_ret
        exact ⟨by rw [hf'.out]; rfl, rfl⟩

end Go.Proofs.YtpoblcmjfcpiaaaGreat
