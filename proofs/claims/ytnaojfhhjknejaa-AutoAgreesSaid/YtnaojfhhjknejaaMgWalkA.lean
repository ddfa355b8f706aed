/-
  Walks of the small functions of package syms and of its reference.
-/
import Derived.Test.YtnaojfhhjknejaaRows
import Derived.Test.YtnaojfhhjknejaaMgSpec
import Derived.WalkKit
import Derived.WalkSpells
import Derived.WalkLawsBesides
set_option linter.unusedVariables false
namespace Go.Proofs.Ytnaojfhhjknejaa
open Go.RowKit

set_option maxHeartbeats 400000 in
theorem isPlain_any (c : Int) (w : World) (h0 : 0 ≤ c) (h1 : c ≤ 255) :
    Calls Try.prog 60 #[.int .u8 c] w fun e w' => e = .returned (.bool (Sp.plainI c)) ∧ w = w' := by
  by_cases a : 33 ≤ c
  · by_cases b : c ≤ 126
    · by_cases d : c = 60
      · subst d
        go_enter Try.func60, Try.ntmps60
        go_wp2
        go_ret
        exact ⟨rfl, rfl⟩
      · have hd : (c != 60) = true := by simpa using d
        by_cases f : c = 62
        · subst f
          go_enter Try.func60, Try.ntmps60
          go_wp2
          go_ret
          exact ⟨rfl, rfl⟩
        · have hf : (c != 62) = true := by simpa using f
          have hp := Sp.plain_yes a b d f
          go_enter Try.func60, Try.ntmps60
          go_wp2
          go_ret
          exact ⟨by rw [hp]; rfl, rfl⟩
    · have hp := Sp.plain_no (c := c) (by omega)
      go_enter Try.func60, Try.ntmps60
      go_wp2
      go_ret
      exact ⟨rfl, rfl⟩
  · have hp := Sp.plain_no (c := c) (by omega)
    go_enter Try.func60, Try.ntmps60
    go_wp2
    go_ret
    exact ⟨rfl, rfl⟩

set_option maxHeartbeats 400000 in
theorem isSymbol_any (s : ByteArray) (w : World) (hs : s.size ≤ maxLen) :
    Calls Try.prog 44 #[.string s] w fun e w' => e = .returned (.bool (Sp.isSym s)) ∧ w = w' := by
  unfold maxLen at hs
  by_cases z : s.size = 0
  · have hp : Sp.isSym s = false := by simp [Sp.isSym]; omega
    have hz : s.toList.isEmpty = true := Sp.empty_of_size z
    clear z
    go_enter Try.func44, Try.ntmps44
    go_wp2
    go_ret
    exact ⟨by first | rfl | (rw [hp]; rfl), rfl⟩
  · have hz : s.toList.isEmpty = false := Sp.not_empty_of_size z
    have hz' : 0 < s.size := by omega
    clear z
    by_cases a : 16 < s.size
    · have hp : Sp.isSym s = false := by simp [Sp.isSym]; omega
      go_enter Try.func44, Try.ntmps44
      go_wp2
      go_ret
      exact ⟨by first | rfl | (rw [hp]; rfl), rfl⟩
    · have hp := Sp.hid (Sp.isSym_of s (by omega) (by omega))
      have hle : s.size ≤ 16 := by omega
      go_enter Try.func44, Try.ntmps44
      go_wp2_with fail
      go_loop [3, 13] (fun _ i => ∃ k : Nat, k ≤ s.size ∧ i = .int .i64 k ∧ Sp.allPlain (s.data.toList.take k) = true) (fun _ i => s.size - (intOf i).toNat)
      case atStart => exact ⟨0, Nat.zero_le _, rfl, rfl⟩
      case round =>
        obtain ⟨k, hk, rfl, hall⟩ := hrel
        have Hall := Sp.hid hall
        clear hall
        by_cases hlt : k < s.size
        · cases hc : Sp.plainI (s[k].toNat : Int) with
          | false =>
            have hf := Sp.hid (Sp.allPlain_take_false s k hlt hc)
            have b1 : (s[k].toNat : Int) ≤ 255 := by have := s[k].toNat_lt; omega
            go_wp2_with (go_at_call 60; refine (isPlain_any _ _ (by omega) (by omega)).mono ?_; rintro e w' ⟨rfl, rfl⟩)
            go_ret
            exact ⟨by rw [hp.out, hf.out]; rfl, rfl⟩
          | true =>
            have hs1 := Sp.hid (show Sp.allPlain (s.data.toList.take (k + 1)) = true by rw [Sp.take_snoc s k hlt, Sp.allPlain_snoc, Hall.out, hc]; rfl)
            have b1 : (s[k].toNat : Int) ≤ 255 := by have := s[k].toNat_lt; omega
            go_wp2_with (go_at_call 60; refine (isPlain_any _ _ (by omega) (by omega)).mono ?_; rintro e w' ⟨rfl, rfl⟩)
            go_round
            case rel => exact ⟨k + 1, by omega, by go_num, hs1.out⟩
            case measure => simp [intOf]; omega
        · have hk' : k = s.size := by omega
          have hf := Sp.hid (show Sp.allPlain s.data.toList = true by have h := Hall.out; rwa [hk', List.take_of_length_le (by simp)] at h)
          clear hk'
          go_wp2
          go_ret
          exact ⟨by rw [hp.out, hf.out]; rfl, rfl⟩


/-- The place of the first string at which p holds, or -1: what slices.IndexFunc hands back, as far as its callers ask. -/
def IdxPost (p : ByteArray → Bool) (l : List ByteArray) (w : World) (e : Ending) (w' : World) : Prop :=
  ∃ i : Int, e = .returned (.int .i64 i) ∧ (decide (0 ≤ i) = l.any p) ∧ w = w'

set_option maxHeartbeats 400000 in
theorem indexFunc_any (p : ByteArray → Bool) (g : Nat) (lb : Array Value) (eg : ∀ args w, (callFunc g args).run Try.prog w = .ok (.enter g args) w)
    (ao : Option Addr) (n cap : Nat) (l : List ByteArray) (w : World) (h : Sp.Row w ao n l)
    (hp : ∀ s, s ∈ l → Calls Try.prog g (#[.string s] ++ lb) w fun e w' => e = .returned (.bool (p s)) ∧ w = w') :
    Calls Try.prog 65 #[.slice ao n cap, .func (.func g) #[] lb] w (IdxPost p l w) := by
  have hn := h.le
  have Hp := Sp.hid hp
  clear hp
  go_enter Try.func65, Try.ntmps65
  go_wp2_with fail
  go_loop [5, 8] (fun _ i => ∃ k : Nat, k ≤ n ∧ i = .int .i64 k ∧ (l.take k).any p = false) (fun _ i => n - (intOf i).toNat)
  case atStart => exact ⟨0, Nat.zero_le _, rfl, rfl⟩
  case round =>
    obtain ⟨k, hk, rfl, hall⟩ := hrel
    have Hall := Sp.hid hall
    clear hall
    by_cases hlt : k < n
    · obtain ⟨b, off, s, rfl, hc, hs, hk?, ht⟩ := h.at hlt
      have hcall := Sp.hid (Hp.out s (List.mem_of_getElem? hk?))
      cases hb : p s with
      | true =>
        have hf := Sp.hid (show l.any p = true from Sp.any_true_of hk? hb)
        have Hb := Sp.hid hb
        clear hk? ht hb
        go_wp2_with fail
        refine hcall.out.mono ?_
        rintro e w' ⟨rfl, rfl⟩
        rw [Hb.out]
        go_wp2
        go_ret
        exact ⟨k, rfl, by rw [hf.out]; simp, rfl⟩
      | false =>
        have hs1 := Sp.hid (show (l.take (k + 1)).any p = false by rw [ht, Sp.any_snoc, Hall.out, hb]; rfl)
        have Hb := Sp.hid hb
        clear hk? ht hb
        go_wp2_with fail
        refine hcall.out.mono ?_
        rintro e w' ⟨rfl, rfl⟩
        rw [Hb.out]
        go_wp2
        go_round
        case rel => exact ⟨k + 1, by omega, by go_num, hs1.out⟩
        case measure => simp [intOf]; omega
    · have hk' : l.take k = l := List.take_of_length_le (by rw [h.1]; omega)
      have hf := Sp.hid (show l.any p = false by have h := Hall.out; rwa [hk'] at h)
      clear hk'
      go_wp2
      go_ret
      exact ⟨-1, rfl, by rw [hf.out]; rfl, rfl⟩

set_option maxHeartbeats 400000 in
theorem containsFunc_any (p : ByteArray → Bool) (g : Nat) (lb : Array Value) (eg : ∀ args w, (callFunc g args).run Try.prog w = .ok (.enter g args) w)
    (ao : Option Addr) (n cap : Nat) (l : List ByteArray) (w : World) (h : Sp.Row w ao n l)
    (hp : ∀ s, s ∈ l → Calls Try.prog g (#[.string s] ++ lb) w fun e w' => e = .returned (.bool (p s)) ∧ w = w') :
    Calls Try.prog 58 #[.slice ao n cap, .func (.func g) #[] lb] w fun e w' => e = .returned (.bool (l.any p)) ∧ w = w' := by
  have Hc := Sp.hid (indexFunc_any p g lb eg ao n cap l w h hp)
  clear hp eg
  go_enter Try.func58, Try.ntmps58
  go_wp2_with fail
  refine Hc.out.mono ?_
  rintro e w' ⟨i, rfl, hi, rfl⟩
  have Hi := Sp.hid hi
  clear hi
  go_wp2
  go_ret
  exact ⟨by rw [← Hi.out]; rfl, rfl⟩

set_option maxHeartbeats 400000 in
theorem tooLarge1_any (s : ByteArray) (w : World) (hs : s.size ≤ maxLen) :
    Calls Try.prog 59 #[.string s] w fun e w' => e = .returned (.bool (decide (16 < s.size))) ∧ w = w' := by
  unfold maxLen at hs
  go_enter Try.func59, Try.ntmps59
  go_wp2
  go_ret
  exact ⟨by simp; omega, rfl⟩

theorem tooLarge1_at (l : List ByteArray) (w : World) (h : ∀ s ∈ l, s.size ≤ maxLen) : ∀ s, s ∈ l → Calls Try.prog 59 (#[.string s] ++ #[]) w fun e w' => e = .returned (.bool (decide (16 < s.size))) ∧ w = w' := by
  intro s hs
  rw [Array.append_empty]
  exact tooLarge1_any s w (h s hs)

theorem tooLarge1_enters : ∀ args w, (callFunc 59 args).run Try.prog w = .ok (.enter 59 args) w :=
  fun args w => by simp [go_sem]

set_option maxHeartbeats 400000 in
theorem tooLarge_any (ao : Option Addr) (n cap : Nat) (l : List ByteArray) (m : Nat) (w : World) (h : Sp.Row w ao n l) (hm : m ≤ 100) :
    Calls Try.prog 43 #[.slice ao n cap, .int .i64 m] w fun e w' => e = .returned (.bool (decide (m < n) || Sp.anyLong l)) ∧ w = w' := by
  have hn := h.le
  by_cases hlt : m < n
  · go_enter Try.func43, Try.ntmps43
    go_wp2_with fail
    go_ret
    exact ⟨by simp [hlt], rfl⟩
  · have hf := Sp.hid (show (decide (m < n) || Sp.anyLong l) = Sp.anyLong l by simp [hlt])
    go_enter Try.func43, Try.ntmps43
    go_wp2_with fail
    refine (containsFunc_any (fun s => decide (16 < s.size)) 59 #[] tooLarge1_enters ao n cap l w h (tooLarge1_at l w h.2.2.2)).mono ?_
    rintro e w' ⟨rfl, rfl⟩
    go_wp2
    go_ret
    exact ⟨by rw [hf.out]; rfl, rfl⟩


set_option maxHeartbeats 400000 in
theorem validateWord_any (ao : Option Addr) (n cap : Nat) (l : List ByteArray) (w : World) (h : Sp.Row w ao n l) :
    Calls Try.prog 29 #[.slice ao n cap] w fun e w' => e = .returned (.int .i64 (Sp.errWord l)) ∧ w = w' := by
  have hn := h.le
  have hT := tooLarge_any ao n cap l 60 w h (by omega)
  have HT := Sp.hid hT
  clear hT
  by_cases hlt : (decide (60 < n) || Sp.anyLong l) = true
  · have hf := Sp.hid (show Sp.errWord l = 3 by unfold Sp.errWord; rw [if_pos]; rw [h.1]; simpa using hlt)
    go_enter Try.func29, Try.ntmps29
    go_wp2_with fail
    refine HT.out.mono ?_
    rintro e w' ⟨rfl, rfl⟩
    rw [hlt]
    clear hlt
    go_wp2
    go_ret
    exact ⟨by rw [hf.out]; rfl, rfl⟩
  · have Hlt := Sp.hid (show (decide (60 < n) || Sp.anyLong l) = false by simpa using hlt)
    have hf := Sp.hid (show Sp.errWord l = if Sp.allSym l = true then 0 else 1 by unfold Sp.errWord; rw [if_neg]; rw [h.1]; simpa using hlt)
    clear hlt
    go_enter Try.func29, Try.ntmps29
    go_wp2_with fail
    refine HT.out.mono ?_
    rintro e w' ⟨rfl, rfl⟩
    rw [Hlt.out]
    go_wp2_with fail
    go_loop [4, 9] (fun _ i => ∃ k : Nat, k ≤ n ∧ i = .int .i64 k ∧ Sp.allSym (l.take k) = true) (fun _ i => n - (intOf i).toNat)
    case atStart => exact ⟨0, Nat.zero_le _, rfl, rfl⟩
    case round =>
      obtain ⟨k, hk, rfl, hall⟩ := hrel
      have Hall := Sp.hid hall
      clear hall
      by_cases hlt : k < n
      · obtain ⟨b, off, s, rfl, hc, hs, hk?, ht⟩ := h.at hlt
        cases hb : Sp.isSym s with
        | false =>
          have hf' := Sp.hid (show Sp.allSym l = false from Sp.all_false_of hk? hb)
          clear hk? ht
          go_wp2_with (go_at_call 44; refine (isSymbol_any _ _ (by assumption)).mono ?_; rintro e w' ⟨rfl, rfl⟩)
          go_ret
          exact ⟨by rw [hf.out, hf'.out]; rfl, rfl⟩
        | true =>
          have hs1 := Sp.hid (show Sp.allSym (l.take (k + 1)) = true by rw [ht]; unfold Sp.allSym; rw [Sp.all_snoc, show (l.take k).all Sp.isSym = true from Hall.out, hb]; rfl)
          clear hk? ht
          go_wp2_with (go_at_call 44; refine (isSymbol_any _ _ (by assumption)).mono ?_; rintro e w' ⟨rfl, rfl⟩)
          go_round
          case rel => exact ⟨k + 1, by omega, by go_num, hs1.out⟩
          case measure => simp [intOf]; omega
      · have hk' : l.take k = l := List.take_of_length_le (by rw [h.1]; omega)
        have hf' := Sp.hid (show Sp.allSym l = true by have h := Hall.out; rwa [hk'] at h)
        clear hk'
        go_wp2
        go_ret
        exact ⟨by rw [hf.out, hf'.out]; rfl, rfl⟩

end Go.Proofs.Ytnaojfhhjknejaa
