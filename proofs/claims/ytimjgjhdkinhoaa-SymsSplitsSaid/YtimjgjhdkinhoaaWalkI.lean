/-
  The walks of Split.
-/
import Derived.Test.YtimjgjhdkinhoaaWalkB
import Derived.Test.YtimjgjhdkinhoaaWalkH
import Derived.Test.YtimjgjhdkinhoaaSpecS
set_option linter.unusedVariables false
namespace Go.Proofs.Ytimjgjhdkinhoaa
open Go.RowKit

theorem hasPrefix_any (s p : ByteArray) (w : World) :
    Calls Try.prog 60 #[.string s, .string p] w fun e w' => e = .returned (.bool (Sp.pre s.data.toList p)) ∧ w = w' :=
  (Try.strings_HasPrefix s p w).mono fun e w' ⟨h1, h2⟩ => ⟨h1, h2.symm⟩

set_option maxHeartbeats 1000000 in
theorem longest_any (s : ByteArray) (ao : Option Addr) (n cap : Nat) (sig : List ByteArray) (w : World) (h : Sp.Row w ao n sig) :
    Calls Try.prog 58 #[.string s, .slice ao n cap] w fun e w' => e = .returned (.string (Sp.longF s.data.toList sig)) ∧ w = w' := by
  have hn := h.le
  go_enter Try.func58, Try.ntmps58
  go_wp2_with fail
  go_loop [5, 7, 10] (fun b _ i => ∃ k : Nat, ∃ t : ByteArray, k ≤ n ∧ i = .int .i64 k ∧ b = .string t ∧ (sig.take k).foldl (Sp.best1 s.data.toList) ⟨#[]⟩ = t ∧ t.size ≤ maxLen) (fun _ _ i => n - (intOf i).toNat)
  case atStart => exact ⟨0, ⟨#[]⟩, Nat.zero_le _, rfl, rfl, rfl, by decide⟩
  case round =>
    obtain ⟨k, t, hk, rfl, rfl, hfo, htz⟩ := hrel
    unfold maxLen at htz
    have Hfo := Sp.hid hfo
    clear hfo
    by_cases hlt : k < n
    · obtain ⟨b, off, x, rfl, hc, hs, hk?, ht⟩ := h.at hlt
      unfold maxLen at hs
      have Ht := Sp.hid (show (sig.take (k + 1)).foldl (Sp.best1 s.data.toList) ⟨#[]⟩ = Sp.best1 s.data.toList t x by rw [ht, List.foldl_append, Hfo.out]; rfl)
      clear hk? ht
      by_cases hz : t.size < x.size
      · cases hp : Sp.pre s.data.toList x with
        | true =>
          have hs1 := Sp.hid (show (sig.take (k + 1)).foldl (Sp.best1 s.data.toList) ⟨#[]⟩ = x by rw [Ht.out, Sp.best1_yes hz hp])
          have Hp := Sp.hid hp
          clear hp
          go_wp2_with fail
          refine (hasPrefix_any s x _).mono ?_
          rintro e w' ⟨rfl, rfl⟩
          rw [Hp.out]
          go_wp2
          go_round
          case rel => exact ⟨k + 1, x, by omega, by go_num, rfl, hs1.out, by unfold maxLen; omega⟩
          case measure => simp [intOf]; omega
        | false =>
          have hs1 := Sp.hid (show (sig.take (k + 1)).foldl (Sp.best1 s.data.toList) ⟨#[]⟩ = t by rw [Ht.out, Sp.best1_no hp])
          have Hp := Sp.hid hp
          clear hp
          go_wp2_with fail
          refine (hasPrefix_any s x _).mono ?_
          rintro e w' ⟨rfl, rfl⟩
          rw [Hp.out]
          go_wp2
          go_round
          case rel => exact ⟨k + 1, t, by omega, by go_num, rfl, hs1.out, by unfold maxLen; omega⟩
          case measure => simp [intOf]; omega
      · have hs1 := Sp.hid (show (sig.take (k + 1)).foldl (Sp.best1 s.data.toList) ⟨#[]⟩ = t by rw [Ht.out, Sp.best1_small hz])
        go_wp2
        go_round
        case rel => exact ⟨k + 1, t, by omega, by go_num, rfl, hs1.out, by unfold maxLen; omega⟩
        case measure => simp [intOf]; omega
    · have hk' : sig.take k = sig := List.take_of_length_le (by rw [h.1]; omega)
      have hf := Sp.hid (show Sp.longF s.data.toList sig = t by have h := Hfo.out; rwa [hk'] at h)
      clear hk'
      go_wp2
      go_ret
      exact ⟨by rw [hf.out]; rfl, rfl⟩

theorem Sp.pre_ext (s x : ByteArray) (k : Nat) (hk : k + x.size ≤ s.size) : ((s.extract k (k + x.size)).toList == x.toList) = Sp.pre (s.data.toList.drop k) x := by
  rw [ByteArray.toList_eq, ByteArray.toList_eq, Sp.ext_data, show k + x.size - k = x.size by omega]
  unfold Sp.pre
  rw [← Lib.hasPrefix_of_take]
  have e1 : x.data.toList.length = x.size := by simp
  have e2 : decide (x.data.toList.length ≤ (s.data.toList.drop k).length) = true := by simp; omega
  rw [e2, e1]; rfl

set_option maxHeartbeats 400000 in
theorem fits_any (s x : ByteArray) (k : Nat) (w : World) (hs : s.size ≤ maxLen) (hx : x.size ≤ maxLen) (hk : k ≤ s.size) :
    Calls Try.prog 59 #[.string s, .int .i64 k, .string x] w fun e w' => e = .returned (.bool (Sp.pre (s.data.toList.drop k) x)) ∧ w = w' := by
  unfold maxLen at hs hx
  by_cases hle : (x.size : Int) ≤ s.size - k
  · have hle' : k + x.size ≤ s.size := by omega
    obtain ⟨t, ht⟩ : ∃ t, s.extract k (k + x.size) = t := ⟨_, rfl⟩
    have hp := Sp.hid (show (t.toList == x.toList) = Sp.pre (s.data.toList.drop k) x by rw [← ht]; exact Sp.pre_ext s x k hle')
    go_enter Try.func59, Try.ntmps59
    go_wp2
    go_ret
    exact ⟨by rw [← hp.out]; rfl, rfl⟩
  · have hp := Sp.hid (show Sp.pre (s.data.toList.drop k) x = false by
      cases hh : Sp.pre (s.data.toList.drop k) x with
      | false => rfl
      | true => have := Sp.pre_le hh; simp at this; omega)
    go_enter Try.func59, Try.ntmps59
    go_wp2
    go_ret
    exact ⟨by rw [hp.out]; rfl, rfl⟩

end Go.Proofs.Ytimjgjhdkinhoaa
