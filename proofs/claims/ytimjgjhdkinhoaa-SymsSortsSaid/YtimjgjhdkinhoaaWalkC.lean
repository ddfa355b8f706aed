/-
  The walk of 'over': what the statements of layer 1 leave out.
-/
import Derived.Test.YtimjgjhdkinhoaaWalkA
set_option linter.unusedVariables false
namespace Go.Proofs.Ytimjgjhdkinhoaa
open Go.RowKit

set_option maxHeartbeats 1000000 in
theorem over_any (bo : Option Addr) (m mcap : Nat) (ll : List (List ByteArray)) (w : World) (h : Sp.Row2 w bo m ll) (hm : m ≤ 4000) :
    Calls Try.prog 13 #[.slice bo m mcap] w fun e w' => e = .returned (.bool (Sp.over ll)) ∧ w = w' := by
  go_enter Try.func13, Try.ntmps13
  go_wp2_with fail
  go_loop [3, 4] (fun s i => ∃ k : Nat, k ≤ m ∧ i = .int .i64 k ∧ s = .int .i64 (Sp.bulks (ll.take k)) ∧ (ll.take k).any Sp.long = false) (fun _ i => m - (intOf i).toNat)
  case atStart => exact ⟨0, Nat.zero_le _, rfl, rfl, rfl⟩
  case round =>
    obtain ⟨k, hk, rfl, rfl, hall⟩ := hrel
    have hbig : Sp.bulks (ll.take k) ≤ 64016000000 := by
      have h1 := Sp.bulks_le _ hall
      have h2 : (ll.take k).length ≤ 4000 := by simp; omega
      have h3 := Nat.mul_le_mul_right 16004000 h2
      omega
    have Hall := Sp.hid hall
    clear hall
    by_cases hlt : k < m
    · obtain ⟨b, off, ao, n, cap, l, rfl, hc, hrow, hk?, ht⟩ := h.at hlt
      have hn := hrow.le
      have hln := Sp.hid hrow.1
      by_cases hlong : 4000 < n
      · have hf := Sp.hid (show Sp.over ll = true by
          have : Sp.long l = true := by simp [Sp.long, hln.out, hlong]
          unfold Sp.over; rw [Sp.any_true_of hk? this]; rfl)
        clear hk? ht
        go_wp2
        go_ret
        exact ⟨by rw [hf.out]; rfl, rfl⟩
      · have Hk? := Sp.hid hk?
        have Ht := Sp.hid ht
        clear hk? ht
        obtain ⟨S0, hS0⟩ : ∃ S0, Sp.bulks (ll.take k) = S0 := ⟨_, rfl⟩
        rw [hS0] at hbig ⊢
        have HS0 := Sp.hid hS0
        clear hS0
        go_wp2_with fail
        go_loop [3, 5] (fun s i => ∃ j : Nat, j ≤ n ∧ i = .int .i64 j ∧ s = .int .i64 ((S0 + Sp.bulk (l.take j) : Nat) : Int) ∧ ((l.take j).any fun s => decide (4000 < s.size)) = false) (fun _ i => n - (intOf i).toNat)
        case atStart => exact ⟨0, Nat.zero_le _, rfl, by simp [Sp.bulk], rfl⟩
        case round =>
          obtain ⟨j, hj, rfl, rfl, hallj⟩ := hrel
          have hbj : Sp.bulk (l.take j) ≤ 16004000 := by
            have h1 := Sp.bulk_le _ hallj
            have h2 : (l.take j).length ≤ 4000 := by simp; omega
            have h3 := Nat.mul_le_mul_right 4001 h2
            omega
          have Hallj := Sp.hid hallj
          clear hallj
          by_cases hjlt : j < n
          · obtain ⟨b2, off2, s, rfl, hc2, hs2, hj?, htj⟩ := hrow.at hjlt
            unfold maxLen at hs2
            by_cases hls : 4000 < s.size
            · have hf := Sp.hid (show Sp.over ll = true by
                have : Sp.long l = true := by
                  unfold Sp.long
                  rw [Sp.any_true_of hj? (by simpa using hls), Bool.or_true]
                unfold Sp.over; rw [Sp.any_true_of Hk?.out this]; rfl)
              clear hj? htj
              go_wp2
              go_ret
              exact ⟨by rw [hf.out]; rfl, rfl⟩
            · have hs1 := Sp.hid (show ((l.take (j + 1)).any fun s => decide (4000 < s.size)) = false by rw [htj, Sp.any_snoc, Hallj.out]; simpa using hls)
              have hb1 := Sp.hid (show Sp.bulk (l.take (j + 1)) = Sp.bulk (l.take j) + (1 + s.size) by rw [htj, Sp.bulk_snoc])
              clear hj? htj
              go_wp2
              go_round
              case rel => exact ⟨j + 1, by omega, by go_num, by rw [hb1.out]; go_num, hs1.out⟩
              case measure => simp [intOf]; omega
          · have hj' : l.take j = l := List.take_of_length_le (by rw [hln.out]; omega)
            have hs1 := Sp.hid (show (ll.take (k + 1)).any Sp.long = false by
              rw [Ht.out, Sp.any_snoc, Hall.out]
              have h9 := Hallj.out
              rw [hj'] at h9
              simp [Sp.long, h9, hln.out]; try omega)
            have hb1 := Sp.hid (show Sp.bulks (ll.take (k + 1)) = S0 + Sp.bulk (l.take j) by rw [Ht.out, Sp.bulks_snoc, HS0.out, hj'])
            clear hj'
            go_wp2
            go_round
            case rel => exact ⟨k + 1, by omega, by go_num, by rw [hb1.out], hs1.out⟩
            case measure => simp [intOf]; omega
    · have hk' : ll.take k = ll := List.take_of_length_le (by rw [h.1]; omega)
      have hf := Sp.hid (show Sp.over ll = decide (16000 < Sp.bulks (ll.take k)) by
        have h := Hall.out
        rw [hk'] at h
        rw [hk']; unfold Sp.over; rw [h]; rfl)
      clear hk'
      go_wp2
      go_ret
      exact ⟨by rw [hf.out]; first | (simp; done) | (simp; omega), rfl⟩

end Go.Proofs.Ytimjgjhdkinhoaa
