/-
  The walk of the reference's IsLong of several lists.
-/
import Derived.Test.YtpoblcmjfcpiaaaGreatMgReIl
import Derived.Test.YtpoblcmjfcpiaaaGreatMgSpecL
set_option linter.unusedVariables false
set_option linter.unusedSimpArgs false
namespace Go.Proofs.YtpoblcmjfcpiaaaGreat
open Go.RowKit
set_option maxHeartbeats 2000000 in
set_option maxRecDepth 100000 in
theorem isLongR_any (w : World) (bo : Option Addr) (m cap : Nat) (els : List Lst) (h : Sp.RowE w bo m els) :
    Calls Tryz.prog 8 #[.slice bo m cap] w (Nf.SomeBool w) := by
  have hm := h.2.1
  unfold maxLen at hm
  have H := Sp.hid h
  clear h
  go_enter Tryz.func8, Tryz.ntmps8
  go_wp2_with fail
  go_loopw [3, 4, 5] (fun s i _ wr => ∃ (a : Int) (k : Nat), s = .int .i64 a ∧ i = .int .i64 k ∧ k ≤ m ∧ wr = w) (fun _ i _ _ => m - (intOf i).toNat)
  case atStart => exact ⟨_, 0, rfl, rfl, Nat.zero_le _, rfl⟩
  case round =>
    obtain ⟨a, k, rfl, rfl, hk, rfl⟩ := hrel
    rename World => w
    by_cases hk1 : k < m
    · obtain ⟨b, off, x, rfl, ca0, hrx, hx?, _⟩ := H.out.at hk1
      obtain ⟨xo, xn, xc, xl⟩ := x
      simp only at ca0 hrx
      have ca : w.cell? ⟨b, off + k, none⟩ = some (.slice xo xn xc) := ca0
      have hxn := hrx.le
      have HX := Sp.hid hrx
      clear ca0 hrx hx?
      by_cases ha : a ≤ 16384
      · go_wp2_with fail
        go_loopw [3, 5] (fun s j wr => ∃ (a : Int) (l : Nat), s = .int .i64 a ∧ j = .int .i64 l ∧ l ≤ xn ∧ wr = w) (fun _ j _ => xn - (intOf j).toNat)
        case atStart => exact ⟨_, 0, rfl, rfl, Nat.zero_le _, rfl⟩
        case round =>
          clear ha
          obtain ⟨a, l, rfl, rfl, hl, rfl⟩ := hrel
          by_cases hmn : l < xn
          · by_cases ha : a ≤ 16384
            · obtain ⟨b', off', s, rfl, cs, hsz, _, _⟩ := HX.out.at hmn
              go_wp2_with fail
              go_roundw
              case rel => exact ⟨_, l + 1, rfl, by go_num, hmn, trivial⟩
              case measure => simp [intOf]; omega
            · go_wp2_with fail
              go_roundw
              case rel => exact ⟨_, k + 1, rfl, by go_num, by omega, trivial⟩
              case measure => simp [intOf]; omega
          · go_wp2_with fail
            go_roundw
            case rel => exact ⟨_, k + 1, rfl, by go_num, by omega, trivial⟩
            case measure => simp [intOf]; omega
      · go_wp2_with fail
        go_ret
        exact ⟨_, rfl, rfl⟩
    · go_wp2_with fail
      go_ret
      exact ⟨_, rfl, rfl⟩
end Go.Proofs.YtpoblcmjfcpiaaaGreat
