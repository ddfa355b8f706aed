/-
  The walks of the reference's orders of lists.
-/
import Derived.Test.YtnaojfhhjknejaaRows
import Derived.Test.YtnaojfhhjknejaaMgSpecOSpecE
import Derived.WalkKit
import Derived.WalkSpells
import Derived.WalkLawsBesides
import Derived.Deep.QuietTactic
import Derived.BigQuiet
set_option linter.unusedVariables false
namespace Go.Proofs.Ytnaojfhhjknejaa
open Go.RowKit

theorem Sp.gt_yes {a b : ByteArray} (h : Sp.less b a = true) : Op.bytesLess a.toList b.toList = false ∧ (a.toList == b.toList) = false := by
  refine ⟨Sp.less_asymm h, ?_⟩
  cases k : a.toList == b.toList with
  | false => rfl
  | true =>
    have e : a.toList = b.toList := by simpa using k
    unfold Sp.less at h
    rw [e] at h
    have := Sp.less_irrefl b
    unfold Sp.less at this
    rw [this] at h; simp at h
theorem Sp.gt_no {a b : ByteArray} (h : Sp.less a b = false) (k : Sp.less b a = false) : Op.bytesLess a.toList b.toList = false ∧ (a.toList == b.toList) = true := by
  have e := Sp.eq_of_not_less h k
  subst e
  exact ⟨Sp.less_irrefl a, by simp⟩

set_option maxHeartbeats 1000000 in
theorem refOrder_any (ao bo : Option Addr) (n m cap cbp : Nat) (a b : List ByteArray) (w : World) (ha : Sp.Row w ao n a) (hb : Sp.Row w bo m b) :
    Calls Try.prog 20 #[.slice ao n cap, .slice bo m cbp] w fun e w' => e = .returned (.int .i64 (Sp.ord a b)) ∧ ∃ q, w' = w.drewN q := by
  have hn := ha.le
  have hm := hb.le
  go_enter Try.func20, Try.ntmps20
  go_wp2_with fail
  go_loopw [5] (fun i wr => ∃ k q : Nat, k ≤ n ∧ k ≤ m ∧ i = .int .i64 k ∧ a.take k = b.take k ∧ wr = w.drewN q) (fun i _ => n - (intOf i).toNat)
  case atStart => exact ⟨0, 0, Nat.zero_le _, Nat.zero_le _, rfl, rfl, rfl⟩
  case round =>
    obtain ⟨k, q, hk1, hk2, rfl, he, rfl⟩ := hrel
    have He := Sp.hid he
    clear he
    by_cases h1 : k < n
    · by_cases h2 : k < m
      · obtain ⟨b1, o1, x, e1, c1, z1, g1, t1⟩ := ha.at h1
        obtain ⟨b2, o2, y, e2, c2, z2, g2, t2⟩ := hb.at h2
        have G1 := Sp.hid g1
        have G2 := Sp.hid g2
        have T1 := Sp.hid t1
        have T2 := Sp.hid t2
        clear g1 g2 t1 t2 ha hb
        unfold maxLen at z1 z2
        subst e1 e2
        cases l1 : Sp.less x y with
        | true =>
          have hf := Sp.hid (Sp.ord_lt He.out G1.out G2.out l1)
          have l1' : Op.bytesLess x.toList y.toList = true := l1
          clear l1
          go_wp2
          go_quiet (fail)
          go_wp2
          go_ret
          exact ⟨by rw [hf.out]; rfl, _, World.drewN_drewN _ _ _⟩
        | false =>
          cases l2 : Sp.less y x with
          | true =>
            have hf := Sp.hid (Sp.ord_gt He.out G1.out G2.out l2)
            obtain ⟨l1', l2'⟩ := Sp.gt_yes l2
            clear l1 l2
            go_wp2
            go_quiet (fail)
            go_wp2
            go_quiet (fail)
            go_wp2
            go_ret
            exact ⟨by rw [hf.out]; rfl, _, by rw [World.drewN_drewN, World.drewN_drewN]⟩
          | false =>
            have hs := Sp.hid (show a.take (k + 1) = b.take (k + 1) by rw [T1.out, T2.out, He.out, Sp.eq_of_not_less l1 l2])
            obtain ⟨l1', l2'⟩ := Sp.gt_no l1 l2
            clear l1 l2
            go_wp2
            go_quiet (fail)
            go_wp2
            go_quiet (fail)
            go_wp2
            go_roundw
            case rel => exact ⟨k + 1, _, by omega, by omega, by go_num, hs.out, rfl⟩
            case measure => simp [intOf]; omega
      · have hf := Sp.hid (Sp.ord_end (k := k) He.out (Or.inr (by rw [hb.1]; omega)))
        have hl1 := ha.1
        have hl2 := hb.1
        rw [hl1, hl2] at hf
        clear hl1 hl2
        by_cases d1 : n < m
        · omega
        · have hf2 := Sp.hid (show Sp.ord a b = 1 by rw [hf.out, if_neg d1, if_pos (by omega)])
          go_wp2
          go_ret
          exact ⟨by rw [hf2.out]; rfl, _, rfl⟩
    · have hf := Sp.hid (Sp.ord_end (k := k) He.out (Or.inl (by rw [ha.1]; omega)))
      have hl1 := ha.1
      have hl2 := hb.1
      rw [hl1, hl2] at hf
      clear hl1 hl2
      by_cases d1 : n < m
      · have hf2 := Sp.hid (show Sp.ord a b = -1 by rw [hf.out, if_pos d1])
        go_wp2
        go_ret
        exact ⟨by rw [hf2.out]; rfl, _, rfl⟩
      · have hf2 := Sp.hid (show Sp.ord a b = 0 by rw [hf.out, if_neg d1, if_neg (by omega)])
        go_wp2
        go_ret
        exact ⟨by rw [hf2.out]; rfl, _, rfl⟩

/-- Same: whether two lists of texts are equal. -/
theorem refSame_any (ao bo : Option Addr) (n m cap cbp : Nat) (a b : List ByteArray) (w : World) (ha : Sp.Row w ao n a) (hb : Sp.Row w bo m b) :
    Calls Try.prog 10 #[.slice ao n cap, .slice bo m cbp] w fun e w' => e = .returned (.bool (Sp.ord a b == 0)) ∧ ∃ q, w' = w.drewN q := by
  have HO := Sp.hid (refOrder_any ao bo n m cap cbp a b w ha hb)
  clear ha hb
  go_enter Try.func10, Try.ntmps10
  go_wp2_with fail
  refine HO.out.mono ?_
  rintro e w' ⟨rfl, q, rfl⟩
  go_wp2
  go_ret
  exact ⟨rfl, _, rfl⟩

end Go.Proofs.Ytnaojfhhjknejaa
