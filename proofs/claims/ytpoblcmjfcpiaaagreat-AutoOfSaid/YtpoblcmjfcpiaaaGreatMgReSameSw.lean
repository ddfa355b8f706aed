/-
  The walks of the reference's orders of lists.
-/
import Derived.Test.YtpoblcmjfcpiaaaGreatRows
import Derived.Test.YtpoblcmjfcpiaaaGreatMgSpecOSpecE
import Derived.WalkKit
import Derived.WalkSpells
import Derived.WalkLawsBesides
import Derived.Deep.QuietTactic
import Derived.BigQuiet
import Derived.Test.YtpoblcmjfcpiaaaGreatMgSpecL
import Derived.Deep.RegionHeld3
import Derived.IntWalk
set_option linter.unusedVariables false
namespace Go.Proofs.YtpoblcmjfcpiaaaGreat
open Go.RowKit

theorem Sp.gt_yes {a b : ByteArray} (h : Sp.less b a = true) : Op.bytesLess a.toList b.toList = false ∧ (a.toList == b.toList) = false := by
  refine ⟨Sp.less_asymm h, ?_⟩
  cases k : a.toList == b.toList with
  | false => rfl
  | true =>
    have e : a.toList = b.toList := by simpa using k
    unfold Sp.less at h
    rw [e] at h
    have := Sp.less_irrefl b
    unfold Sp.less at this
    rw [this] at h; simp at h
theorem Sp.gt_no {a b : ByteArray} (h : Sp.less a b = false) (k : Sp.less b a = false) : Op.bytesLess a.toList b.toList = false ∧ (a.toList == b.toList) = true := by
  have e := Sp.eq_of_not_less h k
  subst e
  exact ⟨Sp.less_irrefl a, by simp⟩

set_option maxHeartbeats 1000000 in
theorem refOrder_any (ao bo : Option Addr) (n m cap cbp : Nat) (a b : List ByteArray) (w : World) (ha : Sp.Row w ao n a) (hb : Sp.Row w bo m b) :
    Calls Tryz.prog 40 #[.slice ao n cap, .slice bo m cbp] w fun e w' => e = .returned (.int .i64 (Sp.ord a b)) ∧ ∃ q, w' = w.drewN q := by
  have hn := ha.le
  have hm := hb.le
  go_enter Tryz.func40, Tryz.ntmps40
  go_wp2_with fail
  go_loopw [5] (fun i wr => ∃ k q : Nat, k ≤ n ∧ k ≤ m ∧ i = .int .i64 k ∧ a.take k = b.take k ∧ wr = w.drewN q) (fun i _ => n - (intOf i).toNat)
  case atStart => exact ⟨0, 0, Nat.zero_le _, Nat.zero_le _, rfl, rfl, rfl⟩
  case round =>
    obtain ⟨k, q, hk1, hk2, rfl, he, rfl⟩ := hrel
    have He := Sp.hid he
    clear he
    by_cases h1 : k < n
    · by_cases h2 : k < m
      · obtain ⟨b1, o1, x, e1, c1, z1, g1, t1⟩ := ha.at h1
        obtain ⟨b2, o2, y, e2, c2, z2, g2, t2⟩ := hb.at h2
        have G1 := Sp.hid g1
        have G2 := Sp.hid g2
        have T1 := Sp.hid t1
        have T2 := Sp.hid t2
        clear g1 g2 t1 t2 ha hb
        unfold maxLen at z1 z2
        subst e1 e2
        cases l1 : Sp.less x y with
        | true =>
          have hf := Sp.hid (Sp.ord_lt He.out G1.out G2.out l1)
          have l1' : Op.bytesLess x.toList y.toList = true := l1
          clear l1
          go_wp2
          go_quiet (fail)
          go_wp2
          go_ret
          exact ⟨by rw [hf.out]; rfl, _, World.drewN_drewN _ _ _⟩
        | false =>
          cases l2 : Sp.less y x with
          | true =>
            have hf := Sp.hid (Sp.ord_gt He.out G1.out G2.out l2)
            obtain ⟨l1', l2'⟩ := Sp.gt_yes l2
            clear l1 l2
            go_wp2
            go_quiet (fail)
            go_wp2
            go_quiet (fail)
            go_wp2
            go_ret
            exact ⟨by rw [hf.out]; rfl, _, by rw [World.drewN_drewN, World.drewN_drewN]⟩
          | false =>
            have hs := Sp.hid (show a.take (k + 1) = b.take (k + 1) by rw [T1.out, T2.out, He.out, Sp.eq_of_not_less l1 l2])
            obtain ⟨l1', l2'⟩ := Sp.gt_no l1 l2
            clear l1 l2
            go_wp2
            go_quiet (fail)
            go_wp2
            go_quiet (fail)
            go_wp2
            go_roundw
            case rel => exact ⟨k + 1, _, by omega, by omega, by go_num, hs.out, rfl⟩
            case measure => simp [intOf]; omega
      · have hf := Sp.hid (Sp.ord_end (k := k) He.out (Or.inr (by rw [hb.1]; omega)))
        have hl1 := ha.1
        have hl2 := hb.1
        rw [hl1, hl2] at hf
        clear hl1 hl2
        by_cases d1 : n < m
        · omega
        · have hf2 := Sp.hid (show Sp.ord a b = 1 by rw [hf.out, if_neg d1, if_pos (by omega)])
          go_wp2
          go_ret
          exact ⟨by rw [hf2.out]; rfl, _, rfl⟩
    · have hf := Sp.hid (Sp.ord_end (k := k) He.out (Or.inl (by rw [ha.1]; omega)))
      have hl1 := ha.1
      have hl2 := hb.1
      rw [hl1, hl2] at hf
      clear hl1 hl2
      by_cases d1 : n < m
      · have hf2 := Sp.hid (show Sp.ord a b = -1 by rw [hf.out, if_pos d1])
        go_wp2
        go_ret
        exact ⟨by rw [hf2.out]; rfl, _, rfl⟩
      · have hf2 := Sp.hid (show Sp.ord a b = 0 by rw [hf.out, if_neg d1, if_neg (by omega)])
        go_wp2
        go_ret
        exact ⟨by rw [hf2.out]; rfl, _, rfl⟩

set_option maxHeartbeats 400000 in
theorem refCompare_any (ao bo : Option Addr) (n m cap cbp : Nat) (a b : List ByteArray) (w : World) (ha : Sp.Row w ao n a) (hb : Sp.Row w bo m b) :
    Calls Tryz.prog 103 #[.slice ao n cap, .slice bo m cbp] w fun e w' => e = .returned (.int .i64 (Sp.cmp a b)) ∧ ∃ q, w' = w.drewN q := by
  have hn := ha.le
  have hm := hb.le
  have hf := Sp.hid (show Sp.cmp a b = if n < m then -1 else if m < n then 1 else Sp.ord a b by unfold Sp.cmp; rw [ha.1, hb.1])
  have HO := Sp.hid (refOrder_any ao bo n m cap cbp a b w ha hb)
  clear ha hb
  by_cases d1 : n < m
  · have hf2 := Sp.hid (show Sp.cmp a b = -1 by rw [hf.out, if_pos d1])
    go_enter Tryz.func103, Tryz.ntmps103
    go_wp2_with fail
    go_ret
    exact ⟨by rw [hf2.out]; rfl, 0, rfl⟩
  · by_cases d2 : m < n
    · have hf2 := Sp.hid (show Sp.cmp a b = 1 by rw [hf.out, if_neg d1, if_pos d2])
      go_enter Tryz.func103, Tryz.ntmps103
      go_wp2_with fail
      go_ret
      exact ⟨by rw [hf2.out]; rfl, 0, rfl⟩
    · have hf2 := Sp.hid (show Sp.cmp a b = Sp.ord a b by rw [hf.out, if_neg d1, if_neg d2])
      go_enter Tryz.func103, Tryz.ntmps103
      go_wp2_with fail
      refine HO.out.mono ?_
      rintro e w' ⟨rfl, q, rfl⟩
      go_wp2
      go_ret
      exact ⟨by rw [hf2.out]; rfl, _, rfl⟩

/-- Same: whether two lists of texts are equal. -/
theorem refSame_any (ao bo : Option Addr) (n m cap cbp : Nat) (a b : List ByteArray) (w : World) (ha : Sp.Row w ao n a) (hb : Sp.Row w bo m b) :
    Calls Tryz.prog 12 #[.slice ao n cap, .slice bo m cbp] w fun e w' => e = .returned (.bool (Sp.ord a b == 0)) ∧ ∃ q, w' = w.drewN q := by
  have HO := Sp.hid (refOrder_any ao bo n m cap cbp a b w ha hb)
  clear ha hb
  go_enter Tryz.func12, Tryz.ntmps12
  go_wp2_with fail
  refine HO.out.mono ?_
  rintro e w' ⟨rfl, q, rfl⟩
  go_wp2
  go_ret
  exact ⟨rfl, _, rfl⟩

end Go.Proofs.YtpoblcmjfcpiaaaGreat

/-
  The walk of SameWords (of ablautref01) over lists that are alike.
-/
set_option linter.unusedVariables false
set_option linter.unusedSimpArgs false
namespace Go.Proofs.YtpoblcmjfcpiaaaGreat
open Go.RowKit
set_option maxHeartbeats 4000000 in
set_option maxRecDepth 100000 in
theorem sameWords_any (w : World) (bo co : Option Addr) (m m' cap ccap : Nat) (els els' : List Lst) (h : Sp.RowE w bo m els) (k : Sp.RowE w co m' els') (he : Sp.lists els = Sp.lists els') :
    Calls Tryz.prog 21 #[.slice bo m cap, .slice co m' ccap] w fun e w' => e = .returned (.bool true) ∧ Below w.heap.size w w' := by
  have hmm : m' = m := by
    have := congrArg List.length he
    simp only [Sp.lists, List.length_map] at this
    rw [h.1, k.1] at this
    exact this.symm
  subst hmm
  have hml := h.2.1
  unfold maxLen at hml
  have Hh := Sp.hid h
  have Hk := Sp.hid k
  have He := Sp.hid he
  clear h k he
  have hne : ((m' : Int) != (m' : Int)) = false := by simp
  go_enter Tryz.func21, Tryz.ntmps21
  go_wp2_with fail
  go_loopw [5] (fun i wr => ∃ (j : Nat), i = .int .i64 j ∧ j ≤ m' ∧ Hid (Below w.heap.size w wr)) (fun i _ => m' - (intOf i).toNat)
  case atStart => exact ⟨0, rfl, Nat.zero_le _, Sp.hid (Below.refl _ _)⟩
  case round =>
    obtain ⟨j, rfl, hj, Hb⟩ := hrel
    by_cases hjm : j < m'
    · obtain ⟨b, off, x, rfl, ca0, hrx, hx?, _⟩ := (Hh.out.below Hb.out).at hjm
      obtain ⟨b', off', y, rfl, cb0, hry, hy?, _⟩ := (Hk.out.below Hb.out).at hjm
      have hxy : x.l = y.l := by
        have h1 : (Sp.lists els)[j]? = some x.l := by simp [Sp.lists, hx?]
        rw [He.out] at h1
        simpa [Sp.lists, hy?] using h1.symm
      obtain ⟨xo, xn, xc, xl⟩ := x
      obtain ⟨yo, yn, yc, yl⟩ := y
      simp only at hxy ca0 cb0 hrx hry
      subst hxy
      have ca : wr.cell? ⟨b, off + j, none⟩ = some (.slice xo xn xc) := ca0
      have cb : wr.cell? ⟨b', off' + j, none⟩ = some (.slice yo yn yc) := cb0
      have i1 : (0 : Int) ≤ (j : Int) := by omega
      have i2 : (j : Int) < (m' : Int) := by omega
      have HSm : Hid (∀ w6 : World, Hid (Below wr.heap.size wr w6) → Calls Tryz.prog 12 #[.slice xo xn xc, .slice yo yn yc] w6 (fun e w' => e = .returned (.bool true) ∧ Hid (Below wr.heap.size wr w'))) := Sp.hid (fun w6 hb6 => by
        refine (refSame_any xo yo xn yn xc yc xl xl w6 (hrx.below hb6.out) (hry.below hb6.out)).mono ?_
        rintro e w' ⟨rfl, q, rfl⟩
        exact ⟨by rw [Sp.ord_self]; rfl, Sp.hid (hb6.out.trans ((Sp.below_of_drew ⟨q, rfl⟩).mono hb6.out.size))⟩)
      have HD : Hid (Below wr.heap.size wr wr.drew) := Sp.hid (Below.refl _ wr).drew
      clear ca0 cb0 hrx hry hx? hy?
      go_wp2_with fail
      go_region_held3 (fun w' => w'.cell? ⟨b, off + j, none⟩ = some (.slice xo xn xc) ∧ w'.cell? ⟨b', off' + j, none⟩ = some (.slice yo yn yc)) (go_keep) ((first
        | (go_at_call 12; refine (HSm.out _ (by assumption)).mono ?_; rintro e w6 ⟨rfl, HC⟩; have f0 : w6.cell? ⟨b, off + j, none⟩ = some (.slice xo xn xc) := (by rw [HC.out.cell (World.block_lt_of_cell? wr _ ca)]; exact ca); have f1 : w6.cell? ⟨b', off' + j, none⟩ = some (.slice yo yn yc) := (by rw [HC.out.cell (World.block_lt_of_cell? wr _ cb)]; exact cb))))
      all_goals
        have Hb6 := Sp.hid (Hb.out.trans (HC.out.mono Hb.out.size))
        go_wp2_with fail
        go_roundw
        case rel => exact ⟨j + 1, by go_num, hjm, Hb6⟩
        case measure => simp [intOf]; omega
    · go_wp2_with fail
      go_ret
      exact ⟨rfl, Hb.out⟩
end Go.Proofs.YtpoblcmjfcpiaaaGreat
