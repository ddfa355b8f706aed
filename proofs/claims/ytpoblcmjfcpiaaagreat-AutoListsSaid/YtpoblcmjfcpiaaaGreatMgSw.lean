/-
  The walk of SameWords (of ablautref01) over lists that are alike.
-/
import Derived.Test.YtpoblcmjfcpiaaaGreatMgReSame
import Derived.Test.YtpoblcmjfcpiaaaGreatMgSpecL
import Derived.Deep.RegionHeld3
import Derived.IntWalk
set_option linter.unusedVariables false
set_option linter.unusedSimpArgs false
namespace Go.Proofs.YtpoblcmjfcpiaaaGreat
open Go.RowKit
set_option maxHeartbeats 4000000 in
set_option maxRecDepth 100000 in
theorem sameWords_any (w : World) (bo co : Option Addr) (m m' cap ccap : Nat) (els els' : List Lst) (h : Sp.RowE w bo m els) (k : Sp.RowE w co m' els') (he : Sp.lists els = Sp.lists els') :
    Calls Tryz.prog 21 #[.slice bo m cap, .slice co m' ccap] w fun e w' => e = .returned (.bool true) ∧ Below w.heap.size w w' := by
  have hmm : m' = m := by
    have := congrArg List.length he
    simp only [Sp.lists, List.length_map] at this
    rw [h.1, k.1] at this
    exact this.symm
  subst hmm
  have hml := h.2.1
  unfold maxLen at hml
  have Hh := Sp.hid h
  have Hk := Sp.hid k
  have He := Sp.hid he
  clear h k he
  have hne : ((m' : Int) != (m' : Int)) = false := by simp
  go_enter Tryz.func21, Tryz.ntmps21
  go_wp2_with fail
  go_loopw [5] (fun i wr => ∃ (j : Nat), i = .int .i64 j ∧ j ≤ m' ∧ Hid (Below w.heap.size w wr)) (fun i _ => m' - (intOf i).toNat)
  case atStart => exact ⟨0, rfl, Nat.zero_le _, Sp.hid (Below.refl _ _)⟩
  case round =>
    obtain ⟨j, rfl, hj, Hb⟩ := hrel
    by_cases hjm : j < m'
    · obtain ⟨b, off, x, rfl, ca0, hrx, hx?, _⟩ := (Hh.out.below Hb.out).at hjm
      obtain ⟨b', off', y, rfl, cb0, hry, hy?, _⟩ := (Hk.out.below Hb.out).at hjm
      have hxy : x.l = y.l := by
        have h1 : (Sp.lists els)[j]? = some x.l := by simp [Sp.lists, hx?]
        rw [He.out] at h1
        simpa [Sp.lists, hy?] using h1.symm
      obtain ⟨xo, xn, xc, xl⟩ := x
      obtain ⟨yo, yn, yc, yl⟩ := y
      simp only at hxy ca0 cb0 hrx hry
      subst hxy
      have ca : wr.cell? ⟨b, off + j, none⟩ = some (.slice xo xn xc) := ca0
      have cb : wr.cell? ⟨b', off' + j, none⟩ = some (.slice yo yn yc) := cb0
      have i1 : (0 : Int) ≤ (j : Int) := by omega
      have i2 : (j : Int) < (m' : Int) := by omega
      have HSm : Hid (∀ w6 : World, Hid (Below wr.heap.size wr w6) → Calls Tryz.prog 12 #[.slice xo xn xc, .slice yo yn yc] w6 (fun e w' => e = .returned (.bool true) ∧ Hid (Below wr.heap.size wr w'))) := Sp.hid (fun w6 hb6 => by
        refine (refSame_any xo yo xn yn xc yc xl xl w6 (hrx.below hb6.out) (hry.below hb6.out)).mono ?_
        rintro e w' ⟨rfl, q, rfl⟩
        exact ⟨by rw [Sp.ord_self]; rfl, Sp.hid (hb6.out.trans ((Sp.below_of_drew ⟨q, rfl⟩).mono hb6.out.size))⟩)
      have HD : Hid (Below wr.heap.size wr wr.drew) := Sp.hid (Below.refl _ wr).drew
      clear ca0 cb0 hrx hry hx? hy?
      go_wp2_with fail
      go_region_held3 (fun w' => w'.cell? ⟨b, off + j, none⟩ = some (.slice xo xn xc) ∧ w'.cell? ⟨b', off' + j, none⟩ = some (.slice yo yn yc)) (go_keep) ((first
        | (go_at_call 12; refine (HSm.out _ (by assumption)).mono ?_; rintro e w6 ⟨rfl, HC⟩; have f0 : w6.cell? ⟨b, off + j, none⟩ = some (.slice xo xn xc) := (by rw [HC.out.cell (World.block_lt_of_cell? wr _ ca)]; exact ca); have f1 : w6.cell? ⟨b', off' + j, none⟩ = some (.slice yo yn yc) := (by rw [HC.out.cell (World.block_lt_of_cell? wr _ cb)]; exact cb))))
      all_goals
        have Hb6 := Sp.hid (Hb.out.trans (HC.out.mono Hb.out.size))
        go_wp2_with fail
        go_roundw
        case rel => exact ⟨j + 1, by go_num, hjm, Hb6⟩
        case measure => simp [intOf]; omega
    · go_wp2_with fail
      go_ret
      exact ⟨rfl, Hb.out⟩
end Go.Proofs.YtpoblcmjfcpiaaaGreat
