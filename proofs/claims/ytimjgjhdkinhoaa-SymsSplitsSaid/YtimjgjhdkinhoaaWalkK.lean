/-
  The walks of Cuts.
-/
import Derived.Test.YtimjgjhdkinhoaaWalkJ
import Derived.Test.YtimjgjhdkinhoaaSpecC
import Derived.RegionTactic
set_option linter.unusedVariables false
namespace Go.Proofs.Ytimjgjhdkinhoaa
open Go.RowKit

theorem intInfo : (Try.prog.info? 3).map (fun i => (i.zero, i.size, i.bytes)) = some (some (.int .i64 0), 1, 8) := by kernel_rfl

set_option maxHeartbeats 4000000 in
set_option maxRecDepth 100000 in
theorem cuts_any (s : ByteArray) (hs : s.size ≤ maxLen) (ao : Option Addr) (n cap : Nat) (sig : List ByteArray) (w : World) (h : Sp.Row w ao n sig) :
    Calls Try.prog 29 #[.string s, .slice ao n cap] w fun e w' => e = .returned (.tuple #[.int .i64 (Sp.cutsOf s.data.toList sig).1, .int .i64 (Sp.cutsOf s.data.toList sig).2]) ∧ Below w.heap.size w w' := by
  unfold maxLen at hs
  have hn := h.le
  have hlen : s.data.toList.length = s.size := by simp
  have HV := Sp.hid (validate_any ao n cap sig w h)
  by_cases he : Sp.errAlpha sig = 0
  · have hb0 : (Sp.errAlpha sig != 0) = false := by rw [he]; rfl
    by_cases h4 : 400 < s.size
    · have hf := Sp.hid (show Sp.cutsOf s.data.toList sig = (0, 3) by unfold Sp.cutsOf; rw [if_pos he, if_pos (by omega)])
      clear he hlen
      go_enter Try.func29, Try.ntmps29
      go_wp2_with fail
      refine HV.out.mono ?_
      rintro e w1 ⟨rfl, rfl⟩
      go_wp2
      go_ret2
      exact ⟨by rw [hf.out]; rfl, Below.refl _ _⟩
    · obtain ⟨hsz40, hsm, hsy, _⟩ := Sp.alpha_small he
      have Hsm := Sp.hid hsm
      have Hsy := Sp.hid (show ∀ x ∈ sig, 1 ≤ x.size from fun x hx => by
        unfold Sp.allSym at hsy
        rw [List.all_eq_true] at hsy
        have := hsy x hx
        simp only [Sp.isSym, Bool.and_eq_true, decide_eq_true_eq] at this
        exact this.1.1)
      have hf := Sp.hid (show Sp.cutsOf s.data.toList sig = (Sp.wayAt sig s.data.toList 0, 0) by unfold Sp.cutsOf; rw [if_pos he, if_neg (by omega)])
      have Hend := Sp.hid (Sp.wayAt_end sig s.data.toList)
      rw [hlen] at Hend
      obtain ⟨i0, hi, hz0, hz1, hz2⟩ := info_parts intInfo
      have Hlen := Sp.hid hlen
      clear hlen hsm hsy he hsz40
      go_enter Try.func29, Try.ntmps29
      go_wp2_with fail
      refine HV.out.mono ?_
      rintro e w1 ⟨rfl, rfl⟩
      go_wp2_with (at_make; refine wpList_make_full _ rfl _ _ 67 rfl w.heap.size 3 i0 (.int .i64 0) 1 Try.underlying67 hi hz0 hz1 _ _ _ _ (s.size + 1) rfl rfl ?c1 ?c2 ?c3 ?c4 ?c5 ?_)
      case c1 => omega
      case c2 => omega
      case c3 => rw [hz2]; omega
      case c4 => unfold maxLen; omega
      case c5 => exact Nat.le_refl _
      intro w1 hown hgrow
      obtain ⟨hA, hgB⟩ := Sp.Ints.of_own hown (fun i hi => Sp.made_zero _ i hi)
      have hb1 : Below w.heap.size w w1 := (Below.refl _ _).grown hgrow (Nat.le_refl _) (fun k hk => by cases hk)
      have HA := Sp.hid hA
      clear hown hgrow
      obtain ⟨g, hg⟩ : ∃ g, w.heap.size = g := ⟨_, rfl⟩
      have Hg := Sp.hid hg
      rw [hg] at HA hgB hb1 ⊢
      clear hg
      have hfz := HA.out.free s.size
      have hcl := HA.out.cell (i := s.size) (by omega)
      have hA1 := Sp.hid ((HA.out.set (i := s.size) 1).congr (B := fun i => if i = s.size then 1 else 0) (fun i _ => rfl))
      have hb2 : Below g w (w1.setCell ⟨g, s.size, none⟩ (.int .i64 1)) := hb1.setCell (p := ⟨g, s.size, none⟩) (Nat.le_refl _) _
      clear hA hgB
      go_wp2_with fail
      go_loopw [8, 10, 36] (fun i _ _ wr => ∃ k : Nat, ∃ A : Nat → Int, k ≤ s.size ∧ i = .int .i64 ((k : Int) - 1) ∧ Sp.Ints wr g (s.size + 1) A ∧ (∀ i : Nat, k ≤ i → i ≤ s.size → A i = Sp.wayAt sig s.data.toList i) ∧ (∀ i : Nat, i < k → A i = 0) ∧ Below g w wr) (fun i _ _ _ => (intOf i + 1).toNat)
      case atStart => exact ⟨s.size, _, Nat.le_refl _, rfl, hA1.out, fun i h1 h2 => by rw [show i = s.size by omega, if_pos rfl, Hend.out], fun i h1 => if_neg (by omega), hb2⟩
      case round =>
        obtain ⟨k, A, hk, rfl, hI, hV, h0, hbel⟩ := hrel
        have HI := Sp.hid hI
        have HV2 := Sp.hid hV
        have H0 := Sp.hid h0
        clear hI hV h0 hb1 hb2 hfz hcl
        by_cases hk0 : k = 0
        · subst hk0
          have hc0 := HI.out.cell (i := 0) (by omega)
          rw [HV2.out 0 (by omega) (by omega)] at hc0
          have hb := hbel.mono (Nat.le_of_eq Hg.out)
          go_wp2
          go_ret2
          exact ⟨by rw [hf.out]; rfl, hb⟩
        · obtain ⟨j, rfl⟩ : ∃ j, k = j + 1 := ⟨k - 1, by omega⟩
          rw [show (((j + 1 : Nat) : Int) - 1) = (j : Int) by omega]
          have hb := hbel.mono (Nat.le_of_eq Hg.out)
          have hrow := h.below hb
          obtain ⟨wo, rfl⟩ : ∃ wo : World, wo = wr := ⟨_, rfl⟩
          go_wp2_with fail
          go_loopw [10, 36] (fun _ i wr2 => ∃ m : Nat, ∃ A : Nat → Int, m ≤ n ∧ i = .int .i64 m ∧ Sp.Ints wr2 g (s.size + 1) A ∧ (∀ i : Nat, j < i → i ≤ s.size → A i = Sp.wayAt sig s.data.toList i) ∧ (∀ i : Nat, i < j → A i = 0) ∧ A j = (sig.take m).foldl (Sp.cut1 (s.data.toList.drop j) (Sp.ways sig (s.data.toList.drop (j + 1)))) 0 ∧ Below g w wr2) (fun _ i _ => n - (intOf i).toNat)
          case atStart => exact ⟨0, A, Nat.zero_le _, rfl, HI.out, fun i h1 h2 => HV2.out i (by omega) h2, fun i h1 => H0.out i (by omega), H0.out j (by omega), hbel⟩
          case round =>
            obtain ⟨m, A2, hm, rfl, hI2, hV3, h02, hAj, hbel2⟩ := hrel
            have HI2 := Sp.hid hI2
            have HV3 := Sp.hid hV3
            have H02 := Sp.hid h02
            have HAj := Sp.hid hAj
            clear hI2 hV3 h02 hAj
            by_cases hmlt : m < n
            · have hrow2 := h.below (hbel2.mono (Nat.le_of_eq Hg.out))
              obtain ⟨b2, off2, x, rfl, hc, hs2, hm?, htm⟩ := hrow2.at hmlt
              have hx16 : x.size ≤ 16 := Hsm.out x (List.mem_of_getElem? hm?)
              have hx1 : 1 ≤ x.size := Hsy.out x (List.mem_of_getElem? hm?)
              have Htm := Sp.hid htm
              clear hm? htm hs2 hrow2 hrow
              obtain ⟨y, hy⟩ : ∃ y, s.extract j s.size = y := ⟨_, rfl⟩
              have hyd := Sp.hid (show y.data.toList = s.data.toList.drop j by rw [← hy]; exact Lib.extract_to_end s j)
              have HP := Sp.hid (hasPrefix_any y x wr)
              rw [hyd.out] at HP
              cases hp : Sp.pre (s.data.toList.drop j) x with
              | false =>
                rw [hp] at HP
                have hn1 := Sp.hid (show A2 j = (sig.take (m + 1)).foldl (Sp.cut1 (s.data.toList.drop j) (Sp.ways sig (s.data.toList.drop (j + 1)))) 0 by rw [Htm.out, List.foldl_append, ← HAj.out]; exact (Sp.cut1_no hp).symm)
                clear hp
                go_wp2_with fail
                refine HP.out.mono ?_
                rintro e w5 ⟨rfl, rfl⟩
                go_wp2
                go_roundw
                case rel => exact ⟨m + 1, A2, by omega, by go_num, HI2.out, HV3.out, H02.out, hn1.out, hbel2⟩
                case measure => simp [intOf]; omega
              | true =>
                rw [hp] at HP
                obtain ⟨hcy, hjx⟩ := Sp.cut1_yes (sig := sig) (acc := A2 j) hx1 hp (by rw [Hlen.out]; omega)
                rw [Hlen.out] at hjx
                have hn1 := Sp.hid (show Sp.cap1 (A2 j + Sp.wayAt sig s.data.toList (j + x.size)) = (sig.take (m + 1)).foldl (Sp.cut1 (s.data.toList.drop j) (Sp.ways sig (s.data.toList.drop (j + 1)))) 0 by rw [Htm.out, List.foldl_append, ← HAj.out]; exact hcy.symm)
                have bd1 := Sp.fold_bd (l := s.data.toList.drop j) (Sp.ways_bd sig (s.data.toList.drop (j + 1))) (sig.take m) 0 (by omega) (by omega)
                rw [← HAj.out] at bd1
                have bd2 := Sp.wayAt_bd sig s.data.toList (j + x.size)
                have ca := HI2.out.cell (i := j) (by omega)
                have cb := HI2.out.cell (i := j + x.size) (by omega)
                rw [HV3.out (j + x.size) (by omega) (by omega)] at cb
                have cf := HI2.out.free j
                obtain ⟨a, ha⟩ : ∃ a, A2 j = a := ⟨_, rfl⟩
                obtain ⟨c, hcc⟩ : ∃ c, Sp.wayAt sig s.data.toList (j + x.size) = c := ⟨_, rfl⟩
                rw [ha] at ca bd1 hn1
                rw [hcc] at cb bd2 hn1
                obtain ⟨bd1, bd1'⟩ := bd1
                obtain ⟨bd2, bd2'⟩ := bd2
                clear hp hcy ha hcc
                have hs9 : ∀ v : Int, v = Sp.cap1 (a + c) → Hid (∃ A3 : Nat → Int, Sp.Ints (wr.setCell ⟨g, j, none⟩ (.int .i64 v)) g (s.size + 1) A3 ∧ (∀ i : Nat, j < i → i ≤ s.size → A3 i = Sp.wayAt sig s.data.toList i) ∧ (∀ i : Nat, i < j → A3 i = 0) ∧ A3 j = (sig.take (m + 1)).foldl (Sp.cut1 (s.data.toList.drop j) (Sp.ways sig (s.data.toList.drop (j + 1)))) 0 ∧ Below g w (wr.setCell ⟨g, j, none⟩ (.int .i64 v))) := by
                  intro v hv
                  refine ⟨_, HI2.out.set (i := j) v, fun i h1 h2 => ?_, fun i h1 => ?_, ?_, hbel2.setCell (p := ⟨g, j, none⟩) (Nat.le_refl _) _⟩
                  · rw [if_neg (by omega)]; exact HV3.out i h1 h2
                  · rw [if_neg (by omega)]; exact H02.out i h1
                  · rw [if_pos rfl, hv]; exact hn1.out
                have Hs9 := Sp.hid hs9
                clear hs9
                have H9 := Hs9.out (min (a + c) 1000000000) (Sp.cap1_min _)
                go_wp2_with fail
                refine HP.out.mono ?_
                rintro e w5 ⟨rfl, rfl⟩
                go_wp2
                go_region
                go_wp2
                go_roundw
                case rel =>
                  obtain ⟨A3, q1, q2, q3, q4, q5⟩ := H9.out
                  exact ⟨m + 1, A3, by omega, by go_num, q1, q2, q3, q4, q5.drew⟩
                case measure => simp [intOf]; omega
            · have hm' : sig.take m = sig := List.take_of_length_le (by rw [h.1]; omega)
              have hfin := Sp.hid (show A2 j = Sp.wayAt sig s.data.toList j by
                rw [HAj.out, hm', Sp.wayAt_step sig s.data.toList j (by rw [Hlen.out]; omega)])
              clear hm' hrow
              go_wp2
              go_roundw
              case rel => exact ⟨j, A2, by omega, by first | rfl | go_num, HI2.out, fun i h1 h2 => by
                by_cases hij : i = j
                · rw [hij]; exact hfin.out
                · exact HV3.out i (by omega) h2, H02.out, hbel2⟩
              case measure => first | (simp [intOf]; done) | (simp [intOf]; omega)
  · have hf := Sp.hid (show Sp.cutsOf s.data.toList sig = (0, Sp.errAlpha sig) by unfold Sp.cutsOf; rw [if_neg he])
    have hb0 : (Sp.errAlpha sig != 0) = true := by simpa using he
    clear he hlen
    go_enter Try.func29, Try.ntmps29
    go_wp2_with fail
    refine HV.out.mono ?_
    rintro e w1 ⟨rfl, rfl⟩
    go_wp2
    go_ret2
    exact ⟨by rw [hf.out]; rfl, Below.refl _ _⟩

set_option maxHeartbeats 4000000 in
set_option maxRecDepth 100000 in
theorem refCuts_any (s : ByteArray) (hs : s.size ≤ maxLen) (ao : Option Addr) (n cap : Nat) (sig : List ByteArray) (w : World) (h : Sp.Row w ao n sig) :
    Calls Try.prog 30 #[.string s, .slice ao n cap] w fun e w' => e = .returned (.tuple #[.int .i64 (Sp.cutsOf s.data.toList sig).1, .int .i64 (Sp.cutsOf s.data.toList sig).2]) ∧ Below w.heap.size w w' := by
  unfold maxLen at hs
  have hn := h.le
  have hlen : s.data.toList.length = s.size := by simp
  have HV := Sp.hid (refValidate_any ao n cap sig w h)
  by_cases he : Sp.errAlpha sig = 0
  · have hb0 : (Sp.errAlpha sig != 0) = false := by rw [he]; rfl
    by_cases h4 : 400 < s.size
    · have hf := Sp.hid (show Sp.cutsOf s.data.toList sig = (0, 3) by unfold Sp.cutsOf; rw [if_pos he, if_pos (by omega)])
      clear he hlen
      go_enter Try.func30, Try.ntmps30
      go_wp2_with fail
      refine HV.out.mono ?_
      rintro e w1 ⟨rfl, hq⟩
      have hb := Sp.below_of_drew hq
      clear hq
      go_wp2
      go_ret2
      exact ⟨by rw [hf.out]; rfl, hb⟩
    · obtain ⟨hsz40, hsm, hsy, _⟩ := Sp.alpha_small he
      have Hsm := Sp.hid hsm
      have Hsy := Sp.hid (show ∀ x ∈ sig, 1 ≤ x.size from fun x hx => by
        unfold Sp.allSym at hsy
        rw [List.all_eq_true] at hsy
        have := hsy x hx
        simp only [Sp.isSym, Bool.and_eq_true, decide_eq_true_eq] at this
        exact this.1.1)
      have hf := Sp.hid (show Sp.cutsOf s.data.toList sig = (Sp.wayAt sig s.data.toList 0, 0) by unfold Sp.cutsOf; rw [if_pos he, if_neg (by omega)])
      have Hend := Sp.hid (Sp.wayAt_end sig s.data.toList)
      rw [hlen] at Hend
      obtain ⟨i0, hi, hz0, hz1, hz2⟩ := info_parts intInfo
      have Hlen := Sp.hid hlen
      clear hlen hsm hsy he hsz40
      go_enter Try.func30, Try.ntmps30
      go_wp2_with fail
      refine HV.out.mono ?_
      rintro e w0 ⟨rfl, hq⟩
      have hbw := Sp.below_of_drew hq
      clear hq
      go_wp2_with (at_make; refine wpList_make_full _ rfl _ _ 67 rfl w0.heap.size 3 i0 (.int .i64 0) 1 Try.underlying67 hi hz0 hz1 _ _ _ _ (s.size + 1) rfl rfl ?c1 ?c2 ?c3 ?c4 ?c5 ?_)
      case c1 => omega
      case c2 => omega
      case c3 => rw [hz2]; omega
      case c4 => unfold maxLen; omega
      case c5 => exact Nat.le_refl _
      intro w1 hown hgrow
      obtain ⟨hA, hgB⟩ := Sp.Ints.of_own hown (fun i hi => Sp.made_zero _ i hi)
      have hsz := hbw.size
      have hb1 : Below w.heap.size w w1 := hbw.grown hgrow hsz (fun k hk => by cases hk)
      have HA := Sp.hid hA
      clear hown hgrow
      obtain ⟨g, hg⟩ : ∃ g, w0.heap.size = g := ⟨_, rfl⟩
      rw [hg] at HA hgB hsz ⊢
      clear hg hbw
      have hfz := HA.out.free s.size
      have hcl := HA.out.cell (i := s.size) (by omega)
      have hA1 := Sp.hid ((HA.out.set (i := s.size) 1).congr (B := fun i => if i = s.size then 1 else 0) (fun i _ => rfl))
      have hb2 : Below w.heap.size w (w1.setCell ⟨g, s.size, none⟩ (.int .i64 1)) := hb1.setCell (p := ⟨g, s.size, none⟩) hsz _
      clear hA hgB
      go_wp2_with fail
      go_loopw [8, 9] (fun i _ wr => ∃ k : Nat, ∃ A : Nat → Int, k ≤ s.size ∧ i = .int .i64 ((k : Int) - 1) ∧ Sp.Ints wr g (s.size + 1) A ∧ (∀ i : Nat, k ≤ i → i ≤ s.size → A i = Sp.wayAt sig s.data.toList i) ∧ (∀ i : Nat, i < k → A i = 0) ∧ Below w.heap.size w wr) (fun i _ _ => (intOf i + 1).toNat)
      case atStart => exact ⟨s.size, _, Nat.le_refl _, rfl, hA1.out, fun i h1 h2 => by rw [show i = s.size by omega, if_pos rfl, Hend.out], fun i h1 => if_neg (by omega), hb2⟩
      case round =>
        obtain ⟨k, A, hk, rfl, hI, hV, h0, hbel⟩ := hrel
        have HI := Sp.hid hI
        have HV2 := Sp.hid hV
        have H0 := Sp.hid h0
        clear hI hV h0 hb1 hb2 hfz hcl
        by_cases hk0 : k = 0
        · subst hk0
          have hc0 := HI.out.cell (i := 0) (by omega)
          rw [HV2.out 0 (by omega) (by omega)] at hc0
          have hb := hbel
          go_wp2
          go_ret2
          exact ⟨by rw [hf.out]; rfl, hb⟩
        · obtain ⟨j, rfl⟩ : ∃ j, k = j + 1 := ⟨k - 1, by omega⟩
          rw [show (((j + 1 : Nat) : Int) - 1) = (j : Int) by omega]
          have hb := hbel
          have hrow := h.below hb
          obtain ⟨wo, rfl⟩ : ∃ wo : World, wo = wr := ⟨_, rfl⟩
          go_wp2_with fail
          go_loopw [9] (fun i wr2 => ∃ m : Nat, ∃ A : Nat → Int, m ≤ n ∧ i = .int .i64 m ∧ Sp.Ints wr2 g (s.size + 1) A ∧ (∀ i : Nat, j < i → i ≤ s.size → A i = Sp.wayAt sig s.data.toList i) ∧ (∀ i : Nat, i < j → A i = 0) ∧ A j = (sig.take m).foldl (Sp.cut1 (s.data.toList.drop j) (Sp.ways sig (s.data.toList.drop (j + 1)))) 0 ∧ Below w.heap.size w wr2) (fun i _ => n - (intOf i).toNat)
          case atStart => exact ⟨0, A, Nat.zero_le _, rfl, HI.out, fun i h1 h2 => HV2.out i (by omega) h2, fun i h1 => H0.out i (by omega), H0.out j (by omega), hbel⟩
          case round =>
            obtain ⟨m, A2, hm, rfl, hI2, hV3, h02, hAj, hbel2⟩ := hrel
            have HI2 := Sp.hid hI2
            have HV3 := Sp.hid hV3
            have H02 := Sp.hid h02
            have HAj := Sp.hid hAj
            clear hI2 hV3 h02 hAj
            by_cases hmlt : m < n
            · have hrow2 := h.below hbel2
              obtain ⟨b2, off2, x, rfl, hc, hs2, hm?, htm⟩ := hrow2.at hmlt
              have hx16 : x.size ≤ 16 := Hsm.out x (List.mem_of_getElem? hm?)
              have hx1 : 1 ≤ x.size := Hsy.out x (List.mem_of_getElem? hm?)
              have Htm := Sp.hid htm
              clear hm? htm hs2 hrow2 hrow
              have HP := Sp.hid (fits_any s x j wr (by unfold maxLen; omega) (by unfold maxLen; omega) (by omega))
              cases hp : Sp.pre (s.data.toList.drop j) x with
              | false =>
                rw [hp] at HP
                have hn1 := Sp.hid (show A2 j = (sig.take (m + 1)).foldl (Sp.cut1 (s.data.toList.drop j) (Sp.ways sig (s.data.toList.drop (j + 1)))) 0 by rw [Htm.out, List.foldl_append, ← HAj.out]; exact (Sp.cut1_no hp).symm)
                clear hp
                go_wp2_with fail
                refine HP.out.mono ?_
                rintro e w5 ⟨rfl, rfl⟩
                go_wp2
                go_roundw
                case rel => exact ⟨m + 1, A2, by omega, by go_num, HI2.out, HV3.out, H02.out, hn1.out, hbel2⟩
                case measure => simp [intOf]; omega
              | true =>
                rw [hp] at HP
                obtain ⟨hcy, hjx⟩ := Sp.cut1_yes (sig := sig) (acc := A2 j) hx1 hp (by rw [Hlen.out]; omega)
                rw [Hlen.out] at hjx
                have hn1 := Sp.hid (show Sp.cap1 (A2 j + Sp.wayAt sig s.data.toList (j + x.size)) = (sig.take (m + 1)).foldl (Sp.cut1 (s.data.toList.drop j) (Sp.ways sig (s.data.toList.drop (j + 1)))) 0 by rw [Htm.out, List.foldl_append, ← HAj.out]; exact hcy.symm)
                have bd1 := Sp.fold_bd (l := s.data.toList.drop j) (Sp.ways_bd sig (s.data.toList.drop (j + 1))) (sig.take m) 0 (by omega) (by omega)
                rw [← HAj.out] at bd1
                have bd2 := Sp.wayAt_bd sig s.data.toList (j + x.size)
                have ca := HI2.out.cell (i := j) (by omega)
                have cb := HI2.out.cell (i := j + x.size) (by omega)
                rw [HV3.out (j + x.size) (by omega) (by omega)] at cb
                have cf := HI2.out.free j
                obtain ⟨a, ha⟩ : ∃ a, A2 j = a := ⟨_, rfl⟩
                obtain ⟨c, hcc⟩ : ∃ c, Sp.wayAt sig s.data.toList (j + x.size) = c := ⟨_, rfl⟩
                rw [ha] at ca bd1 hn1
                rw [hcc] at cb bd2 hn1
                obtain ⟨bd1, bd1'⟩ := bd1
                obtain ⟨bd2, bd2'⟩ := bd2
                clear hp hcy ha hcc
                have hs9 : ∀ v : Int, v = Sp.cap1 (a + c) → Hid (∃ A3 : Nat → Int, Sp.Ints (wr.setCell ⟨g, j, none⟩ (.int .i64 v)) g (s.size + 1) A3 ∧ (∀ i : Nat, j < i → i ≤ s.size → A3 i = Sp.wayAt sig s.data.toList i) ∧ (∀ i : Nat, i < j → A3 i = 0) ∧ A3 j = (sig.take (m + 1)).foldl (Sp.cut1 (s.data.toList.drop j) (Sp.ways sig (s.data.toList.drop (j + 1)))) 0 ∧ Below w.heap.size w (wr.setCell ⟨g, j, none⟩ (.int .i64 v))) := by
                  intro v hv
                  refine ⟨_, HI2.out.set (i := j) v, fun i h1 h2 => ?_, fun i h1 => ?_, ?_, hbel2.setCell (p := ⟨g, j, none⟩) hsz _⟩
                  · rw [if_neg (by omega)]; exact HV3.out i h1 h2
                  · rw [if_neg (by omega)]; exact H02.out i h1
                  · rw [if_pos rfl, hv]; exact hn1.out
                have Hs9 := Sp.hid hs9
                clear hs9
                have H9 := Hs9.out (min (a + c) 1000000000) (Sp.cap1_min _)
                go_wp2_with fail
                refine HP.out.mono ?_
                rintro e w5 ⟨rfl, rfl⟩
                go_wp2
                go_region
                go_wp2
                go_roundw
                case rel =>
                  obtain ⟨A3, q1, q2, q3, q4, q5⟩ := H9.out
                  exact ⟨m + 1, A3, by omega, by go_num, q1, q2, q3, q4, q5.drew⟩
                case measure => simp [intOf]; omega
            · have hm' : sig.take m = sig := List.take_of_length_le (by rw [h.1]; omega)
              have hfin := Sp.hid (show A2 j = Sp.wayAt sig s.data.toList j by
                rw [HAj.out, hm', Sp.wayAt_step sig s.data.toList j (by rw [Hlen.out]; omega)])
              clear hm' hrow
              go_wp2
              go_roundw
              case rel => exact ⟨j, A2, by omega, by first | rfl | go_num, HI2.out, fun i h1 h2 => by
                by_cases hij : i = j
                · rw [hij]; exact hfin.out
                · exact HV3.out i (by omega) h2, H02.out, hbel2⟩
              case measure => first | (simp [intOf]; done) | (simp [intOf]; omega)
  · have hf := Sp.hid (show Sp.cutsOf s.data.toList sig = (0, Sp.errAlpha sig) by unfold Sp.cutsOf; rw [if_neg he])
    have hb0 : (Sp.errAlpha sig != 0) = true := by simpa using he
    clear he hlen
    go_enter Try.func30, Try.ntmps30
    go_wp2_with fail
    refine HV.out.mono ?_
    rintro e w1 ⟨rfl, hq⟩
    have hb := Sp.below_of_drew hq
    clear hq
    go_wp2
    go_ret2
    exact ⟨by rw [hf.out]; rfl, hb⟩

end Go.Proofs.Ytimjgjhdkinhoaa
