/-
  The walks of Read: the loops.
-/
import Derived.Test.YtimjgjhdkinhoaaWalkG
import Derived.Test.YtimjgjhdkinhoaaWalkB
set_option linter.unusedVariables false
namespace Go.Proofs.Ytimjgjhdkinhoaa
open Go.RowKit

/-- The slots' part of both loops: what has been cut is owned. -/
theorem Sp.own_snoc {w w1 w2 : World} {base : Nat} {v v' : Value} {xs : List ByteArray} {x : ByteArray} (hown' : w2.ownsRow base 9 1 v' (xs.length + 1) (xs.map Value.string ++ [.string x])) :
    w2.ownsRow base 9 1 v' (xs ++ [x]).length ((xs ++ [x]).map Value.string) := by
  simpa using hown'

theorem Sp.drop0 (s : ByteArray) (k : Nat) (h : k < s.size) : (s.data.toList.drop k)[0]? = some s[k] := by
  rw [List.getElem?_drop]; exact Sp.getq s k h

set_option maxHeartbeats 2000000 in
set_option maxRecDepth 100000 in
theorem read_any (s : ByteArray) (w : World) (hs : s.size ≤ maxLen) :
    Calls Try.prog 23 #[.string s] w (PostSE (Sp.readOf s.data.toList).1 (Sp.readOf s.data.toList).2 w) := by
  unfold maxLen at hs
  have hlen : s.data.toList.length = s.size := by simp
  by_cases h4 : 400 < s.size
  · have hf := Sp.hid (show Sp.readOf s.data.toList = ([], 3) by unfold Sp.readOf; rw [if_pos (by omega)])
    go_enter Try.func23, Try.ntmps23
    go_wp2_with fail
    go_ret2
    exact ⟨.slice none 0 0, by rw [hf.out]; rfl, by rw [hf.out]; exact SlRes.nil (Below.refl _ _)⟩
  · obtain ⟨i0, hi, hz0, hz1, hz2⟩ := info_parts strInfo
    have h4' : s.data.toList.length ≤ 400 := by omega
    have Hlen := Sp.hid hlen
    have H4 := Sp.hid h4'
    clear hlen h4'
    go_enter Try.func23, Try.ntmps23
    go_wp2_with fail
    go_loopw [4, 5, 6, 7] (fun v i _ _ wr => ∃ k : Nat, ∃ xs : List ByteArray, k ≤ s.size ∧ i = .int .i64 k ∧ wr.ownsRow w.heap.size 9 1 v xs.length (xs.map Value.string) ∧ Below w.heap.size w wr ∧ Sp.Going s.data.toList k xs) (fun _ i _ _ _ => s.size - (intOf i).toNat)
    case atStart => exact ⟨0, [], Nat.zero_le _, rfl, World.ownsRow_nil _ _ _ _, Below.refl _ _, Sp.Going.start _⟩
    case round =>
      obtain ⟨k, xs, hk, rfl, hown, hbel, hgo⟩ := hrel
      have hxl : xs.length ≤ 400 := by have := hgo.2.1; omega
      have Hgo := Sp.hid hgo
      have hsz := hbel.size
      clear hgo
      by_cases hlt : k < s.size
      · obtain ⟨y, hy⟩ : ∃ y, s.extract k s.size = y := ⟨_, rfl⟩
        have hyd := Sp.hid (show y.data.toList = s.data.toList.drop k by rw [← hy]; exact Lib.extract_to_end s k)
        have hys : y.size = s.size - k := by
          have := congrArg List.length hyd.out
          simpa using this
        have hy0 : 0 < y.size := by omega
        have hym : y.size ≤ maxLen := by unfold maxLen; omega
        have HW := Sp.hid (written_any y)
        clear hys
        go_wp2_with fail
        refine (HW.out _ hy0 hym).mono ?_
        rintro e w1 ⟨x, j, rfl, hst, rfl⟩
        rw [hyd.out] at hst
        cases hst with
        | inl hst =>
          obtain ⟨hst, rfl⟩ := hst
          have hf := Sp.hid (Hgo.out.bad (by rw [Hlen.out]; exact hlt) hst H4.out).1
          clear hst
          go_wp2
          go_ret2
          exact ⟨.slice none 0 0, by rw [hf.out]; rfl, by rw [hf.out]; exact SlRes.nil hbel⟩
        | inr hst =>
          have hj := Sp.stepR_pos hst
          obtain ⟨hj1, hj2, hj3, _⟩ := hj
          simp only [List.length_drop] at hj2
          rw [Hlen.out] at hj2
          have hg1 := Sp.hid (Hgo.out.step hst rfl)
          clear hst hj3
          have hj0 : ((j : Int) == 0) = false := by simp; omega
          go_wp2_with (at_builtin; refine wpList_append_own _ rfl _ _ 22 rfl w.heap.size 9 i0 (.string ⟨#[]⟩) 1 16 Try.underlying22 hi hz0 hz1 hz2 rfl (by decide) _ _ _ rfl (hown.alloc _) ⟨wr.heap.size, 0, none⟩ 1 1 [.string x] rfl rfl ?c1 ?c2 ?c3 ?c4 ?c5 ?_)
          case c1 =>
            intro j u hj
            match j, hj with
            | 0, hj => simp at hj; subst hj; simp [Addr.add]
          case c2 => intro u hu; simp at hu; subst hu; rfl
          case c3 => unfold maxLen; omega
          case c4 => omega
          case c5 => simp; omega
          intro v' w2 hown' hgrow _
          have hown2 : w2.ownsRow w.heap.size 9 1 v' (xs ++ [x]).length ((xs ++ [x]).map Value.string) := by simpa using hown'
          have hbel2 : Below w.heap.size w w2 := (hbel.alloc (by omega) _).grown hgrow (by simp; omega) (fun k hk => (hown.lt k hk).1)
          clear hown' hgrow hown hbel hsz
          go_wp2
          go_roundw
          case rel => exact ⟨k + j, xs ++ [x], by omega, by go_num, hown2, hbel2, hg1.out⟩
          case measure => simp [intOf]; omega
      · have hf := Sp.hid (Hgo.out.done (by rw [Hlen.out]; exact hlt) H4.out).1
        have hsm := Sp.hid (show ∀ s ∈ xs, s.size ≤ maxLen from fun s hs => by have := Hgo.out.2.2.1 s hs; unfold maxLen; omega)
        obtain ⟨ao, cap, rfl, hrow, hcap⟩ := Sp.row_of_own hown hsm.out (by unfold maxLen; omega)
        have Hrow := Sp.hid hrow
        clear hrow hown
        by_cases h6 : 60 < xs.length
        · have hf2 := Sp.hid (show Sp.readOf s.data.toList = ([], 3) by rw [hf.out, if_pos h6])
          go_wp2
          go_ret2
          exact ⟨.slice none 0 0, by rw [hf2.out]; rfl, by rw [hf2.out]; exact SlRes.nil hbel⟩
        · have hf2 := Sp.hid (show Sp.readOf s.data.toList = (xs, 0) by rw [hf.out, if_neg h6])
          go_wp2
          go_ret2
          exact ⟨.slice ao xs.length cap, by rw [hf2.out]; rfl, by rw [hf2.out]; exact ⟨_, _, _, rfl, Hrow.out, hcap, hbel⟩⟩

theorem Sp.byte_ne {c : UInt8} {n : Nat} (hn : n < 256) (h : ¬ (c.toNat : Int) = n) : c ≠ n.toUInt8 := by
  intro hh; apply h; rw [hh]; simp [Nat.toUInt8]; omega
theorem Sp.byte_eq {c : UInt8} {n : Nat} (hn : n < 256) (h : (c.toNat : Int) = n) : c = n.toUInt8 := by
  apply UInt8.toNat_inj.1
  have : c.toNat = n := by omega
  rw [this]; simp [Nat.toUInt8]; omega

set_option maxHeartbeats 4000000 in
set_option maxRecDepth 100000 in
theorem refCut_any (s : ByteArray) (w : World) (h400 : s.size ≤ 400) :
    Calls Try.prog 55 #[.string s] w (PostSB ((Sp.cut s.data.toList).map (·.map Sp.mk)) w) := by
  have hlen : s.data.toList.length = s.size := by simp
  obtain ⟨i0, hi, hz0, hz1, hz2⟩ := info_parts strInfo
  have h4' : s.data.toList.length ≤ 400 := by omega
  have Hlen := Sp.hid hlen
  have H4 := Sp.hid h4'
  clear hlen h4'
  go_enter Try.func55, Try.ntmps55
  go_wp2_with fail
  go_loopw [4, 5, 6] (fun v i _ wr => ∃ k : Nat, ∃ xs : List ByteArray, k ≤ s.size ∧ i = .int .i64 k ∧ wr.ownsRow w.heap.size 9 1 v xs.length (xs.map Value.string) ∧ Below w.heap.size w wr ∧ Sp.Going s.data.toList k xs) (fun _ i _ _ => s.size - (intOf i).toNat)
  case atStart => exact ⟨0, [], Nat.zero_le _, rfl, World.ownsRow_nil _ _ _ _, Below.refl _ _, Sp.Going.start _⟩
  case round =>
    obtain ⟨k, xs, hk, rfl, hown, hbel, hgo⟩ := hrel
    have hxl : xs.length ≤ 400 := by have := hgo.2.1; omega
    have Hgo := Sp.hid hgo
    have hsz := hbel.size
    clear hgo
    by_cases hlt : k < s.size
    · have hbad : Sp.stepR (s.data.toList.drop k) = none → Hid (∀ w', Below w.heap.size w w' → PostSB ((Sp.cut s.data.toList).map (·.map Sp.mk)) w (.returned (.tuple #[.slice none 0 0, .bool false])) w') := fun hst => by
        have hc := (Hgo.out.bad (by rw [Hlen.out]; exact hlt) hst H4.out).2
        intro w' hb
        rw [hc]
        exact ⟨rfl, hb⟩
      have Hbad := Sp.hid hbad
      clear hbad
      have H0 := Sp.hid (Sp.drop0 s k hlt)
      by_cases c1 : (s[k].toNat : Int) < 33
      · have hf := Hbad.out (Sp.stepR_bad H0.out (Sp.plain_no (by omega)) (Sp.byte_ne (n := 60) (by omega) (by omega)))
        go_wp2
        go_ret2
        exact hf.out _ hbel
      · by_cases c2 : 126 < (s[k].toNat : Int)
        · have hf := Hbad.out (Sp.stepR_bad H0.out (Sp.plain_no (by omega)) (Sp.byte_ne (n := 60) (by omega) (by omega)))
          go_wp2
          go_ret2
          exact hf.out _ hbel
        · by_cases c3 : (s[k].toNat : Int) = 62
          · have hf := Hbad.out (Sp.stepR_bad H0.out (Sp.plain_no (by omega)) (Sp.byte_ne (n := 60) (by omega) (by omega)))
            have d3 : ((s[k].toNat : Int) == 62) = true := by simpa using c3
            clear c3
            go_wp2
            go_ret2
            exact hf.out _ hbel
          · have d3 : ((s[k].toNat : Int) == 62) = false := by simpa using c3
            by_cases c4 : (s[k].toNat : Int) = 60
            · have d4 : ((s[k].toNat : Int) != 60) = false := by simpa using c4
              have H60 := Sp.hid (show (s.data.toList.drop k)[0]? = some (60 : UInt8) by rw [H0.out, Sp.byte_eq (n := 60) (by omega) c4]; rfl)
              clear c3 c4
              go_wp2_with fail
              go_loop [6] (fun i => ∃ j : Nat, k + 1 ≤ j ∧ j ≤ s.size ∧ i = .int .i64 j ∧ ∀ i : Nat, k < i → i < j → s.data.toList[i]? ≠ some (62 : UInt8)) (fun i => s.size - (intOf i).toNat)
              case atStart => exact ⟨k + 1, by omega, by omega, by go_num, fun i h1 h2 => by omega⟩
              case round =>
                obtain ⟨j, hj1, hj2, rfl, hno⟩ := hrel
                have Hno := Sp.hid hno
                clear hno
                by_cases hj : j < s.size
                · by_cases e1 : (s[j].toNat : Int) = 62
                  · have f1 : ((s[j].toNat : Int) != 62) = false := by simpa using e1
                    have hst := Sp.hid (Sp.stepR_shut H60.out (by omega) (by rw [Sp.getq s j hj, Sp.byte_eq (n := 62) (by omega) e1]; rfl) Hno.out)
                    clear e1
                    obtain ⟨x, hx⟩ : ∃ x, s.extract (k + 1) j = x := ⟨_, rfl⟩
                    have hd := Sp.hid (show x.data.toList = (s.data.toList.drop (k + 1)).take (j - (k + 1)) by rw [← hx, Sp.ext_data])
                    have hxz : x.size = j - (k + 1) := by
                      have := congrArg List.length hd.out
                      simp at this
                      omega
                    have hxm : x.size ≤ maxLen := by unfold maxLen; omega
                    clear hxz
                    have g1 : ((j : Int) == (s.size : Int)) = false := by simp; omega
                    have g2 : (j == s.size) = false := by simp; omega
                    by_cases h3 : j - k < 3
                    · have hf := Hbad.out (by rw [hst.out, if_pos h3])
                      have h3' : (j : Int) - k < 3 := by omega
                      clear h3
                      go_wp2
                      go_ret2
                      exact hf.out _ hbel
                    · have h3' : ¬ (j : Int) - k < 3 := by omega
                      cases hsy : Sp.isSym x with
                      | false =>
                        have hf := Hbad.out (by rw [hst.out, if_neg h3, if_neg]; rw [← hd.out, ← Sp.isSym_symL, hsy]; simp)
                        clear h3
                        go_wp2_with (go_at_call 82; refine (refIsSymbol_any _ _ (by assumption)).mono ?_; rintro e w' ⟨rfl, rfl⟩)
                        go_ret2
                        exact hf.out _ hbel
                      | true =>
                        have hs1 : Sp.stepR (s.data.toList.drop k) = some (x.data.toList, j - k + 1) := by rw [hst.out, if_neg h3, if_pos, hd.out]; rw [← hd.out, ← Sp.isSym_symL, hsy]
                        have hg1 := Sp.hid (Hgo.out.step hs1 rfl)
                        clear hs1 h3
                        go_wp2_with (first | (go_at_call 82; refine (refIsSymbol_any _ _ (by assumption)).mono ?_; rintro e w' ⟨rfl, rfl⟩) | (at_builtin; refine wpList_append_own _ rfl _ _ 22 rfl w.heap.size 9 i0 (.string ⟨#[]⟩) 1 16 Try.underlying22 hi hz0 hz1 hz2 rfl (by decide) _ _ _ rfl (hown.alloc _) ⟨wr.heap.size, 0, none⟩ 1 1 [.string x] rfl rfl ?a1 ?a2 ?a3 ?a4 ?a5 ?_))
                        case a1 =>
                          intro j u hj
                          match j, hj with
                          | 0, hj => simp at hj; subst hj; simp [Addr.add]
                        case a2 => intro u hu; simp at hu; subst hu; rfl
                        case a3 => unfold maxLen; omega
                        case a4 => omega
                        case a5 => simp; omega
                        intro v' w2 hown' hgrow _
                        have hown2 : w2.ownsRow w.heap.size 9 1 v' (xs ++ [x]).length ((xs ++ [x]).map Value.string) := by simpa using hown'
                        have hbel2 : Below w.heap.size w w2 := (hbel.alloc (by omega) _).grown hgrow (by simp; omega) (fun k hk => (hown.lt k hk).1)
                        clear hown' hgrow hown hbel hsz
                        go_wp2
                        go_roundw
                        case rel => exact ⟨k + (j - k + 1), xs ++ [x], by omega, by go_num, hown2, hbel2, hg1.out⟩
                        case measure => simp [intOf]; omega
                  · have f1 : ((s[j].toNat : Int) != 62) = true := by simpa using e1
                    have hno2 := Sp.hid (show ∀ i : Nat, k < i → i < j + 1 → s.data.toList[i]? ≠ some (62 : UInt8) from fun i h1 h2 hh => by
                      by_cases hij : i = j
                      · subst hij
                        rw [Sp.getq s i hj] at hh
                        simp only [Option.some.injEq] at hh
                        apply e1; rw [hh]; rfl
                      · exact Hno.out i h1 (by omega) hh)
                    clear e1
                    go_wp2
                    go_round
                    case rel => exact ⟨j + 1, by omega, by omega, by go_num, hno2.out⟩
                    case measure => simp [intOf]; omega
                · have hje : j = s.size := by omega
                  subst hje
                  have hf := Hbad.out (Sp.stepR_open H60.out (fun i h1 hh => by
                    by_cases h2 : i < s.size
                    · exact Hno.out i h1 h2 hh
                    · rw [List.getElem?_eq_none (by simp; omega)] at hh; simp at hh))
                  go_wp2
                  go_ret2
                  exact hf.out _ hbel
            · have d4 : ((s[k].toNat : Int) != 60) = true := by simpa using c4
              have hpl := Sp.plain_yes (c := (s[k].toNat : Int)) (by omega) (by omega) c4 c3
              obtain ⟨x, hx⟩ : ∃ x, s.extract k (k + 1) = x := ⟨_, rfl⟩
              have hs1 : Sp.stepR (s.data.toList.drop k) = some (x.data.toList, 1) := by
                rw [Sp.stepR_plain H0.out hpl, ← hx, Sp.ext_data]
                have h9 := H0.out
                rw [show k + 1 - k = 1 by omega]
                cases hh : s.data.toList.drop k with
                | nil => rw [hh] at h9; simp at h9
                | cons c r => rw [hh] at h9; simp at h9; simp [h9]
              have hg1 := Sp.hid (Hgo.out.step hs1 rfl)
              clear hs1 c3 c4 hpl
              go_wp2_with (at_builtin; refine wpList_append_own _ rfl _ _ 22 rfl w.heap.size 9 i0 (.string ⟨#[]⟩) 1 16 Try.underlying22 hi hz0 hz1 hz2 rfl (by decide) _ _ _ rfl (hown.alloc _) ⟨wr.heap.size, 0, none⟩ 1 1 [.string x] rfl rfl ?q1 ?q2 ?q3 ?q4 ?q5 ?_)
              case q2 => first | rfl | trivial | (intro u hu; simp at hu; subst hu; rfl)
              case q3 => unfold maxLen; omega
              case q4 => omega
              case q5 => first | omega | (simp; omega)
              intro v' w2 hown' hgrow _
              have hown2 : w2.ownsRow w.heap.size 9 1 v' (xs ++ [x]).length ((xs ++ [x]).map Value.string) := by simpa using hown'
              have hbel2 : Below w.heap.size w w2 := (hbel.alloc (by omega) _).grown hgrow (by simp; omega) (fun k hk => (hown.lt k hk).1)
              clear hown' hgrow hown hbel hsz
              go_wp2
              go_roundw
              case rel => exact ⟨k + 1, xs ++ [x], by omega, by go_num, hown2, hbel2, hg1.out⟩
              case measure => simp [intOf]; omega
    · obtain ⟨ys, hy1, hy2⟩ := (Hgo.out.done (by rw [Hlen.out]; exact hlt) H4.out).2
      have hf := Sp.hid (show (Sp.cut s.data.toList).map (·.map Sp.mk) = some xs by rw [hy1, ← hy2]; rfl)
      have hsm := Sp.hid (show ∀ s ∈ xs, s.size ≤ maxLen from fun s hs => by have := Hgo.out.2.2.1 s hs; unfold maxLen; omega)
      clear hy1 hy2
      obtain ⟨ao, cap, rfl, hrow, hcap⟩ := Sp.row_of_own hown hsm.out (by unfold maxLen; omega)
      have Hrow := Sp.hid hrow
      clear hrow hown
      go_wp2
      go_ret2
      rw [hf.out]
      exact ⟨.slice ao xs.length cap, rfl, _, _, _, rfl, Hrow.out, hcap, hbel⟩

def CutRead (o : Option (List ByteArray)) : List ByteArray × Int := match o with | none => ([], 2) | some ys => if 60 < ys.length then ([], 3) else (ys, 0)

set_option maxHeartbeats 1000000 in
theorem refRead_any (s : ByteArray) (w : World) (hs : s.size ≤ maxLen) :
    Calls Try.prog 24 #[.string s] w (PostSE (Sp.readOf s.data.toList).1 (Sp.readOf s.data.toList).2 w) := by
  unfold maxLen at hs
  have hlen : s.data.toList.length = s.size := by simp
  by_cases h4 : 400 < s.size
  · have hf := Sp.hid (show Sp.readOf s.data.toList = ([], 3) by unfold Sp.readOf; rw [if_pos (by omega)])
    go_enter Try.func24, Try.ntmps24
    go_wp2_with fail
    go_ret2
    exact ⟨.slice none 0 0, by rw [hf.out]; rfl, by rw [hf.out]; exact SlRes.nil (Below.refl _ _)⟩
  · have HC := Sp.hid (refCut_any s w (by omega))
    have hr := Sp.hid (show Sp.readOf s.data.toList = CutRead ((Sp.cut s.data.toList).map (·.map Sp.mk)) by
      unfold Sp.readOf CutRead
      rw [if_neg (by omega)]
      cases Sp.cut s.data.toList <;> simp)
    obtain ⟨o, ho⟩ : ∃ o, (Sp.cut s.data.toList).map (·.map Sp.mk) = o := ⟨_, rfl⟩
    rw [ho] at HC hr
    clear ho hlen
    cases o with
    | none =>
      have hf := Sp.hid (show Sp.readOf s.data.toList = ([], 2) from hr.out)
      go_enter Try.func24, Try.ntmps24
      go_wp2_with fail
      refine HC.out.mono ?_
      rintro e w1 ⟨rfl, hb⟩
      go_wp2
      go_ret2
      exact ⟨.slice none 0 0, by rw [hf.out]; rfl, by rw [hf.out]; exact SlRes.nil hb⟩
    | some ys =>
      by_cases h6 : 60 < ys.length
      · have hf := Sp.hid (show Sp.readOf s.data.toList = ([], 3) by rw [hr.out]; simp [CutRead, h6])
        go_enter Try.func24, Try.ntmps24
        go_wp2_with fail
        refine HC.out.mono ?_
        rintro e w1 ⟨v, rfl, ao, n, cap, rfl, hrow, hcap, hb⟩
        have h6' : 60 < n := by rw [← hrow.1]; exact h6
        have hn := hrow.le
        have Hrow := Sp.hid hrow
        clear hrow h6
        go_wp2
        go_ret2
        exact ⟨.slice none 0 0, by rw [hf.out]; rfl, by rw [hf.out]; exact SlRes.nil hb⟩
      · have hf := Sp.hid (show Sp.readOf s.data.toList = (ys, 0) by rw [hr.out]; simp [CutRead, h6])
        go_enter Try.func24, Try.ntmps24
        go_wp2_with fail
        refine HC.out.mono ?_
        rintro e w1 ⟨v, rfl, ao, n, cap, rfl, hrow, hcap, hb⟩
        have h6' : ¬ 60 < n := by rw [← hrow.1]; exact h6
        have hn := hrow.le
        have Hrow := Sp.hid hrow
        clear hrow h6
        go_wp2
        go_ret2
        exact ⟨.slice ao n cap, by rw [hf.out]; rfl, by rw [hf.out]; exact ⟨_, _, _, rfl, Hrow.out, hcap, hb⟩⟩

end Go.Proofs.Ytimjgjhdkinhoaa
