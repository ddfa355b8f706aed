/-
  SymsBack: its walk.
-/
import Derived.Test.YtimjgjhdkinhoaaLawV
import Derived.Test.YtimjgjhdkinhoaaWalkF
import Derived.Test.YtimjgjhdkinhoaaWalkH
import Derived.Test.YtimjgjhdkinhoaaSpecB
set_option linter.unusedVariables false
namespace Go.Proofs.Ytimjgjhdkinhoaa
open Go.RowKit

/-- Text of a word, by whether it has an error. -/
theorem textGood (ao : Option Addr) (n cap : Nat) (l : List ByteArray) (t : ByteArray) (w : World) (h : Sp.Row w ao n l) (ht : Sp.textOf l = (t.data.toList, 0)) :
    Calls Try.prog 19 #[.slice ao n cap] w fun e w' => e = .returned (.tuple #[.string t, .int .i64 0]) ∧ Below w.heap.size w w' := by
  refine (text_any ao n cap l w h).mono ?_
  rintro e w' ⟨rfl, hb⟩
  rw [ht]
  exact ⟨by rw [show (⟨t.data.toList.toArray⟩ : ByteArray) = t from Sp.mk_self t], hb⟩
theorem textBad (ao : Option Addr) (n cap : Nat) (l : List ByteArray) (w : World) (h : Sp.Row w ao n l) (ht : (Sp.textOf l).2 ≠ 0) :
    Calls Try.prog 19 #[.slice ao n cap] w fun e w' => ∃ (t : ByteArray) (er : Int), e = .returned (.tuple #[.string t, .int .i64 er]) ∧ (er == 0) = false ∧ Below w.heap.size w w' := by
  refine (text_any ao n cap l w h).mono ?_
  rintro e w' ⟨rfl, hb⟩
  exact ⟨_, _, rfl, by simpa using ht, hb⟩
theorem readGood (s : ByteArray) (xs : List ByteArray) (w : World) (hs : s.size ≤ maxLen) (h : Sp.readOf s.data.toList = (xs, 0)) :
    Calls Try.prog 23 #[.string s] w fun e w' => ∃ ao n cap, e = .returned (.tuple #[.slice ao n cap, .int .i64 0]) ∧ Sp.Row w' ao n xs ∧ Below w.heap.size w w' := by
  refine (read_any s w hs).mono ?_
  rintro e w' ⟨v, rfl, ao, n, cap, rfl, hrow, hcap, hb⟩
  rw [h] at hrow
  rw [h]
  exact ⟨ao, n, cap, rfl, hrow, hb⟩
theorem readBad (s : ByteArray) (w : World) (hs : s.size ≤ maxLen) (h : (Sp.readOf s.data.toList).2 ≠ 0) :
    Calls Try.prog 23 #[.string s] w fun e w' => ∃ ao n cap er, e = .returned (.tuple #[.slice ao n cap, .int .i64 er]) ∧ (er == 0) = false ∧ Below w.heap.size w w' := by
  refine (read_any s w hs).mono ?_
  rintro e w' ⟨v, rfl, ao, n, cap, rfl, hrow, hcap, hb⟩
  exact ⟨ao, n, cap, _, rfl, by simpa using h, hb⟩

set_option maxHeartbeats 4000000 in
theorem symsBack_any (ao : Option Addr) (n cap : Nat) (l : List ByteArray) (h : Unit) (s : ByteArray) (hs : s.size ≤ maxLen) (w : World) (hrow0 : Sp.Row w ao n l) :
    Calls Try.prog 6 #[.slice ao n cap, .string s] w fun e w' => e = .returned (.bool true) ∧ Below w.heap.size w w' := by
  have hs' := hs
  unfold maxLen at hs'
  have b0 : Below w.heap.size w (w.alloc (.cells #[.slice ao n cap] 22)) := (Below.refl _ w).alloc (Nat.le_refl _) _
  have HO := Sp.hid (over_any (some ⟨w.heap.size, 0, none⟩) 1 1 [l] _ (row2_one ao n cap l w hrow0) (by omega))
  have hrow := hrow0.below b0
  cases ho : Sp.over [l] with
  | true =>
    have Ho := Sp.hid ho
    clear ho
    go_enter Try.func6, Try.ntmps6
    go_wp2_with fail
    refine HO.out.mono ?_
    rintro e w1 ⟨rfl, rfl⟩
    rw [Ho.out]
    go_wp2_with fail
    refine (known_any _).mono ?_
    rintro e w1 ⟨rfl, hb⟩
    have hb' := b0.trans (hb.mono (by simp))
    clear hb
    go_wp2
    go_ret
    exact ⟨rfl, hb'⟩
  | false =>
    have Ho := Sp.hid ho
    clear ho
    by_cases h4 : 4000 < s.size
    · go_enter Try.func6, Try.ntmps6
      go_wp2_with fail
      refine HO.out.mono ?_
      rintro e w1 ⟨rfl, rfl⟩
      rw [Ho.out]
      go_wp2_with fail
      refine (known_any _).mono ?_
      rintro e w1 ⟨rfl, hb⟩
      have hb' := b0.trans (hb.mono (by simp))
      clear hb
      go_wp2
      go_ret
      exact ⟨rfl, hb'⟩
    · by_cases ht : (Sp.textOf l).2 = 0
      · have hrt := Sp.read_text ht
        have htx : Sp.textOf l = ((Sp.mk (Sp.textOf l).1).data.toList, 0) := by rw [Sp.mk_data]; exact Prod.ext rfl ht
        obtain ⟨t, htt⟩ : ∃ t, Sp.mk (Sp.textOf l).1 = t := ⟨_, rfl⟩
        rw [htt] at htx
        have hrt2 : Sp.readOf t.data.toList = (l, 0) := by rw [← htt, Sp.mk_data]; exact hrt
        have htz : t.size ≤ maxLen := by
          have : ¬ 400 < t.data.toList.length := by
            intro hh
            unfold Sp.readOf at hrt2
            rw [if_pos hh] at hrt2
            have := congrArg Prod.snd hrt2
            simp at this
          simp at this
          unfold maxLen; omega
        have HT := Sp.hid (textGood ao n cap l t _ hrow htx)
        have HR := Sp.hid (fun w1 => readGood t l w1 htz hrt2)
        clear hrt htt htx hrt2 ht htz
        by_cases hr : (Sp.readOf s.data.toList).2 = 0
        · have htr := Sp.text_read hr
          obtain ⟨xs, hxs⟩ : ∃ xs, (Sp.readOf s.data.toList).1 = xs := ⟨_, rfl⟩
          have hrd : Sp.readOf s.data.toList = (xs, 0) := by rw [← hxs]; exact Prod.ext rfl hr
          rw [hxs] at htr
          have HR2 := Sp.hid (fun w1 => readGood s xs w1 hs hrd)
          have HT2 := Sp.hid (fun ao n cap w1 h1 => textGood ao n cap xs s w1 h1 htr)
          clear hxs htr hr hrd
          go_enter Try.func6, Try.ntmps6
          go_wp2_with fail
          refine HO.out.mono ?_
          rintro e w1 ⟨rfl, rfl⟩
          rw [Ho.out]
          go_wp2_with fail
          refine HT.out.mono ?_
          rintro e w1 ⟨rfl, hb⟩
          have b1 := b0.trans (hb.mono b0.size)
          clear hb
          go_wp2_with fail
          refine (HR.out _).mono ?_
          rintro e w2 ⟨a1, n1, c1, rfl, hr1, hb⟩
          have b2 := b1.trans (hb.mono b1.size)
          have hrow2 := hrow0.below b2
          clear hb
          go_wp2_with fail
          refine (compare_any a1 ao n1 n c1 cap l l _ hr1 hrow2).mono ?_
          rintro e w1 ⟨rfl, rfl⟩
          rw [Sp.cmp_self]
          clear hr1 hrow2
          go_wp2_with fail
          refine (HR2.out _).mono ?_
          rintro e w3 ⟨a3, n3, c3, rfl, hr3, hb⟩
          have b3 := b2.trans (hb.mono b2.size)
          have HT3 := Sp.hid (HT2.out a3 n3 c3 _ hr3)
          clear hb hr3
          go_wp2_with fail
          refine HT3.out.mono ?_
          rintro e w4 ⟨rfl, hb⟩
          have b4 := b3.trans (hb.mono b3.size)
          clear hb
          go_wp2_with fail
          refine (known_any _).mono ?_
          rintro e w5 ⟨rfl, hb⟩
          have b5 := b4.trans (hb.mono b4.size)
          clear hb
          go_wp2
          go_ret
          exact ⟨rfl, b5⟩
        · have HR2 := Sp.hid (fun w1 => readBad s w1 hs hr)
          clear hr
          go_enter Try.func6, Try.ntmps6
          go_wp2_with fail
          refine HO.out.mono ?_
          rintro e w1 ⟨rfl, rfl⟩
          rw [Ho.out]
          go_wp2_with fail
          refine HT.out.mono ?_
          rintro e w1 ⟨rfl, hb⟩
          have b1 := b0.trans (hb.mono b0.size)
          clear hb
          go_wp2_with fail
          refine (HR.out _).mono ?_
          rintro e w2 ⟨a1, n1, c1, rfl, hr1, hb⟩
          have b2 := b1.trans (hb.mono b1.size)
          have hrow2 := hrow0.below b2
          clear hb
          go_wp2_with fail
          refine (compare_any a1 ao n1 n c1 cap l l _ hr1 hrow2).mono ?_
          rintro e w1 ⟨rfl, rfl⟩
          rw [Sp.cmp_self]
          clear hr1 hrow2
          go_wp2_with fail
          refine (HR2.out _).mono ?_
          rintro e w3 ⟨a3, n3, c3, er, rfl, her, hb⟩
          have b3 := b2.trans (hb.mono b2.size)
          clear hb
          go_wp2_with fail
          refine (known_any _).mono ?_
          rintro e w5 ⟨rfl, hb⟩
          have b5 := b3.trans (hb.mono b3.size)
          clear hb
          go_wp2
          go_ret
          exact ⟨rfl, b5⟩
      · have HT := Sp.hid (textBad ao n cap l _ hrow ht)
        clear ht
        by_cases hr : (Sp.readOf s.data.toList).2 = 0
        · have htr := Sp.text_read hr
          obtain ⟨xs, hxs⟩ : ∃ xs, (Sp.readOf s.data.toList).1 = xs := ⟨_, rfl⟩
          have hrd : Sp.readOf s.data.toList = (xs, 0) := by rw [← hxs]; exact Prod.ext rfl hr
          rw [hxs] at htr
          have HR2 := Sp.hid (fun w1 => readGood s xs w1 hs hrd)
          have HT2 := Sp.hid (fun ao n cap w1 h1 => textGood ao n cap xs s w1 h1 htr)
          clear hxs htr hr hrd
          go_enter Try.func6, Try.ntmps6
          go_wp2_with fail
          refine HO.out.mono ?_
          rintro e w1 ⟨rfl, rfl⟩
          rw [Ho.out]
          go_wp2_with fail
          refine HT.out.mono ?_
          rintro e w1 ⟨t, er, rfl, her, hb⟩
          have b1 := b0.trans (hb.mono b0.size)
          clear hb
          go_wp2_with fail
          refine (HR2.out _).mono ?_
          rintro e w3 ⟨a3, n3, c3, rfl, hr3, hb⟩
          have b3 := b1.trans (hb.mono b1.size)
          have HT3 := Sp.hid (HT2.out a3 n3 c3 _ hr3)
          clear hb hr3
          go_wp2_with fail
          refine HT3.out.mono ?_
          rintro e w4 ⟨rfl, hb⟩
          have b4 := b3.trans (hb.mono b3.size)
          clear hb
          go_wp2_with fail
          refine (known_any _).mono ?_
          rintro e w5 ⟨rfl, hb⟩
          have b5 := b4.trans (hb.mono b4.size)
          clear hb
          go_wp2
          go_ret
          exact ⟨rfl, b5⟩
        · have HR2 := Sp.hid (fun w1 => readBad s w1 hs hr)
          clear hr
          go_enter Try.func6, Try.ntmps6
          go_wp2_with fail
          refine HO.out.mono ?_
          rintro e w1 ⟨rfl, rfl⟩
          rw [Ho.out]
          go_wp2_with fail
          refine HT.out.mono ?_
          rintro e w1 ⟨t, er, rfl, her, hb⟩
          have b1 := b0.trans (hb.mono b0.size)
          clear hb
          go_wp2_with fail
          refine (HR2.out _).mono ?_
          rintro e w3 ⟨a3, n3, c3, er2, rfl, her2, hb⟩
          have b3 := b1.trans (hb.mono b1.size)
          clear hb
          go_wp2_with fail
          refine (known_any _).mono ?_
          rintro e w5 ⟨rfl, hb⟩
          have b5 := b3.trans (hb.mono b3.size)
          clear hb
          go_wp2
          go_ret
          exact ⟨rfl, b5⟩

end Go.Proofs.Ytimjgjhdkinhoaa
