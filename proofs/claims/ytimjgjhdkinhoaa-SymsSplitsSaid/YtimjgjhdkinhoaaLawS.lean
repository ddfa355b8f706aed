/-
  SymsSplits: its walk.
-/
import Derived.Test.YtimjgjhdkinhoaaLawV
import Derived.Test.YtimjgjhdkinhoaaWalkF
import Derived.Test.YtimjgjhdkinhoaaWalkK
set_option linter.unusedVariables false
namespace Go.Proofs.Ytimjgjhdkinhoaa
open Go.RowKit

set_option maxHeartbeats 2000000 in
theorem symsSplits_any (s : ByteArray) (hs : s.size ≤ maxLen) (ao : Option Addr) (n cap : Nat) (l : List ByteArray) (w : World) (hrow0 : Sp.Row w ao n l) :
    Calls Try.prog 7 #[.string s, .slice ao n cap] w fun e w' => e = .returned (.bool true) ∧ Below w.heap.size w w' := by
  have hs' := hs
  unfold maxLen at hs'
  by_cases h4 : 4000 < s.size
  · go_enter Try.func7, Try.ntmps7
    go_wp2_with fail
    refine (known_any _).mono ?_
    rintro e w1 ⟨rfl, hb⟩
    go_wp2
    go_ret
    exact ⟨rfl, hb⟩
  · have b0 : Below w.heap.size w (w.alloc (.cells #[.slice ao n cap] 22)) := (Below.refl _ w).alloc (Nat.le_refl _) _
    have HO := Sp.hid (over_any (some ⟨w.heap.size, 0, none⟩) 1 1 [l] _ (row2_one ao n cap l w hrow0) (by omega))
    have hrow := hrow0.below b0
    cases ho : Sp.over [l] with
    | true =>
      have Ho := Sp.hid ho
      clear ho
      go_enter Try.func7, Try.ntmps7
      go_wp2_with fail
      refine HO.out.mono ?_
      rintro e w1 ⟨rfl, rfl⟩
      rw [Ho.out]
      go_wp2_with fail
      refine (known_any _).mono ?_
      rintro e w1 ⟨rfl, hb⟩
      have hb' := b0.trans (hb.mono (by simp))
      clear hb
      go_wp2
      go_ret
      exact ⟨rfl, hb'⟩
    | false =>
      have Ho := Sp.hid ho
      clear ho
      have HS := Sp.hid (fun w1 h1 => split_any s hs ao n cap l w1 h1)
      have HS2 := Sp.hid (fun w1 h1 => refSplit_any s hs ao n cap l w1 h1)
      have HC := Sp.hid (fun w1 h1 => cuts_any s hs ao n cap l w1 h1)
      have HC2 := Sp.hid (fun w1 h1 => refCuts_any s hs ao n cap l w1 h1)
      obtain ⟨xs, hxs⟩ : ∃ xs, (Sp.splitOf s.data.toList l).1 = xs := ⟨_, rfl⟩
      obtain ⟨kk, hkk⟩ : ∃ kk, (Sp.splitOf s.data.toList l).2.1 = kk := ⟨_, rfl⟩
      obtain ⟨er, her⟩ : ∃ er, (Sp.splitOf s.data.toList l).2.2 = er := ⟨_, rfl⟩
      obtain ⟨cc, hcc⟩ : ∃ cc, (Sp.cutsOf s.data.toList l).1 = cc := ⟨_, rfl⟩
      obtain ⟨ec, hec⟩ : ∃ ec, (Sp.cutsOf s.data.toList l).2 = ec := ⟨_, rfl⟩
      rw [hxs, hkk, her] at HS HS2
      rw [hcc, hec] at HC HC2
      clear hxs hkk her hcc hec
      go_enter Try.func7, Try.ntmps7
      go_wp2_with fail
      refine HO.out.mono ?_
      rintro e w1 ⟨rfl, rfl⟩
      rw [Ho.out]
      go_wp2_with fail
      refine (HS.out _ hrow).mono ?_
      rintro e w1 ⟨v, rfl, a1, n1, c1, rfl, hr1, hc1, hb⟩
      have b1 := b0.trans (hb.mono b0.size)
      have hrow1 := hrow0.below b1
      clear hb hrow
      go_wp2_with fail
      refine (HS2.out _ hrow1).mono ?_
      rintro e w2 ⟨v, rfl, a2, n2, c2, rfl, hr2, hc2, hb⟩
      have b2 := b1.trans (hb.mono b1.size)
      have hrow2 := hrow0.below b2
      have hr12 := hr1.below hb
      clear hb hrow1 hr1
      go_wp2_with fail
      refine (HC.out _ hrow2).mono ?_
      rintro e w3 ⟨rfl, hb⟩
      have b3 := b2.trans (hb.mono b2.size)
      have hrow3 := hrow0.below b3
      have hr13 := hr12.below hb
      have hr23 := hr2.below hb
      clear hb hrow2 hr12 hr2
      go_wp2_with fail
      refine (HC2.out _ hrow3).mono ?_
      rintro e w4 ⟨rfl, hb⟩
      have b4 := b3.trans (hb.mono b3.size)
      have hr14 := hr13.below hb
      have hr24 := hr23.below hb
      clear hb hrow3 hr13 hr23
      go_wp2_with fail
      refine (refSame_any a1 a2 n1 n2 c1 c2 xs xs _ hr14 hr24).mono ?_
      rintro e w5 ⟨rfl, hq⟩
      rw [Sp.ord_self]
      have b5 := b4.trans ((Sp.below_of_drew hq).mono b4.size)
      clear hq hr14 hr24
      go_wp2_with fail
      refine (known_any _).mono ?_
      rintro e w6 ⟨rfl, hb⟩
      have b6 := b5.trans (hb.mono b5.size)
      clear hb
      go_wp2
      go_ret
      exact ⟨rfl, b6⟩

end Go.Proofs.Ytimjgjhdkinhoaa
