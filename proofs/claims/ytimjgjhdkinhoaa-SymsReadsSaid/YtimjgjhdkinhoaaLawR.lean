/-
  SymsReads: its walk.
-/
import Derived.Test.YtimjgjhdkinhoaaLawV
import Derived.Test.YtimjgjhdkinhoaaWalkF
import Derived.Test.YtimjgjhdkinhoaaWalkH
set_option linter.unusedVariables false
namespace Go.Proofs.Ytimjgjhdkinhoaa
open Go.RowKit

set_option maxHeartbeats 1000000 in
theorem symsReads_any (s : ByteArray) (hs : s.size ≤ maxLen) (w : World) :
    Calls Try.prog 5 #[.string s] w fun e w' => e = .returned (.bool true) ∧ Below w.heap.size w w' := by
  have hs' := hs
  unfold maxLen at hs'
  by_cases h4 : 4000 < s.size
  · go_enter Try.func5, Try.ntmps5
    go_wp2_with fail
    refine (known_any _).mono ?_
    rintro e w1 ⟨rfl, hb⟩
    go_wp2
    go_ret
    exact ⟨rfl, hb⟩
  · have HR := Sp.hid (read_any s w hs)
    have HF := Sp.hid (fun w1 => refRead_any s w1 hs)
    obtain ⟨xs, hxs⟩ : ∃ xs, (Sp.readOf s.data.toList).1 = xs := ⟨_, rfl⟩
    obtain ⟨er, her⟩ : ∃ er, (Sp.readOf s.data.toList).2 = er := ⟨_, rfl⟩
    rw [hxs, her] at HR HF
    clear hxs her
    go_enter Try.func5, Try.ntmps5
    go_wp2_with fail
    refine HR.out.mono ?_
    rintro e w1 ⟨v, rfl, ao, n, cap, rfl, hrow, hcap, b1⟩
    go_wp2_with fail
    refine (HF.out _).mono ?_
    rintro e w2 ⟨v, rfl, bo, m, cbp, rfl, hrow2, hcap2, hb⟩
    have b2 := b1.trans (hb.mono b1.size)
    have hrow1 := hrow.below hb
    clear hrow hb b1
    go_wp2_with fail
    refine (refSame_any ao bo n m cap cbp xs xs _ hrow1 hrow2).mono ?_
    rintro e w3 ⟨rfl, hq⟩
    rw [Sp.ord_self]
    have b3 := b2.trans ((Sp.below_of_drew hq).mono b2.size)
    clear hq
    go_wp2_with fail
    refine (known_any _).mono ?_
    rintro e w4 ⟨rfl, hb⟩
    have b4 := b3.trans (hb.mono b3.size)
    clear hb
    go_wp2
    go_ret
    exact ⟨rfl, b4⟩

end Go.Proofs.Ytimjgjhdkinhoaa
