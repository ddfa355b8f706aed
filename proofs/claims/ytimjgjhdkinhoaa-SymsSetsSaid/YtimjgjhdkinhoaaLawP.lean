/-
  SymsParts, walked.
-/
import Derived.Test.YtimjgjhdkinhoaaWalkO
import Derived.Test.YtimjgjhdkinhoaaWalkL
import Derived.Test.YtimjgjhdkinhoaaWalkF
import Derived.Test.YtimjgjhdkinhoaaWalkD
import Derived.Test.YtimjgjhdkinhoaaWalkC
set_option linter.unusedVariables false
namespace Go.Proofs.Ytimjgjhdkinhoaa
open Go.RowKit

set_option maxHeartbeats 4000000 in
set_option maxRecDepth 100000 in
theorem symsParts_any (ao : Option Addr) (n cap : Nat) (a : List ByteArray) (bo : Option Addr) (m cbp : Nat) (b : List ByteArray) (w : World) (ha0 : Sp.Row w ao n a) (hb0 : Sp.Row w bo m b) :
    Calls Try.prog 12 #[.slice ao n cap, .slice bo m cbp] w fun e w' => e = .returned (.bool true) ∧ Below w.heap.size w w' := by
  have hn := ha0.le
  have b0 : Below w.heap.size w (w.alloc (.cells #[.slice ao n cap, .slice bo m cbp] 22)) := (Below.refl _ w).alloc (Nat.le_refl _) _
  have HO := Sp.hid (over_any (some ⟨w.heap.size, 0, none⟩) 2 2 [a, b] _ (row2_two ao bo n m cap cbp a b w ha0 hb0) (by omega))
  cases ho : Sp.over [a, b] with
  | true =>
    rw [ho] at HO
    clear ho
    go_enter Try.func12, Try.ntmps12
    go_wp2_with fail
    refine HO.out.mono ?_
    rintro e w1 ⟨rfl, rfl⟩
    go_wp2_with fail
    refine (known_any _).mono ?_
    rintro e w1 ⟨rfl, hb⟩
    have hb' := b0.trans (hb.mono b0.size)
    clear hb
    go_wp2
    go_ret
    exact ⟨rfl, hb'⟩
  | false =>
    rw [ho] at HO
    have ha := ha0.below b0
    have hb := hb0.below b0
    have HB := Sp.hid (both_any ao bo n m cap cbp a b _ ha hb)
    have HL := Sp.hid (fun w1 h1 h2 => less_any ao bo n m cap cbp a b w1 h1 h2)
    clear ho ha hb
    by_cases h0 : Sp.errTwo a b = 0
    · have hal := Sp.errTwo_zero.1 h0
      have hfb := Sp.hid (show Sp.bothOf a b = a.filter (Sp.inS b) by unfold Sp.bothOf; rw [if_pos h0])
      have hfl := Sp.hid (show Sp.lessOf a b = a.filter (fun x => !Sp.inS b x) by unfold Sp.lessOf; rw [if_pos h0])
      rw [h0, hfb.out] at HB
      rw [h0, hfl.out] at HL
      have hxy := Sp.hid (show Sp.errTwo (a.filter (Sp.inS b)) (a.filter (fun x => !Sp.inS b x)) = 0 from Sp.errTwo_zero.2 ⟨Sp.alpha_filter hal.1 _, Sp.alpha_filter hal.1 _⟩)
      have hsum := Sp.parts_len a b
      have HP := Sp.hid (fun R => Sp.parts_set (a := a) (b := b) (R := R) (Sp.asc_of_alpha hal.1))
      have ha40 := Sp.hid (Sp.errAlpha_zero.1 hal.1).1
      have hI := Sp.hid (show Sp.isF (a.filter (Sp.inS b)) b = true from List.all_eq_true.2 fun x hx => (List.mem_filter.1 hx).2)
      obtain ⟨x, hx⟩ : ∃ x, a.filter (Sp.inS b) = x := ⟨_, rfl⟩
      obtain ⟨y, hy⟩ : ∃ y, a.filter (fun x => !Sp.inS b x) = y := ⟨_, rfl⟩
      rw [hx] at HB hxy hsum HP hI
      rw [hy] at HL hxy hsum HP
      have hal1 := Sp.hid ha0.1
      clear hx hy h0 hal hfb hfl
      go_enter Try.func12, Try.ntmps12
      go_wp2_with fail
      refine HO.out.mono ?_
      rintro e w1 ⟨rfl, rfl⟩
      go_wp2_with fail
      refine HB.out.mono ?_
      rintro e w1 ⟨v, rfl, xo, xn, xc, rfl, hx1, hxcap, hxnc, hbb⟩
      have b1 := b0.trans (hbb.mono b0.size)
      clear hbb
      go_wp2_with fail
      refine (HL.out _ (ha0.below b1) (hb0.below b1)).mono ?_
      rintro e w2 ⟨v, rfl, yo, yn, yc, rfl, hy2, hycap, hync, hbb⟩
      have b2 := b1.trans (hbb.mono b1.size)
      have hx2 := hx1.below hbb
      have hxn := hx1.1
      have hyn := hy2.1
      have hle := hal1.out
      rw [hxn, hyn, hle] at hsum
      have h40 := ha40.out
      rw [hle] at h40
      have hw : IntKind.i64.wrap ((xn : Int) + yn) = n := by rw [IntKind.wrap_i64]; omega
      clear hbb hx1 hle
      have HE := Sp.hid (either_good xo yo xn yn xc yc x y w2 hx2 hy2 hxnc hync hxy.out)
      have hxl := Sp.hid hx2
      clear hx2 hy2
      go_wp2_with fail
      refine HE.out.mono ?_
      rintro e w3 ⟨R, hR, hpost⟩
      have hRa := HP.out R hR
      subst hRa
      rw [if_neg (by rw [hal1.out]; omega), if_neg (by rw [hal1.out]; omega)] at hpost
      obtain ⟨v, rfl, zo, zn, zc, rfl, hz3, hzcap, hznc, hbb⟩ := hpost
      have b3 := b2.trans (hbb.mono b2.size)
      have hx3 := hxl.out.below hbb
      have HS := Sp.hid (refSame_any zo ao zn n zc cap R R w3 hz3 (ha0.below b3))
      rw [Sp.ord_self] at HS
      clear hbb hz3 hR
      go_wp2_with fail
      refine HS.out.mono ?_
      rintro e w4 ⟨rfl, hq⟩
      have hbb := Sp.below_of_drew hq
      have b4 := b3.trans (hbb.mono b3.size)
      have hx4 := hx3.below hbb
      clear hbb hq hx3
      go_wp2_with fail
      refine (is_any xo xn xc x bo m cbp b _ hx4 (hb0.below b4)).mono ?_
      rintro e w5 ⟨rfl, hbb⟩
      rw [hI.out]
      have b5 := b4.trans (hbb.mono b4.size)
      clear hbb hx4
      go_wp2_with fail
      refine (known_any _).mono ?_
      rintro e w6 ⟨rfl, hbb⟩
      have b6 := b5.trans (hbb.mono b5.size)
      clear hbb
      go_wp2
      go_ret
      exact ⟨rfl, b6⟩
    · obtain ⟨r, hr⟩ : ∃ r, Sp.errTwo a b = r := ⟨_, rfl⟩
      rw [hr] at HB HL h0
      have h1 : (r == 0) = false := by simpa using h0
      clear hr h0
      go_enter Try.func12, Try.ntmps12
      go_wp2_with fail
      refine HO.out.mono ?_
      rintro e w1 ⟨rfl, rfl⟩
      go_wp2_with fail
      refine HB.out.mono ?_
      rintro e w1 ⟨v, rfl, xo, xn, xc, rfl, hx1, hxcap, hxnc, hbb⟩
      have b1 := b0.trans (hbb.mono b0.size)
      clear hbb hx1
      go_wp2_with fail
      refine (HL.out _ (ha0.below b1) (hb0.below b1)).mono ?_
      rintro e w2 ⟨v, rfl, yo, yn, yc, rfl, hy2, hycap, hync, hbb⟩
      have b2 := b1.trans (hbb.mono b1.size)
      clear hbb hy2
      go_wp2_with fail
      refine (known_any _).mono ?_
      rintro e w6 ⟨rfl, hbb⟩
      have b6 := b2.trans (hbb.mono b2.size)
      clear hbb
      go_wp2
      go_ret
      exact ⟨rfl, b6⟩

end Go.Proofs.Ytimjgjhdkinhoaa
