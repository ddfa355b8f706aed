/-
  SymsSets, walked.
-/
import Derived.Test.YtimjgjhdkinhoaaWalkR
import Derived.Test.YtimjgjhdkinhoaaLawO
import Derived.Test.YtimjgjhdkinhoaaLawP
set_option linter.unusedVariables false
namespace Go.Proofs.Ytimjgjhdkinhoaa
open Go.RowKit

def Sp.unionOf (a b : List ByteArray) : List ByteArray := compactOf Sp.eqS (Sp.sortS ((a ++ b).filter fun _ => true))
def Sp.eitherOf (a b : List ByteArray) : List ByteArray × Int :=
  if Sp.errTwo a b = 0 then (if 40 < (Sp.unionOf a b).length then ([], 3) else (Sp.unionOf a b, 0)) else ([], Sp.errTwo a b)
theorem Sp.union_set {a b R : List ByteArray} (h : Sp.SetOf R (a ++ b) (fun _ => true)) : R = Sp.unionOf a b := h.unique (Sp.sorted_set (a ++ b) fun _ => true)

theorem either_any (ao bo : Option Addr) (n m cap cbp : Nat) (a b : List ByteArray) (w : World) (ha : Sp.Row w ao n a) (hb : Sp.Row w bo m b) (hna : Sp.NC ao cap) (hnb : Sp.NC bo cbp) :
    Calls Try.prog 36 #[.slice ao n cap, .slice bo m cbp] w (PostNE (Sp.eitherOf a b).1 (Sp.eitherOf a b).2 w) := by
  by_cases h0 : Sp.errTwo a b = 0
  · refine (either_good ao bo n m cap cbp a b w ha hb hna hnb h0).mono ?_
    rintro e w' ⟨R, hR, hp⟩
    have hR := Sp.union_set hR
    subst hR
    unfold Sp.eitherOf
    rw [if_pos h0]
    by_cases hl : 40 < (Sp.unionOf a b).length
    · rw [if_pos hl, if_pos hl] at hp; rw [if_pos hl]; exact hp
    · rw [if_neg hl, if_neg hl] at hp; rw [if_neg hl]; exact hp
  · refine (either_bad ao bo n m cap cbp a b w ha hb h0).mono ?_
    rintro e w' ⟨rfl, rfl⟩
    unfold Sp.eitherOf
    rw [if_neg h0]
    exact ⟨_, rfl, NCRes.nil (Below.refl _ _)⟩

theorem refEither_any (ao bo : Option Addr) (n m cap cbp : Nat) (a b : List ByteArray) (w : World) (ha : Sp.Row w ao n a) (hb : Sp.Row w bo m b) (hna : Sp.NC ao cap) (hnb : Sp.NC bo cbp) :
    Calls Try.prog 37 #[.slice ao n cap, .slice bo m cbp] w (PostSE (Sp.eitherOf a b).1 (Sp.eitherOf a b).2 w) := by
  by_cases h0 : Sp.errTwo a b = 0
  · refine (refEither_good ao bo n m cap cbp a b w ha hb hna hnb h0).mono ?_
    rintro e w' ⟨R, hR, hp⟩
    have hR := Sp.union_set hR
    subst hR
    unfold Sp.eitherOf
    rw [if_pos h0]
    by_cases hl : 40 < (Sp.unionOf a b).length
    · rw [if_pos hl, if_pos hl] at hp; rw [if_pos hl]; exact hp
    · rw [if_neg hl, if_neg hl] at hp; rw [if_neg hl]; exact hp
  · refine (refEither_bad ao bo n m cap cbp a b w ha hb h0).mono ?_
    rintro e w' ⟨rfl, hb1⟩
    unfold Sp.eitherOf
    rw [if_neg h0]
    exact ⟨_, rfl, SlRes.nil hb1⟩

theorem PostNE.sl {xs : List ByteArray} {r : Int} {w : World} {e : Ending} {w' : World} (h : PostNE xs r w e w') : PostSE xs r w e w' := by
  obtain ⟨v, rfl, ao, n, cap, rfl, h1, h2, _, h3⟩ := h
  exact ⟨_, rfl, ao, n, cap, rfl, h1, h2, h3⟩

theorem same_self (ao bo : Option Addr) (n m cap cbp : Nat) (l : List ByteArray) (w : World) (ha : Sp.Row w ao n l) (hb : Sp.Row w bo m l) :
    Calls Try.prog 25 #[.slice ao n cap, .slice bo m cbp] w fun e w' => e = .returned (.bool true) ∧ Below w.heap.size w w' := by
  refine (refSame_any ao bo n m cap cbp l l w ha hb).mono ?_
  rintro e w' ⟨rfl, hq⟩
  exact ⟨by rw [Sp.ord_self]; rfl, Sp.below_of_drew hq⟩

set_option maxHeartbeats 4000000 in
set_option maxRecDepth 100000 in
theorem symsSets_any (ao : Option Addr) (n cap : Nat) (a : List ByteArray) (bo : Option Addr) (m cbp : Nat) (b : List ByteArray) (co : Option Addr) (k ccp : Nat) (c : List ByteArray) (w : World) (ha0 : Sp.Row w ao n a) (hb0 : Sp.Row w bo m b) (hc0 : Sp.Row w co k c) (hna : Sp.NC ao cap) (hnb : Sp.NC bo cbp) :
    Calls Try.prog 11 #[.slice ao n cap, .slice bo m cbp, .slice co k ccp] w fun e w' => e = .returned (.bool true) ∧ Below w.heap.size w w' := by
  have b0 : Below w.heap.size w (w.alloc (.cells #[.slice ao n cap, .slice bo m cbp, .slice co k ccp] 22)) := (Below.refl _ w).alloc (Nat.le_refl _) _
  have HO := Sp.hid (over_any (some ⟨w.heap.size, 0, none⟩) 3 3 [a, b, c] _ (row2_three ao bo co n m k cap cbp ccp a b c w ha0 hb0 hc0) (by omega))
  cases ho : Sp.over [a, b, c] with
  | true =>
    rw [ho] at HO
    clear ho
    go_enter Try.func11, Try.ntmps11
    go_wp2_with fail
    refine HO.out.mono ?_
    rintro e w1 ⟨rfl, rfl⟩
    go_wp2_with fail
    refine (known_any _).mono ?_
    rintro e w1 ⟨rfl, hb⟩
    have hb' := b0.trans (hb.mono b0.size)
    clear hb
    go_wp2
    go_ret
    exact ⟨rfl, hb'⟩
  | false =>
    rw [ho] at HO
    have HE := Sp.hid (fun w1 h1 h2 => (either_any ao bo n m cap cbp a b w1 h1 h2 hna hnb).mono fun e w' h => h.sl)
    have HRE := Sp.hid (fun w1 h1 h2 => refEither_any ao bo n m cap cbp a b w1 h1 h2 hna hnb)
    have HB := Sp.hid (fun w1 h1 h2 => (both_any ao bo n m cap cbp a b w1 h1 h2).mono fun e w' h => h.sl)
    have HRB := Sp.hid (fun w1 h1 h2 => refBoth_any ao bo n m cap cbp a b w1 h1 h2)
    have HL := Sp.hid (fun w1 h1 h2 => (less_any ao bo n m cap cbp a b w1 h1 h2).mono fun e w' h => h.sl)
    have HRL := Sp.hid (fun w1 h1 h2 => refLess_any ao bo n m cap cbp a b w1 h1 h2)
    have HI := Sp.hid (fun w1 h1 h2 => is_any co k ccp c ao n cap a w1 h1 h2)
    have HRI := Sp.hid (fun w1 h1 h2 => refIs_any co k ccp c ao n cap a w1 h1 h2)
    obtain ⟨X1, hX1⟩ : ∃ x, (Sp.eitherOf a b).1 = x := ⟨_, rfl⟩
    obtain ⟨E1, hE1⟩ : ∃ x, (Sp.eitherOf a b).2 = x := ⟨_, rfl⟩
    obtain ⟨X2, hX2⟩ : ∃ x, Sp.bothOf a b = x := ⟨_, rfl⟩
    obtain ⟨X3, hX3⟩ : ∃ x, Sp.lessOf a b = x := ⟨_, rfl⟩
    obtain ⟨E2, hE2⟩ : ∃ x, Sp.errTwo a b = x := ⟨_, rfl⟩
    obtain ⟨B1, hB1⟩ : ∃ x, Sp.isF c a = x := ⟨_, rfl⟩
    rw [hX1, hE1] at HE HRE
    rw [hX2, hE2] at HB HRB
    rw [hX3, hE2] at HL HRL
    rw [hB1] at HI HRI
    clear ho hX1 hE1 hX2 hX3 hE2 hB1
    go_enter Try.func11, Try.ntmps11
    go_wp2_with fail
    refine HO.out.mono ?_
    rintro e w1 ⟨rfl, rfl⟩
    go_wp2_with fail
    refine (HE.out _ (ha0.below b0) (hb0.below b0)).mono ?_
    rintro e w1 ⟨v, rfl, xo, xn, xc, rfl, hx, hxc, hbb⟩
    have b1 := b0.trans (hbb.mono b0.size)
    clear hbb HE b0
    go_wp2_with fail
    refine (HRE.out _ (ha0.below b1) (hb0.below b1)).mono ?_
    rintro e w2 ⟨v, rfl, yo, yn, yc, rfl, hy, hyc, hbb⟩
    have b2 := b1.trans (hbb.mono b1.size)
    have hx2 := hx.below hbb
    clear hbb HRE b1 hx
    go_wp2_with fail
    refine (same_self xo yo xn yn xc yc X1 _ hx2 hy).mono ?_
    rintro e w3 ⟨rfl, hbb⟩
    have b3 := b2.trans (hbb.mono b2.size)
    clear hbb b2 hx2 hy
    go_wp2_with fail
    refine (HI.out _ (hc0.below b3) (ha0.below b3)).mono ?_
    rintro e w4 ⟨rfl, hbb⟩
    have b4 := b3.trans (hbb.mono b3.size)
    clear hbb b3 HI
    go_wp2_with fail
    refine (HRI.out _ (hc0.below b4) (ha0.below b4)).mono ?_
    rintro e w5 ⟨rfl, rfl⟩
    clear HRI
    go_wp2_with fail
    refine (HB.out _ (ha0.below b4) (hb0.below b4)).mono ?_
    rintro e w1 ⟨v, rfl, xo, xn, xc, rfl, hx, hxc, hbb⟩
    have b1 := b4.trans (hbb.mono b4.size)
    clear hbb HB b4
    go_wp2_with fail
    refine (HRB.out _ (ha0.below b1) (hb0.below b1)).mono ?_
    rintro e w2 ⟨v, rfl, yo, yn, yc, rfl, hy, hyc, hbb⟩
    have b2 := b1.trans (hbb.mono b1.size)
    have hx2 := hx.below hbb
    clear hbb HRB b1 hx
    go_wp2_with fail
    refine (same_self xo yo xn yn xc yc X2 _ hx2 hy).mono ?_
    rintro e w3 ⟨rfl, hbb⟩
    have b3 := b2.trans (hbb.mono b2.size)
    clear hbb b2 hx2 hy
    go_wp2_with fail
    refine (HL.out _ (ha0.below b3) (hb0.below b3)).mono ?_
    rintro e w1 ⟨v, rfl, xo, xn, xc, rfl, hx, hxc, hbb⟩
    have b1 := b3.trans (hbb.mono b3.size)
    clear hbb HL b3
    go_wp2_with fail
    refine (HRL.out _ (ha0.below b1) (hb0.below b1)).mono ?_
    rintro e w2 ⟨v, rfl, yo, yn, yc, rfl, hy, hyc, hbb⟩
    have b2 := b1.trans (hbb.mono b1.size)
    have hx2 := hx.below hbb
    clear hbb HRL b1 hx
    go_wp2_with fail
    refine (same_self xo yo xn yn xc yc X3 _ hx2 hy).mono ?_
    rintro e w3 ⟨rfl, hbb⟩
    have b3 := b2.trans (hbb.mono b2.size)
    clear hbb b2 hx2 hy
    go_wp2_with fail
    refine (known_any _).mono ?_
    rintro e w6 ⟨rfl, hbb⟩
    have b6 := b3.trans (hbb.mono b3.size)
    clear hbb
    go_wp2
    go_ret
    exact ⟨rfl, b6⟩

end Go.Proofs.Ytimjgjhdkinhoaa
