/-
  SymsOrders: its walk.
-/
import Derived.Test.YtimjgjhdkinhoaaLawV
import Derived.Test.YtimjgjhdkinhoaaWalkF
set_option linter.unusedVariables false
namespace Go.Proofs.Ytimjgjhdkinhoaa
open Go.RowKit

/-- Three slices of strings laid into a new slice of slices. -/
theorem row2_three (ao bo co : Option Addr) (n m k cap cbp ccp : Nat) (a b c : List ByteArray) (w : World) (ha : Sp.Row w ao n a) (hb : Sp.Row w bo m b) (hc : Sp.Row w co k c) :
    Sp.Row2 (w.alloc (.cells #[.slice ao n cap, .slice bo m cbp, .slice co k ccp] 22)) (some ⟨w.heap.size, 0, none⟩) 3 [a, b, c] := by
  have hbe : Below w.heap.size w (w.alloc (.cells #[.slice ao n cap, .slice bo m cbp, .slice co k ccp] 22)) := (Below.refl _ w).alloc (Nat.le_refl _) _
  refine ⟨rfl, by decide, fun _ => ⟨_, _, rfl, fun i l' hi => ?_⟩⟩
  match i, hi with
  | 0, hi =>
    simp at hi
    subst hi
    exact ⟨ao, n, cap, by simp, ha.below hbe⟩
  | 1, hi =>
    simp at hi
    subst hi
    exact ⟨bo, m, cbp, by simp, hb.below hbe⟩
  | 2, hi =>
    simp at hi
    subst hi
    exact ⟨co, k, ccp, by simp, hc.below hbe⟩
  | i + 3, hi => simp at hi

set_option maxHeartbeats 2000000 in
theorem symsOrders_any (ao bo co : Option Addr) (n m k cap cbp ccp : Nat) (a b c : List ByteArray) (w : World) (ha : Sp.Row w ao n a) (hb : Sp.Row w bo m b) (hc : Sp.Row w co k c) :
    Calls Try.prog 9 #[.slice ao n cap, .slice bo m cbp, .slice co k ccp] w fun e w' => e = .returned (.bool true) ∧ Below w.heap.size w w' := by
  have b0 : Below w.heap.size w (w.alloc (.cells #[.slice ao n cap, .slice bo m cbp, .slice co k ccp] 22)) := (Below.refl _ w).alloc (Nat.le_refl _) _
  have HO := Sp.hid (over_any (some ⟨w.heap.size, 0, none⟩) 3 3 [a, b, c] _ (row2_three ao bo co n m k cap cbp ccp a b c w ha hb hc) (by omega))
  have ha0 := ha.below b0
  have hb0 := hb.below b0
  have hc0 := hc.below b0
  cases ho : Sp.over [a, b, c] with
  | true =>
    have Ho := Sp.hid ho
    clear ho
    go_enter Try.func9, Try.ntmps9
    go_wp2_with fail
    refine HO.out.mono ?_
    rintro e w1 ⟨rfl, rfl⟩
    rw [Ho.out]
    go_wp2_with fail
    refine (known_any _).mono ?_
    rintro e w1 ⟨rfl, hb⟩
    have hb' := b0.trans (hb.mono (by simp))
    clear hb
    go_wp2
    go_ret
    exact ⟨rfl, hb'⟩
  | false =>
    have Ho := Sp.hid ho
    clear ho
    obtain ⟨x, hx⟩ : ∃ x, Sp.cmp a b = x := ⟨_, rfl⟩
    obtain ⟨y, hy⟩ : ∃ y, Sp.cmp b c = y := ⟨_, rfl⟩
    obtain ⟨z, hz⟩ : ∃ z, Sp.cmp a c = z := ⟨_, rfl⟩
    have vx : -1 ≤ x ∧ x ≤ 1 := by rcases Sp.cmp_vals a b with h | h | h <;> omega
    have vy : -1 ≤ y ∧ y ≤ 1 := by rcases Sp.cmp_vals b c with h | h | h <;> omega
    have vz : -1 ≤ z ∧ z ≤ 1 := by rcases Sp.cmp_vals a c with h | h | h <;> omega
    have htr : x ≤ 0 → y ≤ 0 → z ≤ 0 ∧ (z = 0 → x = 0 ∧ y = 0) := by
      intro h1 h2
      by_cases e1 : x = 0
      · have e := Sp.cmp_eq (hx.trans e1)
        rw [e] at hz
        have : y = z := hy.symm.trans hz
        omega
      · by_cases e2 : y = 0
        · have e := Sp.cmp_eq (hy.trans e2)
          rw [← e] at hz
          have : x = z := hx.symm.trans hz
          omega
        · have e := Sp.cmp_trans (hx.trans (by omega)) (hy.trans (by omega))
          have : z = -1 := hz.symm.trans e
          omega
    have hn : Sp.cmp b a = -x := by rw [Sp.cmp_neg a b, hx]
    have Hx := Sp.hid hx
    have Hy := Sp.hid hy
    have Hz := Sp.hid hz
    have Hn := Sp.hid hn
    clear hx hy hz hn
    obtain ⟨vx1, vx2⟩ := vx
    obtain ⟨vy1, vy2⟩ := vy
    obtain ⟨vz1, vz2⟩ := vz
    go_enter Try.func9, Try.ntmps9
    go_wp2_with fail
    refine HO.out.mono ?_
    rintro e w1 ⟨rfl, rfl⟩
    rw [Ho.out]
    go_wp2_with fail
    refine (compare_any ao bo n m cap cbp a b _ ha0 hb0).mono ?_
    rintro e w1 ⟨rfl, rfl⟩
    rw [Hx.out]
    go_wp2_with fail
    refine (compare_any bo co m k cbp ccp b c _ hb0 hc0).mono ?_
    rintro e w1 ⟨rfl, rfl⟩
    rw [Hy.out]
    go_wp2_with fail
    refine (compare_any ao co n k cap ccp a c _ ha0 hc0).mono ?_
    rintro e w1 ⟨rfl, rfl⟩
    rw [Hz.out]
    go_wp2_with fail
    refine (refCompare_any ao bo n m cap cbp a b _ ha0 hb0).mono ?_
    rintro e w1 ⟨rfl, hq⟩
    rw [Hx.out]
    have b1 := b0.trans ((Sp.below_of_drew hq).mono b0.size)
    clear hq
    have hb1 := hb.below b1
    have hc1 := hc.below b1
    go_wp2_with fail
    refine (refCompare_any bo co m k cbp ccp b c _ hb1 hc1).mono ?_
    rintro e w2 ⟨rfl, hq⟩
    rw [Hy.out]
    have b2 := b1.trans ((Sp.below_of_drew hq).mono b1.size)
    clear hq
    have ha2 := ha.below b2
    have hc2 := hc.below b2
    go_wp2_with fail
    refine (refCompare_any ao co n k cap ccp a c _ ha2 hc2).mono ?_
    rintro e w3 ⟨rfl, hq⟩
    rw [Hz.out]
    have b3 := b2.trans ((Sp.below_of_drew hq).mono b2.size)
    clear hq
    have ha3 := ha.below b3
    have hb3 := hb.below b3
    go_wp2_with fail
    refine (compare_any bo ao m n cbp cap b a _ hb3 ha3).mono ?_
    rintro e w1 ⟨rfl, rfl⟩
    rw [Hn.out]
    have fin : ∀ w9, Below w3.heap.size w3 w9 → Below w.heap.size w w9 := fun w9 h => b3.trans (h.mono b3.size)
    have Fin := Sp.hid fin
    clear fin ha hb hc ha0 hb0 hc0 b1 hb1 hc1 b2 ha2 hc2 b3 ha3 hb3 b0
    have Htr := Sp.hid htr
    clear htr
    by_cases c1 : x ≤ 0
    · by_cases c2 : y ≤ 0
      · obtain ⟨c3, c4⟩ := Htr.out c1 c2
        have C4 := Sp.hid c4
        clear c4
        by_cases c5 : z = 0
        · obtain ⟨c6, c7⟩ := C4.out c5
          subst c5 c6 c7
          go_wp2_with fail
          refine (known_any _).mono ?_
          rintro e w1 ⟨rfl, hb⟩
          have hb' := Fin.out _ hb
          clear hb
          go_wp2
          go_ret
          exact ⟨rfl, hb'⟩
        · have c6 : (z == 0) = false := by simpa using c5
          clear c5
          go_wp2_with fail
          refine (known_any _).mono ?_
          rintro e w1 ⟨rfl, hb⟩
          have hb' := Fin.out _ hb
          clear hb
          go_wp2
          go_ret
          exact ⟨rfl, hb'⟩
      · go_wp2_with fail
        refine (known_any _).mono ?_
        rintro e w1 ⟨rfl, hb⟩
        have hb' := Fin.out _ hb
        clear hb
        go_wp2
        go_ret
        exact ⟨rfl, hb'⟩
    · go_wp2_with fail
      refine (known_any _).mono ?_
      rintro e w1 ⟨rfl, hb⟩
      have hb' := Fin.out _ hb
      clear hb
      go_wp2
      go_ret
      exact ⟨rfl, hb'⟩

theorem symsOrders_law (ao : Option Addr) (n cap : Nat) (a : List ByteArray) (bo : Option Addr) (m cbp : Nat) (b : List ByteArray) (co : Option Addr) (k ccp : Nat) (c : List ByteArray) (w : World) (ha : Sp.Row w ao n a) (hb : Sp.Row w bo m b) (hc : Sp.Row w co k c) :
    Calls Try.prog 9 #[.slice ao n cap, .slice bo m cbp, .slice co k ccp] w fun e w' => e = .returned (.bool true) ∧ Below w.heap.size w w' :=
  symsOrders_any ao bo co n m k cap cbp ccp a b c w ha hb hc

end Go.Proofs.Ytimjgjhdkinhoaa
