/-
  The walk of slices.BinarySearch at strings.
-/
import Derived.Test.YtnaojfhhjknejaaMgAuNfaAuFol
import Derived.Test.YtnaojfhhjknejaaRows
import Derived.Test.YtnaojfhhjknejaaMgSpecOSpecE
import Derived.WalkKit
import Derived.WalkSpells
import Derived.WalkLawsBesides
import Derived.IntWalk
set_option linter.unusedVariables false
namespace Go.Proofs.Ytnaojfhhjknejaa
open Go.RowKit

theorem str_eq (s t : ByteArray) (h : s = t) : (s.toList == t.toList) = true := by subst h; simp
theorem str_ne (s t : ByteArray) (h : s ≠ t) : (s.toList == t.toList) = false := by
  simp only [beq_eq_false_iff_ne, ne_eq]
  intro e
  apply h
  rw [ByteArray.toList_eq, ByteArray.toList_eq] at e
  cases s; cases t; simp at e; simp [e]

set_option maxHeartbeats 400000 in
theorem cmpNaN_any (s : ByteArray) (w : World) :
    Calls Try.prog 62 #[.string s] w fun e w' => e = .returned (.bool false) ∧ w = w' := by
  go_enter Try.func62, Try.ntmps62
  go_wp2_with fail
  go_ret
  exact ⟨rfl, rfl⟩
set_option maxHeartbeats 400000 in
theorem cmpLess_any (s t : ByteArray) (w : World) :
    Calls Try.prog 49 #[.string s, .string t] w fun e w' => e = .returned (.bool (Sp.less s t)) ∧ w = w' := by
  go_enter Try.func49, Try.ntmps49
  go_wp2_with (go_at_call 62; refine (cmpNaN_any _ _).mono ?_; rintro e w' ⟨rfl, rfl⟩)
  go_ret
  exact ⟨rfl, rfl⟩

/-- Where a text stands, or belongs. -/
def BsPost (l : List ByteArray) (s : ByteArray) (w : World) (e : Ending) (w' : World) : Prop :=
  ∃ i : Nat, e = .returned (.tuple #[.int .i64 i, .bool (Nf.bl (s ∈ l))]) ∧ i ≤ l.length ∧ (s ∈ l → l[i]? = some s) ∧ w = w'

theorem asc_get {l : List ByteArray} (h : Sp.Asc l) {i j : Nat} {a b : ByteArray} (hi : l[i]? = some a) (hj : l[j]? = some b) (hij : i < j) : Sp.less a b = true := by
  obtain ⟨hi1, hi2⟩ := List.getElem?_eq_some_iff.1 hi
  obtain ⟨hj1, hj2⟩ := List.getElem?_eq_some_iff.1 hj
  unfold Sp.Asc at h
  rw [List.pairwise_iff_getElem] at h
  have := h i j hi1 hj1 hij
  rwa [hi2, hj2] at this
def BsLo (l : List ByteArray) (s : ByteArray) (lo : Nat) : Prop := ∀ j y, l[j]? = some y → j < lo → Sp.less y s = true
def BsHi (l : List ByteArray) (s : ByteArray) (hi : Nat) : Prop := ∀ j y, l[j]? = some y → hi ≤ j → Sp.less y s = false
theorem bsLo_step {l : List ByteArray} {s y : ByteArray} {m : Nat} (h : Sp.Asc l) (hm : l[m]? = some y) (hl : Sp.less y s = true) : BsLo l s (m + 1) := by
  intro j z hz hj
  by_cases e : j = m
  · subst e; rw [hm] at hz; cases hz; exact hl
  · exact Sp.less_trans (asc_get h hz hm (by omega)) hl
theorem bsHi_step {l : List ByteArray} {s y : ByteArray} {m : Nat} (h : Sp.Asc l) (hm : l[m]? = some y) (hl : Sp.less y s = false) : BsHi l s m := by
  intro j z hz hj
  by_cases e : j = m
  · subst e; rw [hm] at hz; cases hz; exact hl
  · cases hzs : Sp.less z s with
    | false => rfl
    | true =>
      have := Sp.less_trans (asc_get h hm hz (by omega)) hzs
      rw [hl] at this; cases this
theorem bs_in {l : List ByteArray} {s : ByteArray} {i : Nat} (h1 : BsLo l s i) (h2 : BsHi l s i) (ha : Sp.Asc l) (hs : s ∈ l) : l[i]? = some s := by
  obtain ⟨j, hj, e⟩ := List.mem_iff_getElem.1 hs
  have hjs : l[j]? = some s := by rw [List.getElem?_eq_getElem hj, e]
  by_cases hlt : j < i
  · have := h1 j s hjs hlt
    rw [Sp.less_irrefl] at this; cases this
  · by_cases he : j = i
    · subst he; exact hjs
    · have hil : i < l.length := by omega
      have h3 := h2 i l[i] (List.getElem?_eq_getElem hil) (Nat.le_refl _)
      have h4 := asc_get ha (List.getElem?_eq_getElem hil) hjs (by omega)
      rw [h3] at h4; cases h4

set_option maxHeartbeats 1000000 in
set_option maxRecDepth 100000 in
theorem binarySearch_any (ao : Option Addr) (n cap : Nat) (l : List ByteArray) (s : ByteArray) (w : World) (h : Sp.Row w ao n l) (hn : n ≤ 1000000) (ha : Sp.Asc l) :
    Calls Try.prog 27 #[.slice ao n cap, .string s] w (BsPost l s w) := by
  have Ha := Sp.hid ha
  have Hlen := Sp.hid h.1
  clear ha
  go_enter Try.func27, Try.ntmps27
  go_wp2_with fail
  go_loop [7, 8, 9] (fun a b _ => ∃ lo hi : Nat, lo ≤ hi ∧ hi ≤ n ∧ a = .int .i64 lo ∧ b = .int .i64 hi ∧ BsLo l s lo ∧ BsHi l s hi) (fun a b _ => (intOf b).toNat - (intOf a).toNat)
  case atStart => exact ⟨0, n, Nat.zero_le _, Nat.le_refl _, rfl, rfl, fun j y _ hj => absurd hj (by omega), fun j y hy hj => absurd (List.getElem?_eq_some_iff.1 hy).1 (by rw [Hlen.out]; omega)⟩
  case round =>
    obtain ⟨lo, hi, hlh, hhn, rfl, rfl, hlo, hhi⟩ := hrel
    have Hlo := Sp.hid hlo
    have Hhi := Sp.hid hhi
    clear hlo hhi
    by_cases hlt : lo < hi
    · have hm1 : lo ≤ (lo + hi) / 2 := by omega
      have hm2 : (lo + hi) / 2 < hi := by omega
      obtain ⟨b, off, y, rfl, hc, hys, hy, _⟩ := h.at (k := (lo + hi) / 2) (by omega)
      have HC := Sp.hid (cmpLess_any y s w)
      have Hy := Sp.hid hy
      clear hy
      cases hl : Sp.less y s with
      | true =>
        have Hs := Sp.hid (bsLo_step Ha.out Hy.out hl)
        rw [hl] at HC
        clear hl
        go_wp2_with fail
        refine HC.out.mono ?_
        rintro e w' ⟨rfl, rfl⟩
        go_wp2_with fail
        go_round
        case rel => exact ⟨(lo + hi) / 2 + 1, hi, by omega, hhn, by go_num, rfl, Hs.out, Hhi.out⟩
        case measure => simp [intOf]; omega
      | false =>
        have Hs := Sp.hid (bsHi_step Ha.out Hy.out hl)
        rw [hl] at HC
        clear hl
        go_wp2_with fail
        refine HC.out.mono ?_
        rintro e w' ⟨rfl, rfl⟩
        go_wp2_with fail
        go_round
        case rel => exact ⟨lo, (lo + hi) / 2, by omega, by omega, rfl, by go_num, Hlo.out, Hs.out⟩
        case measure => simp [intOf]; omega
    · have he : hi = lo := by omega
      subst he
      by_cases hin : hi < n
      · obtain ⟨b, off, y, rfl, hc, hys, hy, _⟩ := h.at (k := hi) hin
        by_cases hye : y = s
        · subst hye
          have hm := List.mem_of_getElem? hy
          have hf := Sp.hid (show Nf.bl (y ∈ l) = true from Nf.bl_true hm)
          have Hy := Sp.hid hy
          clear hy hm
          go_wp2_with fail
          go_ret2
          exact ⟨hi, by rw [hf.out]; rfl, by rw [Hlen.out]; omega, fun _ => Hy.out, rfl⟩
        · have hne := str_ne y s hye
          have hnm : s ∉ l := fun hm => by
            have := bs_in Hlo.out Hhi.out Ha.out hm
            rw [hy] at this; exact hye (by injection this)
          have hf := Sp.hid (show Nf.bl (s ∈ l) = false from Nf.bl_false hnm)
          have Hnm := Sp.hid hnm
          have HN := Sp.hid (show ∀ (t : ByteArray) (w : World), Calls Try.prog 50 #[.string t] w fun e w' => e = .returned (.bool false) ∧ w = w' from fun t w => by
            go_enter Try.func50, Try.ntmps50
            go_wp2_with fail
            go_ret
            exact ⟨rfl, rfl⟩)
          clear hye hy hnm
          go_wp2_with (go_at_call 50; refine (HN.out _ _).mono ?_; rintro e w' ⟨rfl, rfl⟩)
          go_ret2
          exact ⟨hi, by rw [hf.out]; rfl, by rw [Hlen.out]; omega, fun hm => absurd hm Hnm.out, rfl⟩
      · have hnm : s ∉ l := fun hm => by
          have := (List.getElem?_eq_some_iff.1 (bs_in Hlo.out Hhi.out Ha.out hm)).1
          rw [Hlen.out] at this; omega
        have hf := Sp.hid (show Nf.bl (s ∈ l) = false from Nf.bl_false hnm)
        have Hnm := Sp.hid hnm
        clear hnm
        go_wp2_with fail
        go_ret2
        exact ⟨hi, by rw [hf.out]; rfl, by rw [Hlen.out]; omega, fun hm => absurd hm Hnm.out, rfl⟩

end Go.Proofs.Ytnaojfhhjknejaa
