/-
  Both, Less and Either of package syms.
-/
import Derived.Test.YtimjgjhdkinhoaaWalkN
set_option linter.unusedVariables false
namespace Go.Proofs.Ytimjgjhdkinhoaa
open Go.RowKit Go.Sort

def PostNE (xs : List ByteArray) (err : Int) (w : World) (e : Ending) (w' : World) : Prop := ∃ v, e = .returned (.tuple #[v, .int .i64 err]) ∧ NCRes xs w w' v

theorem NCRes.nil {w w' : World} (h : Below w.heap.size w w') : NCRes [] w w' (.slice none 0 0) :=
  ⟨none, 0, 0, rfl, ⟨rfl, by decide, fun h => absurd h (by omega), by simp⟩, Nat.le_refl _, fun _ => rfl, h⟩
theorem NCRes.from {R : List ByteArray} {w0 w w' : World} {v : Value} (b : Below w0.heap.size w0 w) (h : NCRes R w w' v) : NCRes R w0 w' v := by
  obtain ⟨ao, n, cap, rfl, h1, h2, h3, h4⟩ := h
  exact ⟨ao, n, cap, rfl, h1, h2, h3, b.trans (h4.mono b.size)⟩

theorem contains_any (ao : Option Addr) (n cap : Nat) (l : List ByteArray) (x : ByteArray) (w : World) (h : Sp.Row w ao n l) :
    Calls Try.prog 77 #[.slice ao n cap, .string x] w fun e w' => e = .returned (.bool (Sp.inS l x)) ∧ w' = w := by
  obtain ⟨hl, hm, hc, hs⟩ := h
  have hlm := hm
  unfold maxLen at hlm
  by_cases h0 : n = 0
  · subst h0
    have hl0 : l = [] := List.length_eq_zero_iff.1 hl
    subst hl0
    exact Try.slices_Contains_string_empty ao cap x w
  · obtain ⟨b, off, rfl, hcc⟩ := hc (by omega)
    have := Try.slices_Contains_string b off n cap l x w (by omega) (by omega) (fun j hj => hcc j (by omega))
    refine this.mono fun e w' ⟨h1, h2⟩ => ⟨?_, h2⟩
    rw [h1, List.take_of_length_le (by omega)]
    congr 2
    cases h : Sp.inS l x with
    | true => rw [Lib.containsS_iff]; exact (Sp.inS_iff l x).1 h
    | false =>
      cases k : Lib.containsS l x with
      | false => rfl
      | true => rw [Lib.containsS_iff, ← Sp.inS_iff] at k; rw [k] at h; cases h

theorem validateBoth_any (ao bo : Option Addr) (n m cap cbp : Nat) (a b : List ByteArray) (w : World) (ha : Sp.Row w ao n a) (hb : Sp.Row w bo m b) :
    Calls Try.prog 68 #[.slice ao n cap, .slice bo m cbp] w fun e w' => e = .returned (.int .i64 (Sp.errTwo a b)) ∧ w = w' := by
  have HA := Sp.hid (validate_any ao n cap a w ha)
  have HB := Sp.hid (validate_any bo m cbp b w hb)
  by_cases h0 : Sp.errAlpha a = 0
  · have hf := Sp.hid (show Sp.errTwo a b = Sp.errAlpha b by unfold Sp.errTwo; rw [if_pos h0])
    rw [h0] at HA
    generalize Sp.errAlpha b = r at HB hf
    clear h0
    go_enter Try.func68, Try.ntmps68
    go_wp2_with fail
    refine HA.out.mono ?_
    rintro e w1 ⟨rfl, rfl⟩
    go_wp2_with fail
    refine HB.out.mono ?_
    rintro e w1 ⟨rfl, rfl⟩
    go_wp2_with fail
    go_ret
    exact ⟨by rw [hf.out]; rfl, rfl⟩
  · have hf := Sp.hid (show Sp.errTwo a b = Sp.errAlpha a by unfold Sp.errTwo; rw [if_neg h0])
    obtain ⟨r, hr⟩ : ∃ r, Sp.errAlpha a = r := ⟨_, rfl⟩
    rw [hr] at HA hf h0
    have h1 : (r == 0) = false := by simpa using h0
    clear hr h0
    go_enter Try.func68, Try.ntmps68
    go_wp2_with fail
    refine HA.out.mono ?_
    rintro e w1 ⟨rfl, rfl⟩
    go_wp2_with fail
    go_ret
    exact ⟨by rw [hf.out]; rfl, rfl⟩

theorem either1_any (lb : Array Value) (x : ByteArray) (w : World) :
    Calls Try.prog 72 #[.string x] w fun e w' => e = .returned (.bool true) ∧ w' = w := by
  go_enter Try.func72, Try.ntmps72
  go_wp2_with fail
  go_ret
  exact ⟨rfl, rfl⟩

theorem both1_any (x : ByteArray) (c : Nat) (bo : Option Addr) (m cbp : Nat) (b : List ByteArray) (w : World) (h : Sp.Row w bo m b) (hc : w.cell? ⟨c, 0, none⟩ = some (.slice bo m cbp)) :
    Calls Try.prog 76 #[.string x, .pointer (some ⟨c, 0, none⟩)] w fun e w' => e = .returned (.bool (Sp.inS b x)) ∧ w' = w := by
  have HC := Sp.hid (fun w' (e : w' = w) => contains_any bo m cbp b x w' (by rw [e]; exact h))
  generalize Sp.inS b x = r at HC
  go_enter Try.func76, Try.ntmps76
  go_wp2_with fail
  refine (HC.out _ rfl).mono ?_
  rintro e w' ⟨rfl, rfl⟩
  go_wp2_with fail
  go_ret
  exact ⟨rfl, rfl⟩

theorem less1_any (x : ByteArray) (c : Nat) (bo : Option Addr) (m cbp : Nat) (b : List ByteArray) (w : World) (h : Sp.Row w bo m b) (hc : w.cell? ⟨c, 0, none⟩ = some (.slice bo m cbp)) :
    Calls Try.prog 79 #[.string x, .pointer (some ⟨c, 0, none⟩)] w fun e w' => e = .returned (.bool (!Sp.inS b x)) ∧ w' = w := by
  have HC := Sp.hid (fun w' (e : w' = w) => contains_any bo m cbp b x w' (by rw [e]; exact h))
  generalize Sp.inS b x = r at HC
  go_enter Try.func79, Try.ntmps79
  go_wp2_with fail
  refine (HC.out _ rfl).mono ?_
  rintro e w' ⟨rfl, rfl⟩
  go_wp2_with fail
  go_ret
  exact ⟨rfl, rfl⟩

theorem both1_enters : ∀ args w, (callFunc 76 args).run Try.prog w = .ok (.enter 76 args) w :=
  enters_of Try.func76 (by kernel_rfl) rfl
theorem less1_enters : ∀ args w, (callFunc 79 args).run Try.prog w = .ok (.enter 79 args) w :=
  enters_of Try.func79 (by kernel_rfl) rfl
theorem either1_enters : ∀ args w, (callFunc 72 args).run Try.prog w = .ok (.enter 72 args) w :=
  enters_of Try.func72 (by kernel_rfl) rfl

set_option maxHeartbeats 1000000 in
theorem both_any (ao bo : Option Addr) (n m cap cbp : Nat) (a b : List ByteArray) (w : World) (ha : Sp.Row w ao n a) (hb : Sp.Row w bo m b) :
    Calls Try.prog 39 #[.slice ao n cap, .slice bo m cbp] w (PostNE (Sp.bothOf a b) (Sp.errTwo a b) w) := by
  obtain ⟨w1, hw1⟩ : ∃ w1, w.alloc (.cells #[.slice bo m cbp] 22) = w1 := ⟨_, rfl⟩
  have b1 : Below w.heap.size w w1 := by rw [← hw1]; exact (Below.refl _ w).alloc (Nat.le_refl _) _
  have hs1 : w1.heap.size = w.heap.size + 1 := by rw [← hw1]; simp
  have hc1 : w1.cell? ⟨w.heap.size, 0, none⟩ = some (.slice bo m cbp) := by rw [← hw1]; simp
  have ha1 := ha.below b1
  have hb1 := hb.below b1
  have HV := Sp.hid (validateBoth_any ao bo n m cap cbp a b w1 ha1 hb1)
  have HW1 := Sp.hid hw1
  have Hb1 := Sp.hid b1
  by_cases h0 : Sp.errTwo a b = 0
  · have hal := Sp.errTwo_zero.1 h0
    have han : n ≤ 40 := by have := (Sp.errAlpha_zero.1 hal.1).1; rw [ha.1] at this; exact this
    have hf := Sp.hid (show Sp.bothOf a b = a.filter (Sp.inS b) by unfold Sp.bothOf; rw [if_pos h0])
    have hset := Sp.hid (Sp.SetOf.filter (Sp.asc_of_alpha hal.1) (Sp.inS b))
    have HS := Sp.hid (set_any ao n cap a w1 ha1 (by omega) (Sp.inS b) 76 #[.pointer (some ⟨w.heap.size, 0, none⟩)] both1_enters (fun W hW x _ =>
      both1_any x w.heap.size bo m cbp b W (hb1.below hW) (by rw [hW.cell (by simp; omega)]; exact hc1)))
    rw [h0] at HV ⊢
    clear h0 hw1 b1 hs1 hal
    go_enter Try.func39, Try.ntmps39
    go_wp2_with fail
    rw [HW1.out]
    refine HV.out.mono ?_
    rintro e w2 ⟨rfl, rfl⟩
    go_wp2_with fail
    refine HS.out.mono ?_
    rintro e w3 ⟨v, R, rfl, hR, _, hres⟩
    have hRe := hR.unique hset.out
    subst hRe
    go_wp2_with fail
    go_ret2
    exact ⟨v, rfl, by rw [hf.out]; exact NCRes.from Hb1.out hres⟩
  · have hf := Sp.hid (show Sp.bothOf a b = [] by unfold Sp.bothOf; rw [if_neg h0])
    obtain ⟨r, hr⟩ : ∃ r, Sp.errTwo a b = r := ⟨_, rfl⟩
    rw [hr] at HV h0 ⊢
    have h1 : (r == 0) = false := by simpa using h0
    clear hr h0 hw1 b1 hs1
    go_enter Try.func39, Try.ntmps39
    go_wp2_with fail
    rw [HW1.out]
    refine HV.out.mono ?_
    rintro e w2 ⟨rfl, rfl⟩
    go_wp2_with fail
    go_ret2
    exact ⟨_, rfl, by rw [hf.out]; exact NCRes.nil Hb1.out⟩

set_option maxHeartbeats 1000000 in
theorem less_any (ao bo : Option Addr) (n m cap cbp : Nat) (a b : List ByteArray) (w : World) (ha : Sp.Row w ao n a) (hb : Sp.Row w bo m b) :
    Calls Try.prog 41 #[.slice ao n cap, .slice bo m cbp] w (PostNE (Sp.lessOf a b) (Sp.errTwo a b) w) := by
  obtain ⟨w1, hw1⟩ : ∃ w1, w.alloc (.cells #[.slice bo m cbp] 22) = w1 := ⟨_, rfl⟩
  have b1 : Below w.heap.size w w1 := by rw [← hw1]; exact (Below.refl _ w).alloc (Nat.le_refl _) _
  have hs1 : w1.heap.size = w.heap.size + 1 := by rw [← hw1]; simp
  have hc1 : w1.cell? ⟨w.heap.size, 0, none⟩ = some (.slice bo m cbp) := by rw [← hw1]; simp
  have ha1 := ha.below b1
  have hb1 := hb.below b1
  have HV := Sp.hid (validateBoth_any ao bo n m cap cbp a b w1 ha1 hb1)
  have HW1 := Sp.hid hw1
  have Hb1 := Sp.hid b1
  by_cases h0 : Sp.errTwo a b = 0
  · have hal := Sp.errTwo_zero.1 h0
    have han : n ≤ 40 := by have := (Sp.errAlpha_zero.1 hal.1).1; rw [ha.1] at this; exact this
    have hf := Sp.hid (show Sp.lessOf a b = a.filter (fun x => !Sp.inS b x) by unfold Sp.lessOf; rw [if_pos h0])
    have hset := Sp.hid (Sp.SetOf.filter (Sp.asc_of_alpha hal.1) (fun x => !Sp.inS b x))
    have HS := Sp.hid (set_any ao n cap a w1 ha1 (by omega) (fun x => !Sp.inS b x) 79 #[.pointer (some ⟨w.heap.size, 0, none⟩)] less1_enters (fun W hW x _ =>
      less1_any x w.heap.size bo m cbp b W (hb1.below hW) (by rw [hW.cell (by simp; omega)]; exact hc1)))
    rw [h0] at HV ⊢
    clear h0 hw1 b1 hs1 hal
    go_enter Try.func41, Try.ntmps41
    go_wp2_with fail
    rw [HW1.out]
    refine HV.out.mono ?_
    rintro e w2 ⟨rfl, rfl⟩
    go_wp2_with fail
    refine HS.out.mono ?_
    rintro e w3 ⟨v, R, rfl, hR, _, hres⟩
    have hRe := hR.unique hset.out
    subst hRe
    go_wp2_with fail
    go_ret2
    exact ⟨v, rfl, by rw [hf.out]; exact NCRes.from Hb1.out hres⟩
  · have hf := Sp.hid (show Sp.lessOf a b = [] by unfold Sp.lessOf; rw [if_neg h0])
    obtain ⟨r, hr⟩ : ∃ r, Sp.errTwo a b = r := ⟨_, rfl⟩
    rw [hr] at HV h0 ⊢
    have h1 : (r == 0) = false := by simpa using h0
    clear hr h0 hw1 b1 hs1
    go_enter Try.func41, Try.ntmps41
    go_wp2_with fail
    rw [HW1.out]
    refine HV.out.mono ?_
    rintro e w2 ⟨rfl, rfl⟩
    go_wp2_with fail
    go_ret2
    exact ⟨_, rfl, by rw [hf.out]; exact NCRes.nil Hb1.out⟩

theorem row2_two (ao bo : Option Addr) (n m cap cbp : Nat) (a b : List ByteArray) (w : World) (ha : Sp.Row w ao n a) (hb : Sp.Row w bo m b) :
    Sp.Row2 (w.alloc (.cells #[.slice ao n cap, .slice bo m cbp] 22)) (some ⟨w.heap.size, 0, none⟩) 2 [a, b] := by
  have hbe : Below w.heap.size w (w.alloc (.cells #[.slice ao n cap, .slice bo m cbp] 22)) := (Below.refl _ w).alloc (Nat.le_refl _) _
  refine ⟨rfl, by decide, fun _ => ⟨_, _, rfl, fun i l' hi => ?_⟩⟩
  match i, hi with
  | 0, hi =>
    simp at hi
    subst hi
    exact ⟨ao, n, cap, by simp, ha.below hbe⟩
  | 1, hi =>
    simp at hi
    subst hi
    exact ⟨bo, m, cbp, by simp, hb.below hbe⟩
  | i + 2, hi => simp at hi

theorem either_bad (ao bo : Option Addr) (n m cap cbp : Nat) (a b : List ByteArray) (w : World) (ha : Sp.Row w ao n a) (hb : Sp.Row w bo m b) (h0 : Sp.errTwo a b ≠ 0) :
    Calls Try.prog 36 #[.slice ao n cap, .slice bo m cbp] w fun e w' => e = .returned (.tuple #[.slice none 0 0, .int .i64 (Sp.errTwo a b)]) ∧ w' = w := by
  have HV := Sp.hid (validateBoth_any ao bo n m cap cbp a b w ha hb)
  obtain ⟨r, hr⟩ : ∃ r, Sp.errTwo a b = r := ⟨_, rfl⟩
  rw [hr] at HV h0 ⊢
  have h1 : (r == 0) = false := by simpa using h0
  clear hr h0
  go_enter Try.func36, Try.ntmps36
  go_wp2_with fail
  refine HV.out.mono ?_
  rintro e w2 ⟨rfl, rfl⟩
  go_wp2_with fail
  go_ret2
  exact ⟨rfl, rfl⟩

set_option maxHeartbeats 1000000 in
theorem either_good (ao bo : Option Addr) (n m cap cbp : Nat) (a b : List ByteArray) (w : World) (ha : Sp.Row w ao n a) (hb : Sp.Row w bo m b) (hna : Sp.NC ao cap) (hnb : Sp.NC bo cbp) (h0 : Sp.errTwo a b = 0) :
    Calls Try.prog 36 #[.slice ao n cap, .slice bo m cbp] w fun e w' => ∃ R, Sp.SetOf R (a ++ b) (fun _ => true) ∧ PostNE (if 40 < R.length then [] else R) (if 40 < R.length then 3 else 0) w e w' := by
  have hal := Sp.errTwo_zero.1 h0
  have han : n ≤ 40 := by have := (Sp.errAlpha_zero.1 hal.1).1; rw [ha.1] at this; exact this
  have hbm : m ≤ 40 := by have := (Sp.errAlpha_zero.1 hal.2).1; rw [hb.1] at this; exact this
  have HV := Sp.hid (validateBoth_any ao bo n m cap cbp a b w ha hb)
  have b1 : Below w.heap.size w (w.alloc (.cells #[.slice ao n cap, .slice bo m cbp] 22)) := (Below.refl _ w).alloc (Nat.le_refl _) _
  have HC := Sp.hid (concat_any (some ⟨w.heap.size, 0, none⟩) 2 2 [a, b] (w.alloc (.cells #[.slice ao n cap, .slice bo m cbp] 22)) (row2_two ao bo n m cap cbp a b w ha hb)
    (by simp [ha.1, hb.1]; omega) (by omega) (fun k hk b' off ao' n' cap' e hc => by
      cases e
      match k, hk with
      | 0, _ => simp at hc; obtain ⟨rfl, rfl, rfl⟩ := hc; exact hna
      | 1, _ => simp at hc; obtain ⟨rfl, rfl, rfl⟩ := hc; exact hnb))
  have hfl : [a, b].flatten = a ++ b := by simp
  have hlen : (a ++ b).length ≤ 80 := by rw [List.length_append, ha.1, hb.1]; omega
  rw [hfl] at HC
  rw [h0] at HV
  have Hb1 := Sp.hid b1
  clear hal h0 hfl b1 ha hb hna hnb han hbm
  go_enter Try.func36, Try.ntmps36
  go_wp2_with fail
  refine HV.out.mono ?_
  rintro e w2 ⟨rfl, rfl⟩
  go_wp2_with fail
  refine HC.out.mono ?_
  rintro e w3 ⟨v, rfl, ao3, n3, cap3, rfl, hrow3, hcap3, hb3⟩
  have hn3 : n3 ≤ 1000 := by rw [← hrow3.1]; omega
  have HS := Sp.hid (set_any ao3 n3 cap3 (a ++ b) w3 hrow3 hn3 (fun _ => true) 72 #[] either1_enters (fun W hW x _ => either1_any #[] x W))
  have hb4 := Hb1.out.trans (hb3.mono Hb1.out.size)
  have Hb4 := Sp.hid hb4
  clear hrow3 hb3 hb4
  go_wp2_with fail
  refine HS.out.mono ?_
  rintro e w4 ⟨v, R, rfl, hR, hRn, ao4, n4, cap4, rfl, hrow4, hcap4, hnc4, hb5⟩
  have hb6 := Hb4.out.trans (hb5.mono Hb4.out.size)
  have HR := Sp.hid hR
  have Hn4 := Sp.hid hrow4.1
  have Hb6 := Sp.hid hb6
  have Hrow4 := Sp.hid hrow4
  clear hR hb5 hb6 hrow4
  by_cases hlt : 40 < n4
  · go_wp2_with fail
    go_ret2
    exact ⟨R, HR.out, by rw [if_pos (by rw [Hn4.out]; exact hlt), if_pos (by rw [Hn4.out]; exact hlt)]; exact ⟨_, rfl, NCRes.nil Hb6.out⟩⟩
  · go_wp2_with fail
    go_ret2
    exact ⟨R, HR.out, by rw [if_neg (by rw [Hn4.out]; exact hlt), if_neg (by rw [Hn4.out]; exact hlt)]; exact ⟨_, rfl, ao4, n4, cap4, rfl, Hrow4.out, hcap4, hnc4, Hb6.out⟩⟩

end Go.Proofs.Ytimjgjhdkinhoaa
