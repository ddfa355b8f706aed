/-
  The reference's Both and Less.
-/
import Derived.Test.YtimjgjhdkinhoaaWalkO
import Derived.Test.YtimjgjhdkinhoaaWalkL
import Derived.Test.YtimjgjhdkinhoaaWalkB
set_option linter.unusedVariables false
namespace Go.Proofs.Ytimjgjhdkinhoaa
open Go.RowKit

theorem refAsked_any (ao bo : Option Addr) (n m cap cbp : Nat) (a b : List ByteArray) (w : World) (ha : Sp.Row w ao n a) (hb : Sp.Row w bo m b) :
    Calls Try.prog 73 #[.slice ao n cap, .slice bo m cbp] w fun e w' => e = .returned (.int .i64 (Sp.errTwo a b)) ∧ Below w.heap.size w w' := by
  have HA := Sp.hid (refValidate_any ao n cap a w ha)
  by_cases h0 : Sp.errAlpha a = 0
  · have hf := Sp.hid (show Sp.errTwo a b = Sp.errAlpha b by unfold Sp.errTwo; rw [if_pos h0])
    rw [h0] at HA
    clear h0
    have HB := Sp.hid (fun w1 h1 => refValidate_any bo m cbp b w1 h1)
    generalize Sp.errAlpha b = r at HB hf
    go_enter Try.func73, Try.ntmps73
    go_wp2_with fail
    refine HA.out.mono ?_
    rintro e w1 ⟨rfl, hq⟩
    have b1 := Sp.below_of_drew hq
    clear hq
    go_wp2_with fail
    refine (HB.out _ (hb.below b1)).mono ?_
    rintro e w2 ⟨rfl, hq⟩
    have b2 := b1.trans ((Sp.below_of_drew hq).mono b1.size)
    clear hq
    go_wp2_with fail
    go_ret
    exact ⟨by rw [hf.out]; rfl, b2⟩
  · have hf := Sp.hid (show Sp.errTwo a b = Sp.errAlpha a by unfold Sp.errTwo; rw [if_neg h0])
    obtain ⟨r, hr⟩ : ∃ r, Sp.errAlpha a = r := ⟨_, rfl⟩
    rw [hr] at HA hf h0
    have h1 : (r == 0) = false := by simpa using h0
    clear hr h0
    go_enter Try.func73, Try.ntmps73
    go_wp2_with fail
    refine HA.out.mono ?_
    rintro e w1 ⟨rfl, hq⟩
    have b1 := Sp.below_of_drew hq
    clear hq
    go_wp2_with fail
    go_ret
    exact ⟨by rw [hf.out]; rfl, b1⟩

set_option maxHeartbeats 1000000 in
set_option maxRecDepth 100000 in
theorem refSome_any (ao bo : Option Addr) (n m cap cbp : Nat) (a b : List ByteArray) (t : Bool) (w : World) (ha : Sp.Row w ao n a) (hb : Sp.Row w bo m b) (hn : n ≤ 100000) :
    Calls Try.prog 78 #[.slice ao n cap, .slice bo m cbp, .bool t] w fun e w' => ∃ v, e = .returned v ∧ SlRes (a.filter fun x => Sp.inS b x == t) w w' v := by
  obtain ⟨i0, hi, hz0, hz1, hz2⟩ := info_parts strInfo
  have Hlen := Sp.hid ha.1
  have Hs := Sp.hid ha.2.2.2
  go_enter Try.func78, Try.ntmps78
  go_wp2_with fail
  go_loopw [7, 8] (fun v i wr => ∃ k : Nat, k ≤ n ∧ i = .int .i64 k ∧ wr.ownsRow w.heap.size 9 1 v ((a.take k).filter fun x => Sp.inS b x == t).length (((a.take k).filter fun x => Sp.inS b x == t).map Value.string) ∧ Below w.heap.size w wr) (fun _ i _ => n - (intOf i).toNat)
  case atStart => exact ⟨0, Nat.zero_le _, rfl, World.ownsRow_nil _ _ _ _, Below.refl _ w⟩
  case round =>
    obtain ⟨k, hk, rfl, hown, hbel⟩ := hrel
    have hsz := hbel.size
    have hxl : ((a.take k).filter fun x => Sp.inS b x == t).length ≤ k := Nat.le_trans (List.length_filter_le _ _) (by simp; omega)
    by_cases hlt : k < n
    · obtain ⟨b', off, s, rfl, hc0, hs, hl, ht⟩ := ha.at hlt
      have hc : wr.cell? ⟨b', off + k, none⟩ = some (.string s) := by rw [hbel.cell (World.block_lt_of_cell? w _ hc0)]; exact hc0
      have HI := Sp.hid (refIn_any s bo m cbp b wr (hb.below hbel))
      have HI2 := Sp.hid (show Calls Try.prog 75 #[.string s, .slice bo m cbp] wr fun e w' => e = .returned (.bool (Sp.inS b s)) ∧ wr = w' from HI.out)
      obtain ⟨xs, hxs⟩ : ∃ xs, (a.take k).filter (fun x => Sp.inS b x == t) = xs := ⟨_, rfl⟩
      rw [hxs] at hown hxl
      cases hp : (Sp.inS b s == t) with
      | false =>
        have hf := Sp.hid (show (a.take (k + 1)).filter (fun x => Sp.inS b x == t) = xs by rw [ht, List.filter_append, hxs]; simp [hp])
        obtain ⟨u, hu⟩ : ∃ u, Sp.inS b s = u := ⟨_, rfl⟩
        rw [hu] at HI2 hp
        clear hl ht hc0 hxs hu HI
        go_wp2_with fail
        refine HI2.out.mono ?_
        rintro e w1 ⟨rfl, rfl⟩
        go_wp2_with fail
        go_roundw
        case rel => exact ⟨k + 1, hlt, by go_num, by rw [hf.out]; exact hown, hbel⟩
        case measure => simp [intOf]; omega
      | true =>
        have hf := Sp.hid (show (a.take (k + 1)).filter (fun x => Sp.inS b x == t) = xs ++ [s] by rw [ht, List.filter_append, hxs]; simp [hp])
        obtain ⟨u, hu⟩ : ∃ u, Sp.inS b s = u := ⟨_, rfl⟩
        rw [hu] at HI2 hp
        clear hl ht hc0 hxs hu HI
        go_wp2_with fail
        refine HI2.out.mono ?_
        rintro e w1 ⟨rfl, rfl⟩
        go_wp2_with (at_builtin; refine wpList_append_own _ rfl _ _ 22 rfl w.heap.size 9 i0 (.string ⟨#[]⟩) 1 16 Try.underlying22 hi hz0 hz1 hz2 rfl (by decide) _ _ _ rfl (hown.alloc _) ⟨wr.heap.size, 0, none⟩ 1 1 [.string s] rfl rfl ?c1 ?c2 ?c3 ?c4 ?c5 ?_)
        case c1 =>
          intro j u hj
          match j, hj with
          | 0, hj => simp at hj; subst hj; simp [Addr.add]
        case c2 => first | rfl | trivial | (intro u hu; simp at hu; subst hu; rfl)
        case c3 => unfold maxLen; omega
        case c4 => omega
        case c5 => first | omega | (simp; omega)
        intro v' w2 hown' hgrow _
        have hown2 : w2.ownsRow w.heap.size 9 1 v' (xs ++ [s]).length ((xs ++ [s]).map Value.string) := by simpa using hown'
        have hbel2 : Below w.heap.size w w2 := (hbel.alloc (by omega) _).grown hgrow (by simp; omega) (fun k hk => (hown.lt k hk).1)
        clear hown' hgrow hown hbel hsz
        go_wp2_with fail
        go_roundw
        case rel => exact ⟨k + 1, hlt, by go_num, by rw [hf.out]; exact hown2, hbel2⟩
        case measure => simp [intOf]; omega
    · have hk' : k = n := by omega
      subst hk'
      have hkl := Sp.hid (show (a.take k) = a by rw [List.take_of_length_le (by rw [Hlen.out]; omega)])
      rw [hkl.out] at hown hxl
      obtain ⟨ao', cap', rfl, hrow, hcap⟩ := Sp.row_of_own hown (fun x hx => Hs.out x (List.mem_filter.1 hx).1) (by unfold maxLen; omega)
      clear hkl
      go_wp2_with fail
      go_ret
      exact ⟨_, rfl, ao', _, cap', rfl, hrow, hcap, hbel⟩

theorem Sp.filter_true (a b : List ByteArray) : (a.filter fun x => Sp.inS b x == true) = a.filter (Sp.inS b) := by congr 1; funext x; cases Sp.inS b x <;> rfl
theorem Sp.filter_false (a b : List ByteArray) : (a.filter fun x => Sp.inS b x == false) = a.filter (fun x => !Sp.inS b x) := by congr 1; funext x; cases Sp.inS b x <;> rfl

theorem SlRes.from {R : List ByteArray} {w0 w w' : World} {v : Value} (b : Below w0.heap.size w0 w) (h : SlRes R w w' v) : SlRes R w0 w' v := by
  obtain ⟨ao, n, cap, rfl, h1, h2, h3⟩ := h
  exact ⟨ao, n, cap, rfl, h1, h2, b.trans (h3.mono b.size)⟩

theorem refBoth_any (ao bo : Option Addr) (n m cap cbp : Nat) (a b : List ByteArray) (w : World) (ha : Sp.Row w ao n a) (hb : Sp.Row w bo m b) :
    Calls Try.prog 40 #[.slice ao n cap, .slice bo m cbp] w (PostSE (Sp.bothOf a b) (Sp.errTwo a b) w) := by
  have HV := Sp.hid (refAsked_any ao bo n m cap cbp a b w ha hb)
  by_cases h0 : Sp.errTwo a b = 0
  · have hal := Sp.errTwo_zero.1 h0
    have han : n ≤ 40 := by have := (Sp.errAlpha_zero.1 hal.1).1; rw [ha.1] at this; exact this
    have hf := Sp.hid (show Sp.bothOf a b = a.filter (Sp.inS b) by unfold Sp.bothOf; rw [if_pos h0])
    have HS := Sp.hid (fun w1 h1 h2 => refSome_any ao bo n m cap cbp a b true w1 h1 h2 (by omega))
    rw [Sp.filter_true] at HS
    rw [h0] at HV ⊢
    clear h0 hal
    go_enter Try.func40, Try.ntmps40
    go_wp2_with fail
    refine HV.out.mono ?_
    rintro e w2 ⟨rfl, b1⟩
    have B1 := Sp.hid b1
    have HS2 := Sp.hid (HS.out _ (ha.below b1) (hb.below b1))
    clear b1
    go_wp2_with fail
    refine HS2.out.mono ?_
    rintro e w3 ⟨v, rfl, hres⟩
    go_wp2_with fail
    go_ret2
    exact ⟨v, rfl, by rw [hf.out]; exact SlRes.from B1.out hres⟩
  · have hf := Sp.hid (show Sp.bothOf a b = [] by unfold Sp.bothOf; rw [if_neg h0])
    obtain ⟨r, hr⟩ : ∃ r, Sp.errTwo a b = r := ⟨_, rfl⟩
    rw [hr] at HV h0 ⊢
    have h1 : (r == 0) = false := by simpa using h0
    clear hr h0
    go_enter Try.func40, Try.ntmps40
    go_wp2_with fail
    refine HV.out.mono ?_
    rintro e w2 ⟨rfl, b1⟩
    have B1 := Sp.hid b1
    clear b1
    go_wp2_with fail
    go_ret2
    exact ⟨_, rfl, by rw [hf.out]; exact SlRes.nil B1.out⟩

theorem refLess_any (ao bo : Option Addr) (n m cap cbp : Nat) (a b : List ByteArray) (w : World) (ha : Sp.Row w ao n a) (hb : Sp.Row w bo m b) :
    Calls Try.prog 42 #[.slice ao n cap, .slice bo m cbp] w (PostSE (Sp.lessOf a b) (Sp.errTwo a b) w) := by
  have HV := Sp.hid (refAsked_any ao bo n m cap cbp a b w ha hb)
  by_cases h0 : Sp.errTwo a b = 0
  · have hal := Sp.errTwo_zero.1 h0
    have han : n ≤ 40 := by have := (Sp.errAlpha_zero.1 hal.1).1; rw [ha.1] at this; exact this
    have hf := Sp.hid (show Sp.lessOf a b = a.filter (fun x => !Sp.inS b x) by unfold Sp.lessOf; rw [if_pos h0])
    have HS := Sp.hid (fun w1 h1 h2 => refSome_any ao bo n m cap cbp a b false w1 h1 h2 (by omega))
    rw [Sp.filter_false] at HS
    rw [h0] at HV ⊢
    clear h0 hal
    go_enter Try.func42, Try.ntmps42
    go_wp2_with fail
    refine HV.out.mono ?_
    rintro e w2 ⟨rfl, b1⟩
    have B1 := Sp.hid b1
    have HS2 := Sp.hid (HS.out _ (ha.below b1) (hb.below b1))
    clear b1
    go_wp2_with fail
    refine HS2.out.mono ?_
    rintro e w3 ⟨v, rfl, hres⟩
    go_wp2_with fail
    go_ret2
    exact ⟨v, rfl, by rw [hf.out]; exact SlRes.from B1.out hres⟩
  · have hf := Sp.hid (show Sp.lessOf a b = [] by unfold Sp.lessOf; rw [if_neg h0])
    obtain ⟨r, hr⟩ : ∃ r, Sp.errTwo a b = r := ⟨_, rfl⟩
    rw [hr] at HV h0 ⊢
    have h1 : (r == 0) = false := by simpa using h0
    clear hr h0
    go_enter Try.func42, Try.ntmps42
    go_wp2_with fail
    refine HV.out.mono ?_
    rintro e w2 ⟨rfl, b1⟩
    have B1 := Sp.hid b1
    clear b1
    go_wp2_with fail
    go_ret2
    exact ⟨_, rfl, by rw [hf.out]; exact SlRes.nil B1.out⟩

end Go.Proofs.Ytimjgjhdkinhoaa
