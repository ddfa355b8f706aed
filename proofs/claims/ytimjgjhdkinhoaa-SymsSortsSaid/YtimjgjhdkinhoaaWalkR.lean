/-
  The reference's Either.
-/
import Derived.Test.YtimjgjhdkinhoaaWalkQ
set_option linter.unusedVariables false
namespace Go.Proofs.Ytimjgjhdkinhoaa
open Go.RowKit

/-- A row of strings appended to a row of the call's own. -/
theorem append_row {w : World} {ops : Array Oper} {rest : List Oper} {o : Oper} {a : Act} {Q : Exit → Act → World → Prop} (hgd : o.guard = none) (s x : Operand)
    (ho : o.op = .call { callee := .builtin .append, args := #[s, x], argTypes := #[22, 22] })
    (base : Nat) (v : Value) (xs : List ByteArray) (hs : a.eval s = v) (hown : w.ownsRow base 9 1 v xs.length (xs.map Value.string))
    (ao : Option Addr) (n cap : Nat) (l : List ByteArray) (hx : a.eval x = .slice ao n cap) (hrow : Sp.Row w ao n l) (hnc : Sp.NC ao cap) (hbig : xs.length + n ≤ 100000) (hbase : base ≤ w.heap.size)
    (h : ∀ v' w', w'.ownsRow base 9 1 v' (xs ++ l).length ((xs ++ l).map Value.string) → w.grownBy w' v.ownBlock → wpList Try.prog ops Q rest (a.put o.dst v') w') : wpList Try.prog ops Q (o :: rest) a w := by
  obtain ⟨i0, hi, hz0, hz1, hz2⟩ := info_parts strInfo
  have hrl := hrow.1
  cases ao with
  | none =>
    have hn0 : n = 0 := by
      by_cases h0 : 0 < n
      · obtain ⟨_, _, e, _⟩ := hrow.2.2.1 h0; cases e
      · omega
    have hcap0 := hnc rfl
    subst hn0 hcap0
    have hl0 : l = [] := List.length_eq_zero_iff.1 hrl
    subst hl0
    refine wpList_append_own_none hgd s x 22 ho base 9 i0 1 Try.underlying22 hi v _ _ hs hown hx (h v w ?_ ⟨rfl, rfl, rfl, Nat.le_refl _, fun _ _ _ => rfl⟩)
    rw [List.append_nil]; exact hown
  | some ad =>
    have hnews : ∀ j u, (l.map Value.string)[j]? = some u → w.cell? (ad.add j) = some u := by
      intro i u hu
      have hil : i < n := by
        have := (List.getElem?_eq_some_iff.1 hu).1
        simp at this; omega
      obtain ⟨b2, off2, e2, hc2⟩ := hrow.2.2.1 (by omega)
      cases e2
      have := hc2 i hil
      rw [show (⟨b2, off2, none⟩ : Addr).add i = ⟨b2, off2 + i, none⟩ from by unfold Addr.add; split <;> simp_all, this, ← hu]
      have hil2 : i < l.length := by omega
      simp [List.getD, hil2]
    refine wpList_append_own w hgd s x 22 ho base 9 i0 (.string ⟨#[]⟩) 1 16 Try.underlying22 hi hz0 hz1 hz2 rfl (by decide) v _ _ hs hown ad n cap (l.map Value.string) hx (by simp; omega) hnews (fun u hu => by obtain ⟨s, _, rfl⟩ := List.mem_map.1 hu; rfl) (by unfold maxLen; omega) (by omega) hbase ?_
    intro v' w' hown' hgrow _
    exact h v' w' (by simpa [hrl] using hown') hgrow

theorem refEither_bad (ao bo : Option Addr) (n m cap cbp : Nat) (a b : List ByteArray) (w : World) (ha : Sp.Row w ao n a) (hb : Sp.Row w bo m b) (h0 : Sp.errTwo a b ≠ 0) :
    Calls Try.prog 37 #[.slice ao n cap, .slice bo m cbp] w fun e w' => e = .returned (.tuple #[.slice none 0 0, .int .i64 (Sp.errTwo a b)]) ∧ Below w.heap.size w w' := by
  have HV := Sp.hid (refAsked_any ao bo n m cap cbp a b w ha hb)
  obtain ⟨r, hr⟩ : ∃ r, Sp.errTwo a b = r := ⟨_, rfl⟩
  rw [hr] at HV h0 ⊢
  have h1 : (r == 0) = false := by simpa using h0
  clear hr h0
  go_enter Try.func37, Try.ntmps37
  go_wp2_with fail
  refine HV.out.mono ?_
  rintro e w2 ⟨rfl, b1⟩
  go_wp2_with fail
  go_ret2
  exact ⟨rfl, b1⟩

set_option maxHeartbeats 1000000 in
set_option maxRecDepth 100000 in
theorem refEither_good (ao bo : Option Addr) (n m cap cbp : Nat) (a b : List ByteArray) (w : World) (ha : Sp.Row w ao n a) (hb : Sp.Row w bo m b) (hna : Sp.NC ao cap) (hnb : Sp.NC bo cbp) (h0 : Sp.errTwo a b = 0) :
    Calls Try.prog 37 #[.slice ao n cap, .slice bo m cbp] w fun e w' => ∃ R, Sp.SetOf R (a ++ b) (fun _ => true) ∧ PostSE (if 40 < R.length then [] else R) (if 40 < R.length then 3 else 0) w e w' := by
  have hal := Sp.errTwo_zero.1 h0
  have han : n ≤ 40 := by have := (Sp.errAlpha_zero.1 hal.1).1; rw [ha.1] at this; exact this
  have hbm : m ≤ 40 := by have := (Sp.errAlpha_zero.1 hal.2).1; rw [hb.1] at this; exact this
  have HV := Sp.hid (refAsked_any ao bo n m cap cbp a b w ha hb)
  rw [h0] at HV
  have Hsa := Sp.hid ha.2.2.2
  have Hsb := Sp.hid hb.2.2.2
  have Hla := Sp.hid ha.1
  have Hlb := Sp.hid hb.1
  clear hal h0
  go_enter Try.func37, Try.ntmps37
  go_wp2_with fail
  refine HV.out.mono ?_
  rintro e w1 ⟨rfl, b1⟩
  have ha1 := ha.below b1
  have hb1 := hb.below b1
  have hown0 : (w1.alloc (.cells #[] 9)).ownsRow w1.heap.size 9 1 (.slice (some ⟨w1.heap.size, 0, none⟩) 0 0) ([] : List ByteArray).length (([] : List ByteArray).map Value.string) :=
    ⟨rfl, .inr ⟨w1.heap.size, 0, #[], rfl, Nat.le_refl _, by rw [show (w1.alloc (.cells #[] 9)).heap = w1.heap.push (.cells #[] 9 (0, 0)) from rfl]; simp, Nat.le_refl _, by decide, rfl, rfl⟩⟩
  have ba : Below w1.heap.size w1 (w1.alloc (.cells #[] 9)) := (Below.refl _ w1).alloc (Nat.le_refl _) _
  clear ha hb
  go_wp2_with (at_builtin; refine append_row rfl _ _ rfl w1.heap.size _ [] rfl hown0 ao n cap a rfl (ha1.below ba) hna (by simp; omega) (by simp) ?_)
  intro v2 w2 hown2 hgrow2
  have b2 : Below w1.heap.size w1 w2 := ba.grown hgrow2 (by simp) (fun k hk => (hown0.lt k hk).1)
  have hb2 := hb1.below b2
  have hl2 := b2.size
  have hla2 : ([] ++ a : List ByteArray).length = n := by rw [List.nil_append]; exact Hla.out
  clear hgrow2 ba hown0 ha1 hb1
  go_wp2_with (at_builtin; refine append_row rfl _ _ rfl w1.heap.size v2 ([] ++ a) rfl hown2 bo m cbp b rfl hb2 hnb (by omega) hl2 ?_)
  intro v3 w3 hown3 hgrow3
  have b3 : Below w1.heap.size w1 w3 := b2.grown hgrow3 hl2 (fun k hk => (hown2.lt k hk).1)
  have hown3 : w3.ownsRow w1.heap.size 9 1 v3 (a ++ b).length ((a ++ b).map Value.string) := by simpa using hown3
  have hlab : (a ++ b).length = n + m := by rw [List.length_append, Hla.out, Hlb.out]
  obtain ⟨o3, c3, hv3, hrow3, hc3⟩ := Sp.row_of_own hown3 (fun x hx => by rcases List.mem_append.1 hx with h | h; exact Hsa.out x h; exact Hsb.out x h) (by unfold maxLen; omega)
  rw [hlab] at hv3 hrow3 hc3
  subst hv3
  obtain ⟨nm, hnm⟩ : ∃ nm, n + m = nm := ⟨_, rfl⟩
  rw [hnm] at hrow3 hc3 ⊢
  have HS := Sp.hid (refSet_any o3 nm c3 (a ++ b) w3 hrow3 (by omega))
  have b4 := b1.trans (b3.mono b1.size)
  clear hgrow3 hown2 hown3 hb2 b2 b3 hla2 hrow3 hlab
  go_wp2_with fail
  refine HS.out.mono ?_
  rintro e w4 ⟨v, R, rfl, hR, o4, n4, c4, rfl, hrow4, hcap4, hb5⟩
  have hb6 := b4.trans (hb5.mono b4.size)
  have HR := Sp.hid hR
  have Hn4 := Sp.hid hrow4.1
  have Hb6 := Sp.hid hb6
  have Hrow4 := Sp.hid hrow4
  clear hR hb5 hb6 hrow4
  by_cases hlt : 40 < n4
  · go_wp2_with fail
    go_ret2
    exact ⟨R, HR.out, by rw [if_pos (by rw [Hn4.out]; exact hlt), if_pos (by rw [Hn4.out]; exact hlt)]; exact ⟨_, rfl, SlRes.nil Hb6.out⟩⟩
  · go_wp2_with fail
    go_ret2
    exact ⟨R, HR.out, by rw [if_neg (by rw [Hn4.out]; exact hlt), if_neg (by rw [Hn4.out]; exact hlt)]; exact ⟨_, rfl, o4, n4, c4, rfl, Hrow4.out, hcap4, Hb6.out⟩⟩

end Go.Proofs.Ytimjgjhdkinhoaa
