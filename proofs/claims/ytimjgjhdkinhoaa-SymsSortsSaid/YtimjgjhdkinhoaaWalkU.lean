/-
  The reference's Words, Into and Shortlex.
-/
import Derived.Test.YtimjgjhdkinhoaaWalkT
set_option linter.unusedVariables false
namespace Go.Proofs.Ytimjgjhdkinhoaa
open Go.RowKit

theorem refWords_any (ao : Option Addr) (n cap : Nat) (els : List Lst) (w : World) (h : Sp.RowE w ao n els) :
    Calls Try.prog 66 #[.slice ao n cap] w fun e w' => e = .returned (.int .i64 (Sp.errWords (Sp.lists els))) ∧ w = w' := by
  have hn : n ≤ 9223372036854775807 := by have := h.2.1; unfold maxLen at this; exact this
  have Hll := Sp.hid (show (Sp.lists els).length = n by simp [Sp.lists, h.1])
  go_enter Try.func66, Try.ntmps66
  go_wp2_with fail
  go_loop [3, 4] (fun i _ => ∃ k : Nat, k ≤ n ∧ i = .int .i64 k ∧ ∀ x ∈ (Sp.lists els).take k, Sp.errWord x = 0) (fun i _ => n - (intOf i).toNat)
  case atStart => exact ⟨0, Nat.zero_le _, rfl, by simp⟩
  case round =>
    obtain ⟨k, hk, rfl, hall⟩ := hrel
    have Hall := Sp.hid hall
    clear hall
    by_cases hlt : k < n
    · obtain ⟨b, off, x, rfl, hc, hrow, hl, ht⟩ := h.at hlt
      have HV := Sp.hid (refValidateWord_any x.ao x.n x.cap x.l w hrow)
      have hk1 : (Sp.lists els)[k]? = some x.l := by simp [Sp.lists, hl]
      by_cases he : Sp.errWord x.l = 0
      · have hs1 := Sp.hid (show ∀ y ∈ (Sp.lists els).take (k + 1), Sp.errWord y = 0 by
          intro y hy
          have e : (Sp.lists els).take (k + 1) = (Sp.lists els).take k ++ [x.l] := by simp [Sp.lists, ← List.map_take, ht]
          rw [e] at hy
          rcases List.mem_append.1 hy with hy | hy
          · exact Hall.out y hy
          · simp at hy; subst hy; exact he)
        rw [he] at HV
        clear hl ht hk1 he hrow
        go_wp2_with fail
        refine HV.out.mono ?_
        rintro e w1 ⟨rfl, rfl⟩
        go_wp2_with fail
        go_round
        case rel => exact ⟨k + 1, hlt, by go_num, hs1.out⟩
        case measure => simp [intOf]; omega
      · have hf := Sp.hid (show Sp.errWords (Sp.lists els) = Sp.errWord x.l from Sp.errWords_bad Hall.out hk1 he)
        obtain ⟨r, hr⟩ : ∃ r, Sp.errWord x.l = r := ⟨_, rfl⟩
        rw [hr] at HV hf he
        have h1 : (r == 0) = false := by simpa using he
        clear hl ht hk1 he hrow hr
        go_wp2_with fail
        refine HV.out.mono ?_
        rintro e w1 ⟨rfl, rfl⟩
        go_wp2_with fail
        go_ret
        exact ⟨by rw [hf.out]; rfl, rfl⟩
    · have hk' : k = n := by omega
      have hf := Sp.hid (show Sp.errWords (Sp.lists els) = 0 from Sp.errWords_good fun x hx => Hall.out x (by rw [List.take_of_length_le (by rw [Hll.out]; omega)]; exact hx))
      clear hk'
      go_wp2_with fail
      go_ret
      exact ⟨by rw [hf.out]; rfl, rfl⟩

/-- Words appended to a row of the call's own. -/
theorem append_words {w : World} {ops : Array Oper} {rest : List Oper} {o : Oper} {a : Act} {Q : Exit → Act → World → Prop} (hgd : o.guard = none) (s x : Operand)
    (ho : o.op = .call { callee := .builtin .append, args := #[s, x], argTypes := #[42, 42] })
    (base : Nat) (v : Value) (xs : List Lst) (hs : a.eval s = v) (hown : w.ownsRow base 22 1 v xs.length (xs.map Lst.val))
    (ao : Option Addr) (n cap : Nat) (l : List Lst) (hx : a.eval x = .slice ao n cap) (hl : l.length = n)
    (hsrc : (ao = none ∧ n = 0 ∧ cap = 0) ∨ ∃ ad, ao = some ad ∧ ∀ j y, l[j]? = some y → w.cell? (ad.add j) = some y.val) (hbig : xs.length + n ≤ 100000) (hbase : base ≤ w.heap.size)
    (h : ∀ v' w', w'.ownsRow base 22 1 v' (xs ++ l).length ((xs ++ l).map Lst.val) → w.grownBy w' v.ownBlock → wpList Try.prog ops Q rest (a.put o.dst v') w') : wpList Try.prog ops Q (o :: rest) a w := by
  obtain ⟨i0, hi, hz0, hz1, hz2⟩ := info_parts rowInfo
  rcases hsrc with ⟨rfl, rfl, rfl⟩ | ⟨ad, rfl, hc⟩
  · have hl0 : l = [] := List.length_eq_zero_iff.1 hl
    subst hl0
    refine wpList_append_own_none hgd s x 42 ho base 22 i0 1 Try.underlying42 hi v _ _ hs hown hx (h v w ?_ ⟨rfl, rfl, rfl, Nat.le_refl _, fun _ _ _ => rfl⟩)
    rw [List.append_nil]; exact hown
  · have hnews : ∀ j u, (l.map Lst.val)[j]? = some u → w.cell? (ad.add j) = some u := by
      intro i u hu
      simp only [List.getElem?_map, Option.map_eq_some_iff] at hu
      obtain ⟨y, hy, rfl⟩ := hu
      exact hc i y hy
    refine wpList_append_own w hgd s x 42 ho base 22 i0 (.slice none 0 0) 1 24 Try.underlying42 hi hz0 hz1 hz2 rfl (by decide) v _ _ hs hown ad n cap (l.map Lst.val) hx (by simp; omega) hnews (fun u hu => by obtain ⟨s, _, rfl⟩ := List.mem_map.1 hu; rfl) (by unfold maxLen; omega) (by omega) hbase ?_
    intro v' w' hown' hgrow _
    exact h v' w' (by simpa [hl] using hown') hgrow

/-- A row of the call's own as words. -/
theorem Sp.rowE_of_own {w : World} {base : Nat} {v : Value} {xs : List Lst} (h : w.ownsRow base 22 1 v xs.length (xs.map Lst.val)) (hs : ∀ x ∈ xs, Sp.Row w x.ao x.n x.l) (hm : xs.length ≤ maxLen) :
    ∃ ao cap, v = .slice ao xs.length cap ∧ Sp.RowE w ao xs.length xs ∧ xs.length ≤ cap ∧ Sp.NC ao cap := by
  have hc := @World.ownsRow.cells _ _ _ _ _ _ _ h
  rcases h.2 with ⟨rfl, h0⟩ | ⟨g, cap, cur, rfl, _, _, hcap, _⟩
  · rw [h0]
    exact ⟨none, 0, rfl, ⟨h0, by decide, fun h => absurd h (by omega), hs⟩, Nat.le_refl _, fun _ => rfl⟩
  · refine ⟨some ⟨g, 0, none⟩, cap, rfl, ⟨rfl, hm, fun _ => ⟨g, 0, rfl, fun i x hx => ?_⟩, hs⟩, hcap, fun h => by cases h⟩
    have h1 := hc (g := g) rfl i x.val (by simp [hx])
    have e : (⟨g, 0, none⟩ : Addr).add i = ⟨g, 0 + i, none⟩ := by unfold Addr.add; split <;> simp_all
    rw [e] at h1
    exact h1

end Go.Proofs.Ytimjgjhdkinhoaa
