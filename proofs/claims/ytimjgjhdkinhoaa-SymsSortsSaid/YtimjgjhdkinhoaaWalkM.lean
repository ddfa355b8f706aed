/-
  slices.Grow of nothing, and slices.Concat of slices of strings.
-/
import Derived.Test.YtimjgjhdkinhoaaWalkH
import Derived.Test.YtimjgjhdkinhoaaShelfS
import Derived.Laws.AppendOwnNone
set_option linter.unusedVariables false
namespace Go.Proofs.Ytimjgjhdkinhoaa
open Go.RowKit

/-- A slice value that is a good one: nil has no room. -/
def Sp.NC (ao : Option Addr) (cap : Nat) : Prop := ao = none → cap = 0

theorem grow_any (n : Nat) (hn : n ≤ 100000) (w : World) :
    Calls Try.prog 96 #[.slice none 0 0, .int .i64 n] w fun e w' => ∃ v, e = .returned v ∧ w'.ownsRow w.heap.size 9 1 v 0 [] ∧ Below w.heap.size w w' := by
  by_cases h0 : n = 0
  · subst h0
    have := Any8.slices_Grow_room Try.growS none 0 0 0 w (by omega) (by omega) (by omega) (by omega)
    exact this.mono fun e w' ⟨h1, h2⟩ => ⟨_, h1, World.ownsRow_nil _ _ _ _, by rw [h2]; exact Below.refl _ _⟩
  · obtain ⟨i0, hi, hz0, hz1, hz2⟩ := info_parts strInfo
    have := Any8.slices_Grow_grow Try.growS i0 (.string ⟨#[]⟩) hi hz0 (by rw [hz1]; omega) none 0 0 n [] w (by omega) (by omega) (by rw [hz2]; omega) (by omega) (by simp) (fun _ => rfl) (fun a h => by cases h)
    refine this.mono ?_
    rintro e w' ⟨rfl, rfl⟩
    have hg := grownCap_ge w (0 + n) 0 9
    have hG := grownCap_le_maxLen w (0 + n) 0 9 (by unfold maxLen; omega)
    change _ ≤ grownCap w (0 + n) 0 (Try.growS_ren.t 25) at hg
    change grownCap w (0 + n) 0 (Try.growS_ren.t 25) ≤ _ at hG
    generalize grownCap w (0 + n) 0 (Try.growS_ren.t 25) = G at hg hG
    have hC : (#[] ++ Builtin.zeroCells (Value.string ⟨#[]⟩).cells (0 + n - 0) ++ Builtin.zeroCells (Value.string ⟨#[]⟩).cells (G - (0 + n))).size = G := by
      simp [size_zeroCells, Value.cells]; omega
    change (([].toArray : Array Value) ++ Builtin.zeroCells (Value.string ⟨#[]⟩).cells (0 + n - 0) ++ Builtin.zeroCells (Value.string ⟨#[]⟩).cells (G - (0 + n))).size = G at hC
    generalize (([].toArray : Array Value) ++ Builtin.zeroCells (Value.string ⟨#[]⟩).cells (0 + n - 0) ++ Builtin.zeroCells (Value.string ⟨#[]⟩).cells (G - (0 + n))) = C at hC
    have hb : Below w.heap.size w w.drew := ⟨rfl, rfl, rfl, Nat.le_refl _, fun _ _ => rfl⟩
    refine ⟨_, rfl, ⟨rfl, .inr ⟨w.heap.size, G, C, rfl, Nat.le_refl _, ?_, by omega, hG, by omega, by simp⟩⟩, hb.alloc (Nat.le_refl _) _⟩
    have e : (w.drew.alloc (.cells C (Try.growS_ren.t 25))).heap = w.heap.push (.cells C 9 (0, 0)) := rfl
    rw [e]; simp

set_option maxHeartbeats 1000000 in
set_option maxRecDepth 100000 in
theorem concat_any (bo : Option Addr) (m cbp : Nat) (ll : List (List ByteArray)) (w : World) (h : Sp.Row2 w bo m ll) (hS : (ll.map List.length).sum ≤ 1000) (hm : m ≤ 1000)
    (hNC : ∀ k, k < m → ∀ b off ao n cap, bo = some ⟨b, off, none⟩ → w.cell? ⟨b, off + k, none⟩ = some (.slice ao n cap) → Sp.NC ao cap) :
    Calls Try.prog 70 #[.slice bo m cbp] w fun e w' => ∃ v, e = .returned v ∧ SlRes ll.flatten w w' v := by
  obtain ⟨i0, hi, hz0, hz1, hz2⟩ := info_parts strInfo
  have hlen : ll.length = m := h.1
  have HNC := Sp.hid hNC
  have HS := Sp.hid hS
  have Hlen := Sp.hid hlen
  have hpre : ∀ k, k ≤ m → ((ll.take k).map List.length).sum ≤ 1000 := fun k _ => by
    have e : (ll.map List.length).sum = ((ll.take k).map List.length).sum + ((ll.drop k).map List.length).sum := by
      rw [← List.sum_append, ← List.map_append, List.take_append_drop]
    omega
  have Hpre := Sp.hid hpre
  have HG := Sp.hid (fun n hn => grow_any n hn)
  clear hNC hS hlen hpre
  go_enter Try.func70, Try.ntmps70
  go_wp2_with fail
  go_loop [3, 5, 11] (fun s _ i => ∃ k : Nat, k ≤ m ∧ i = .int .i64 k ∧ s = .int .i64 ((ll.take k).map List.length).sum) (fun _ _ i => m - (intOf i).toNat)
  case atStart => exact ⟨0, Nat.zero_le _, rfl, rfl⟩
  case round =>
    obtain ⟨k, hk, rfl, rfl⟩ := hrel
    have hk1 := Hpre.out k hk
    obtain ⟨S, hSk⟩ : ∃ S, ((ll.take k).map List.length).sum = S := ⟨_, rfl⟩
    have HSk := Sp.hid hSk
    rw [hSk] at hk1 ⊢
    clear hSk
    by_cases hlt : k < m
    · obtain ⟨b, off, ao, n, cap, l, rfl, hc, hrow, hl, ht⟩ := h.at hlt
      have hk2 := Hpre.out (k + 1) hlt
      have hs1 := Sp.hid (show ((ll.take (k + 1)).map List.length).sum = S + n by rw [ht, List.map_append, List.sum_append, HSk.out, ← hrow.1]; simp)
      rw [hs1.out] at hk2
      have hn0 : ¬ ((S : Int) + n < 0) := by omega
      clear hl ht hrow
      go_wp2_with fail
      go_round
      case rel => exact ⟨k + 1, hlt, by go_num, by rw [hs1.out]; go_num⟩
      case measure => simp [intOf]; omega
    · have hk' : k = m := by omega
      subst hk'
      have hfin := Sp.hid (show S = (ll.map List.length).sum by rw [← HSk.out, List.take_of_length_le (by rw [Hlen.out]; omega)])
      go_wp2_with fail
      refine (HG.out S (by omega) _).mono ?_
      rintro e w1 ⟨v1, rfl, hown1, hb1⟩
      have Hb1 := Sp.hid hb1
      clear hb1
      go_wp2_with fail
      go_loopw [6, 8, 27] (fun v _ i wr => ∃ j : Nat, j ≤ k ∧ i = .int .i64 j ∧ wr.ownsRow w.heap.size 9 1 v ((ll.take j).flatten).length (((ll.take j).flatten).map Value.string) ∧ Below w.heap.size w wr) (fun _ _ i _ => k - (intOf i).toNat)
      case atStart => exact ⟨0, Nat.zero_le _, rfl, hown1, Hb1.out⟩
      case round =>
        obtain ⟨j, hj, rfl, hown, hbel⟩ := hrel
        have hlj := Sp.hid (show ((ll.take j).flatten).length = ((ll.take j).map List.length).sum by rw [List.length_flatten])
        have hlj2 := Hpre.out j hj
        have hsz := hbel.size
        have hh := h.below hbel
        by_cases hlt2 : j < k
        · obtain ⟨b, off, ao, n, cap, l, rfl, hc, hrow, hl, ht⟩ := hh.at hlt2
          have hc1 : w.cell? ⟨b, off + j, none⟩ = some (.slice ao n cap) := by
            obtain ⟨b', off', ao', n', cap', l', e', hc', _⟩ := h.at hlt2
            cases e'
            have := hc'
            rw [← hbel.cell (World.block_lt_of_cell? w _ hc')] at this
            rw [hc] at this; cases this; exact hc'
          have hnc := HNC.out j hlt2 _ _ _ _ _ rfl hc1
          have hk2 := Hpre.out (j + 1) hlt2
          rw [ht, List.map_append, List.sum_append] at hk2
          simp only [List.map_cons, List.map_nil, List.sum_cons, List.sum_nil, Nat.add_zero] at hk2
          have hflat := Sp.hid (show (ll.take (j + 1)).flatten = (ll.take j).flatten ++ l by rw [ht, List.flatten_append]; simp)
          have hrl := hrow.1
          clear hl ht hc1 hh
          obtain ⟨xs, hxs⟩ : ∃ xs, (ll.take j).flatten = xs := ⟨_, rfl⟩
          rw [hxs] at hown hlj hflat
          clear hxs
          cases ao with
          | none =>
            have hn0 : n = 0 := by
              by_cases h0 : 0 < n
              · obtain ⟨_, _, e, _⟩ := hrow.2.2.1 h0; cases e
              · omega
            have hcap0 := hnc rfl
            subst hn0 hcap0
            have hl0 : l = [] := List.length_eq_zero_iff.1 hrl
            subst hl0
            clear hnc hrow
            go_wp2_with (at_builtin; refine wpList_append_own_none rfl _ _ 22 rfl w.heap.size 9 i0 1 Try.underlying22 hi _ _ _ rfl hown rfl ?_)
            go_wp2
            go_roundw
            case rel => exact ⟨j + 1, hlt2, by go_num, by rw [hflat.out, List.append_nil]; exact hown, hbel⟩
            case measure => simp [intOf]; omega
          | some ad =>
            have hnews : ∀ j u, (l.map Value.string)[j]? = some u → wr.cell? (ad.add j) = some u := by
              intro i u hu
              have hil : i < n := by
                have := (List.getElem?_eq_some_iff.1 hu).1
                simp at this; omega
              obtain ⟨b2, off2, e2, hc2⟩ := hrow.2.2.1 (by omega)
              cases e2
              have := hc2 i hil
              rw [show (⟨b2, off2, none⟩ : Addr).add i = ⟨b2, off2 + i, none⟩ from by unfold Addr.add; split <;> simp_all, this, ← hu]
              have hil2 : i < l.length := by omega
              simp [List.getD, hil2]
            have HN := Sp.hid hnews
            have hll := hlj.out
            rw [← hll] at hlj2 hk2
            rw [hrl] at hk2
            clear hnc hrow hnews hll
            go_wp2_with (at_builtin; refine wpList_append_own _ rfl _ _ 22 rfl w.heap.size 9 i0 (.string ⟨#[]⟩) 1 16 Try.underlying22 hi hz0 hz1 hz2 rfl (by decide) _ _ _ rfl hown ad n cap (l.map Value.string) rfl ?c0 HN.out ?c2 ?c3 ?c4 ?c5 ?_)
            case c0 => simp; omega
            case c2 => intro u hu; obtain ⟨s, _, rfl⟩ := List.mem_map.1 hu; rfl
            case c3 => unfold maxLen; omega
            case c4 => omega
            case c5 => omega
            intro v' w2 hown' hgrow _
            have hown2 : w2.ownsRow w.heap.size 9 1 v' (xs ++ l).length ((xs ++ l).map Value.string) := by simpa [hrl] using hown'
            have hbel2 : Below w.heap.size w w2 := hbel.grown hgrow hsz (fun k hk => (hown.lt k hk).1)
            have hfl := Sp.hid hown2
            rw [← hflat.out] at hfl
            clear hown' hgrow hown hbel hsz hown2
            go_wp2_with fail
            go_roundw
            case rel => exact ⟨j + 1, hlt2, by go_num, hfl.out, hbel2⟩
            case measure => simp [intOf]; omega
        · have hjk : j = k := by omega
          subst hjk
          have hfin2 := Sp.hid (show (ll.take j).flatten = ll.flatten by rw [List.take_of_length_le (by rw [Hlen.out]; omega)])
          have hsm : ∀ s ∈ ll.flatten, s.size ≤ maxLen := by
            intro s hs
            obtain ⟨l, hl, hs⟩ := List.mem_flatten.1 hs
            obtain ⟨i, hi, rfl⟩ := List.mem_iff_getElem.1 hl
            obtain ⟨_, _, _, _, _, l', _, _, hr, hl', _⟩ := h.at (k := i) (by rw [← Hlen.out]; exact hi)
            rw [List.getElem?_eq_getElem hi] at hl'
            cases hl'
            exact hr.2.2.2 s hs
          rw [hfin2.out] at hown hlj
          obtain ⟨ao, cap, rfl, hrow, hcap⟩ := Sp.row_of_own hown hsm (by rw [hlj.out]; unfold maxLen; omega)
          go_wp2_with fail
          go_ret
          exact ⟨_, rfl, ao, _, cap, rfl, hrow, hcap, hbel⟩

end Go.Proofs.Ytimjgjhdkinhoaa
