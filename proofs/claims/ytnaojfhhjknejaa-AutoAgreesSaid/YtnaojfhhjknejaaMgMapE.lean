/-
  The walks of anyOf and leads.
-/
import Derived.Test.YtnaojfhhjknejaaMgMapD
import Derived.Test.YtnaojfhhjknejaaMgAuBs
import Derived.Laws.IdiomRangeMap
set_option linter.unusedVariables false
set_option linter.unusedSimpArgs false
namespace Go.Proofs.Ytnaojfhhjknejaa
open Go.RowKit
def Nf.AnyPost (A : List Nat) (S : Nat → Prop) (w : World) (e : Ending) (w' : World) : Prop := e = .returned (.bool (Nf.bl (∃ q, q ∈ A ∧ S q))) ∧ Below w.heap.size w w'
set_option maxHeartbeats 1000000 in
set_option maxRecDepth 100000 in
theorem anyOf_none (w : World) (mb N : Nat) (S : Nat → Prop) :
    Calls Try.prog 17 #[.map none, .slice (some ⟨mb, 0, none⟩) N N] w (Nf.AnyPost [] S w) := by
  have hrg := run_range_nilMap (P := Try.prog) w 53 3 4 Try.underlying53
  have hnx : ∀ ty, (Instr.next (.pointer (some ⟨w.heap.size, 0, none⟩)) false ty).run Try.prog (w.alloc (.mapIter none 0 #[] 0)) = _ := fun ty => run_next_nilMap w ty 0 0 #[]
  have hb := Sp.hid ((Below.refl w.heap.size w).alloc (Nat.le_refl _) (.mapIter none 0 #[] 0))
  have hp : Nf.AnyPost [] S w = fun e w' => e = .returned (.bool false) ∧ Below w.heap.size w w' := by
    unfold Nf.AnyPost
    rw [Nf.bl_false (by simp)]
  rw [hp]
  clear hp
  go_enter Try.func17, Try.ntmps17
  go_wp2_with fail
  refine wp_loop_rounds 1 ?_
  rw [rounds_succ]
  go_wp2_with fail
  go_ret
  exact ⟨rfl, hb.out⟩
set_option maxHeartbeats 1000000 in
set_option maxRecDepth 100000 in
theorem anyOf_any (w : World) (b : Nat) (A : List Nat) (mb N : Nat) (S : Nat → Prop) (hA : Nf.SetMap w b A) (hlt : ∀ q ∈ A, q < N) (hN : N ≤ 3000) (hm : Nf.BoolsAt w mb N S) :
    Calls Try.prog 17 #[.map (some b), .slice (some ⟨mb, 0, none⟩) N N] w (Nf.AnyPost A S w) := by
  have hp : Nf.AnyPost A S w = fun e w' => e = .returned (.bool (Nf.bl (∃ q, q ∈ A ∧ S q))) ∧ Below w.heap.size w w' := rfl
  rw [hp]
  have HM := Sp.hid hm
  have HA := Sp.hid hA
  have Hlt := Sp.hid hlt
  clear hp hm hA hlt
  go_enter Try.func17, Try.ntmps17
  go_wp2_with (first
    | (at_range; refine Nf.set_range rfl _ rfl rfl HA.out ?_; intro w1 cnt hr1 hcA hg1 hs1)
    | fail)
  have Hr1 := Sp.hid hr1
  have Hb1 : Hid (Below w.heap.size w w1) := Sp.hid ((Below.refl w.heap.size w).grown hg1 (Nat.le_refl _) (fun k hk => by cases hk))
  clear hr1 hg1 hcA
  go_frame
  go_loopw [5] (fun _ wr => ∃ (T : List Nat) (cnt : Nat), Hid (Nf.SetRng wr b w.heap.size T A cnt) ∧ Hid (∀ q ∈ T, ¬ S q) ∧ Hid (Below w.heap.size w wr)) (fun _ wr => wr.rangeLeft b w.heap.size)
  case atStart => exact ⟨[], _, Hr1, Sp.hid (by simp), Hb1⟩
  case round =>
    obtain ⟨T, cnt, Hr, HT, Hb⟩ := hrel
    have hA9 : ∀ q ∈ A, q ≤ 1000000000 := fun q hq => by have := Hlt.out q hq; omega
    go_wp2_with (first
      | (at_next; refine Nf.set_next rfl _ rfl rfl Hr.out hA9 ?_ ?_)
      | fail)
    · intro hdone
      have hf := Sp.hid (show Nf.bl (∃ q, q ∈ A ∧ S q) = false from Nf.bl_false (fun ⟨q, h1, h2⟩ => HT.out q (hdone q h1) h2))
      clear hdone
      go_wp2_with fail
      go_ret
      exact ⟨by rw [hf.out]; rfl, Hb.out⟩
    · intro q w2 cnt2 hqA hqT hr2 hlt2 hg2 hs2 hen
      have Hb2 : Hid (Below w.heap.size w w2) := Sp.hid (Hb.out.grown hg2 Hb.out.size (fun k hk => by cases hk; exact Nat.le_refl _))
      have hqN := Hlt.out q hqA
      have cm := (HM.out.below Hb2.out) q hqN
      have Hr2 := Sp.hid hr2
      have HqA := Sp.hid hqA
      clear hqA hqT hr2 hg2 hs2
      by_cases hS : S q
      · rw [Nf.bl_true hS] at cm
        have hf := Sp.hid (show Nf.bl (∃ q, q ∈ A ∧ S q) = true from Nf.bl_true ⟨q, HqA.out, hS⟩)
        clear hS
        go_wp2_with fail
        go_ret
        exact ⟨by rw [hf.out]; rfl, Hb2.out⟩
      · rw [Nf.bl_false hS] at cm
        have HS := Sp.hid hS
        clear hS
        go_wp2_with fail
        go_roundw
        case rel => exact ⟨T ++ [q], cnt2, Hr2, Sp.hid (fun p hp => by
          rcases List.mem_append.1 hp with hp | hp
          · exact HT.out p hp
          · simp at hp; subst hp; exact HS.out), Hb2⟩
        case measure => rw [Hr2.out.left_eq, Hr.out.left_eq]; omega
end Go.Proofs.Ytnaojfhhjknejaa
