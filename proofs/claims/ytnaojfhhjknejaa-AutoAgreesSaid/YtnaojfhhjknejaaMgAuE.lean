/-
  The walk of Validate of nets.
-/
import Derived.Test.YtnaojfhhjknejaaMgAuMemAuGrAuNet
import Derived.Test.YtnaojfhhjknejaaMgAuBs
import Derived.Test.YtnaojfhhjknejaaMgWalkB
set_option linter.unusedVariables false
namespace Go.Proofs.Ytnaojfhhjknejaa
open Go.RowKit

set_option maxHeartbeats 400000 in
theorem isAcceptor1_any (x : EndV) (w : World) :
    Calls Try.prog 48 #[.agg #[.int .i64 x.s, .int .i64 x.c]] w fun e w' => e = .returned (.bool (!decide (x.c = 0))) ∧ Below w.heap.size w w' := by
  have hb : Below w.heap.size w (w.alloc (.cells #[.int .i64 x.s, .int .i64 x.c] 45)) := (Below.refl _ w).alloc (Nat.le_refl _) _
  by_cases h : x.c = 0
  · have h1 : (x.c != 0) = false := by simp [h]
    have hd := Sp.hid (show (!decide (x.c = 0)) = false by simp [h])
    clear h
    go_enter Try.func48, Try.ntmps48
    go_wp2_with fail
    go_ret
    exact ⟨by rw [hd.out]; rfl, hb⟩
  · have h1 : (x.c != 0) = true := by simp [h]
    have hd := Sp.hid (show (!decide (x.c = 0)) = true by simp [h])
    clear h
    go_enter Try.func48, Try.ntmps48
    go_wp2_with fail
    go_ret
    exact ⟨by rw [hd.out]; rfl, hb⟩

/-- The place of the first end at which p holds, or -1, as far as it is asked. -/
def IdxPostE (p : EndV → Bool) (l : List EndV) (w : World) (e : Ending) (w' : World) : Prop :=
  ∃ i : Int, e = .returned (.int .i64 i) ∧ (decide (0 ≤ i) = l.any p) ∧ Below w.heap.size w w'

set_option maxHeartbeats 400000 in
set_option maxRecDepth 100000 in
theorem indexEnd_any (p : EndV → Bool) (g : Nat) (eg : ∀ args w, (callFunc g args).run Try.prog w = .ok (.enter g args) w) (ao : Option Addr) (n cap : Nat) (l : List EndV) (w : World) (h : Nf.EndsAt w ao n l)
    (hp : ∀ (x : EndV) (w1 : World), Calls Try.prog g #[.agg #[.int .i64 x.s, .int .i64 x.c]] w1 fun e w' => e = .returned (.bool (p x)) ∧ Below w1.heap.size w1 w') :
    Calls Try.prog 61 #[.slice ao n cap, .func (.func g) #[] #[]] w (IdxPostE p l w) := by
  have hn : n ≤ 9000000000000 := h.2.1
  have Hp := Sp.hid hp
  have Hlen := Sp.hid h.1
  clear hp
  go_enter Try.func61, Try.ntmps61
  go_wp2_with fail
  go_loopw [5, 8] (fun _ i wr => ∃ k : Nat, k ≤ n ∧ i = .int .i64 k ∧ (l.take k).any p = false ∧ Below w.heap.size w wr) (fun _ i _ => n - (intOf i).toNat)
  case atStart => exact ⟨0, Nat.zero_le _, rfl, rfl, Below.refl _ _⟩
  case round =>
    obtain ⟨k, hk, rfl, hall, hbel⟩ := hrel
    have Hall := Sp.hid hall
    have Hbel := Sp.hid hbel
    clear hall hbel
    by_cases hlt : k < n
    · obtain ⟨b, off, x, rfl, ⟨c0, c1⟩, hk?, ht⟩ := (h.below Hbel.out).at hlt
      have hcall := Sp.hid (Hp.out x wr)
      cases hb : p x with
      | true =>
        have hf := Sp.hid (show l.any p = true from Sp.any_true_of hk? hb)
        have Hb := Sp.hid hb
        clear hk? ht hb
        go_wp2_with fail
        refine hcall.out.mono ?_
        rintro e w' ⟨rfl, hb2⟩
        rw [Hb.out]
        have Hb2 := Sp.hid (Hbel.out.trans (hb2.mono Hbel.out.size))
        clear hb2
        go_wp2
        go_ret
        exact ⟨k, rfl, by rw [hf.out]; simp, Hb2.out⟩
      | false =>
        have hs1 := Sp.hid (show (l.take (k + 1)).any p = false by rw [ht, Sp.any_snoc, Hall.out, hb]; rfl)
        have Hb := Sp.hid hb
        clear hk? ht hb
        go_wp2_with fail
        refine hcall.out.mono ?_
        rintro e w' ⟨rfl, hb2⟩
        rw [Hb.out]
        have Hb2 := Sp.hid (Hbel.out.trans (hb2.mono Hbel.out.size))
        clear hb2
        go_wp2
        go_roundw
        case rel => exact ⟨k + 1, by omega, by go_num, hs1.out, Hb2.out⟩
        case measure => simp [intOf]; omega
    · have hk' : l.take k = l := List.take_of_length_le (by rw [Hlen.out]; omega)
      have hf := Sp.hid (show l.any p = false by have h := Hall.out; rwa [hk'] at h)
      clear hk'
      go_wp2
      go_ret
      exact ⟨-1, rfl, by rw [hf.out]; rfl, Hbel.out⟩

set_option maxHeartbeats 400000 in
theorem containsEnd_any (p : EndV → Bool) (g : Nat) (eg : ∀ args w, (callFunc g args).run Try.prog w = .ok (.enter g args) w) (ao : Option Addr) (n cap : Nat) (l : List EndV) (w : World) (h : Nf.EndsAt w ao n l)
    (hp : ∀ (x : EndV) (w1 : World), Calls Try.prog g #[.agg #[.int .i64 x.s, .int .i64 x.c]] w1 fun e w' => e = .returned (.bool (p x)) ∧ Below w1.heap.size w1 w') :
    Calls Try.prog 47 #[.slice ao n cap, .func (.func g) #[] #[]] w fun e w' => e = .returned (.bool (l.any p)) ∧ Below w.heap.size w w' := by
  have Hc := Sp.hid (indexEnd_any p g eg ao n cap l w h hp)
  clear hp eg
  go_enter Try.func47, Try.ntmps47
  go_wp2_with fail
  refine Hc.out.mono ?_
  rintro e w' ⟨i, rfl, hi, hb⟩
  have Hi := Sp.hid hi
  have Hb := Sp.hid hb
  clear hi hb
  go_wp2
  go_ret
  exact ⟨by rw [← Hi.out]; rfl, Hb.out⟩

set_option maxHeartbeats 1000000 in
set_option maxRecDepth 100000 in
theorem isAcceptor_any (w : World) (n : Nf.Net) (h : Nf.NetAt w n) :
    Calls Try.prog 26 #[n.val] w fun e w' => e = .returned (.bool (Nf.accOk n)) ∧ Below w.heap.size w w' := by
  obtain ⟨so, sn, scap, sig, st, ao, an, acap, arcs, eo, en, ecap, ends⟩ := n
  obtain ⟨_, ha, he, _, _⟩ := h
  simp only at ha he
  have han : an ≤ 2600000000000 := ha.2.1
  have Ha := Sp.hid ha
  have He := Sp.hid he
  have Hlen := Sp.hid ha.1
  clear ha he
  unfold Nf.Net.val Nf.Net.cells Nf.accOk
  dsimp only
  go_enter Try.func26, Try.ntmps26
  go_wp2_with fail
  go_loopw [4, 8] (fun _ i wr => ∃ k : Nat, i = .int .i64 k ∧ k ≤ an ∧ (arcs.take k).all Nf.arcFree = true ∧ Below w.heap.size w wr ∧ wr.heap[w.heap.size]? = some (.cells #[.slice so sn scap, .int .i64 st, .slice ao an acap, .slice eo en ecap] 26 (0, 0))) (fun _ i _ => an - (intOf i).toNat)
  case atStart => exact ⟨0, rfl, Nat.zero_le _, by simp, (Below.refl _ w).alloc (Nat.le_refl _) _, by show (w.heap.push _)[w.heap.size]? = _; simp⟩
  case round =>
    obtain ⟨k, rfl, hk, hall, hbel, hblk⟩ := hrel
    have Hall := Sp.hid hall
    have Hbel := Sp.hid hbel
    have Hblk := Sp.hid hblk
    have hsz := hbel.size
    clear hall hbel hblk
    by_cases hkn : k < an
    · obtain ⟨b, off, x, rfl, ⟨c0, c1, c2, c3, c4⟩, hi1, ho1, hx, ht⟩ := (Ha.out.below Hbel.out).at hkn
      have Hb2 := Sp.hid (Hbel.out.alloc hsz (.cells #[.int .i64 x.f, .string x.i, .string x.o, .int .i64 x.t, .int .i64 x.c] 43))
      have Hblk2 := Sp.hid (Nf.blk_alloc Hblk.out (.cells #[.int .i64 x.f, .string x.i, .string x.o, .int .i64 x.t, .int .i64 x.c] 43))
      by_cases ho : x.o = x.i
      · have h1 := str_eq x.o x.i ho
        by_cases hc : x.c = 0
        · have h2 : (x.c != 0) = false := by simp [hc]
          have hs := Sp.hid (show (arcs.take (k + 1)).all Nf.arcFree = true by rw [ht, Sp.all_snoc, Hall.out]; simp [Nf.arcFree, Nf.bl_true ho, hc])
          clear ho hc hx ht
          go_wp2_with fail
          go_roundw
          case rel => exact ⟨k + 1, by go_num, hkn, hs.out, Hb2.out, Hblk2.out⟩
          case measure => simp [intOf]; omega
        · have h2 : (x.c != 0) = true := by simp [hc]
          have hf := Sp.hid (show (arcs.all Nf.arcFree && ends.all fun d => decide (d.c = 0)) = false by rw [Sp.all_false_of hx (by simp [Nf.arcFree, hc])]; rfl)
          clear ho hc hx ht
          go_wp2_with fail
          go_ret
          exact ⟨by rw [hf.out]; rfl, Hb2.out⟩
      · have h1 := str_ne x.o x.i ho
        have hf := Sp.hid (show (arcs.all Nf.arcFree && ends.all fun d => decide (d.c = 0)) = false by rw [Sp.all_false_of hx (by simp [Nf.arcFree, Nf.bl_false ho])]; rfl)
        clear ho hx ht
        go_wp2_with fail
        go_ret
        exact ⟨by rw [hf.out]; rfl, Hb2.out⟩
    · have hk' : arcs.take k = arcs := List.take_of_length_le (by rw [Hlen.out]; omega)
      have hf := Sp.hid (show (arcs.all Nf.arcFree && ends.all fun d => decide (d.c = 0)) = !(ends.any fun d => !decide (d.c = 0)) by
        have h := Hall.out
        rw [hk'] at h
        rw [h, List.not_any_eq_all_not]; simp)
      have c3 : wr.cell? ⟨w.heap.size, 3, none⟩ = some (.slice eo en ecap) := Nf.blk_cell (i := 3) Hblk.out rfl
      have HC := Sp.hid (containsEnd_any (fun d => !decide (d.c = 0)) 48 (enters_of Try.func48 (by kernel_rfl) rfl) eo en ecap ends wr (He.out.below Hbel.out) isAcceptor1_any)
      clear hk'
      go_wp2_with fail
      refine HC.out.mono ?_
      rintro e w2 ⟨rfl, hb2⟩
      have Hb2 := Sp.hid (Hbel.out.trans (hb2.mono Hbel.out.size))
      clear hb2
      go_wp2_with fail
      go_ret
      exact ⟨by rw [hf.out]; rfl, Hb2.out⟩

end Go.Proofs.Ytnaojfhhjknejaa
