/-
  The walk of slices.Repeat of one bool that is true; the walk of slices.IndexFunc and slices.ContainsFunc at numbers.
-/
import Derived.Test.YtnaojfhhjknejaaMgAuI
import Derived.Test.YtnaojfhhjknejaaMgAuMemAuGrAuNet
import Derived.Test.YtnaojfhhjknejaaMgShelf
import Derived.Laws.IdiomCopy
import Derived.Shelf.Spec.SlicesInsert
import Derived.IntWalk
import Derived.WalkLawsBesides
set_option linter.unusedVariables false
set_option linter.unusedSimpArgs false
namespace Go.Proofs.Ytnaojfhhjknejaa
open Go.RowKit Go.Lib
namespace Nf
/-- A run of trues stored behind the first k. -/
theorem vec_trues {kb cap N : Nat} {e : TypeId} : ∀ (m : Nat) {w : World} (k : Nat), Vec Value.bool w kb e cap N (fun i => decide (i < k)) →
    Vec Value.bool (w.setCells kb k (List.replicate m (.bool true))) kb e cap N (fun i => decide (i < k + m)) ∧ w.grownBy (w.setCells kb k (List.replicate m (.bool true))) (some kb)
  | 0, w, k, h => ⟨h, grownBy_refl _ _⟩
  | m + 1, w, k, h => by
    have h1 : Vec Value.bool (w.setCell ⟨kb, k, none⟩ (.bool true)) kb e cap N (fun i => decide (i < k + 1)) := by
      refine (h.set (i := k) true).congr fun i _ => ?_
      by_cases e1 : i = k
      · rw [if_pos e1, e1]; simp
      · rw [if_neg e1]
        have : (i < k) ↔ (i < k + 1) := by omega
        simp [this]
    have h2 := vec_trues m (k + 1) h1
    rw [show k + 1 + m = k + (m + 1) from by omega] at h2
    exact ⟨h2.1, grownBy_trans (grownBy_set k _) h2.2⟩
theorem boolUnder : Try.prog.underlying 47 = some (.slice 4) := Try.underlying47
theorem boolSize : (Try.prog.info? 4).map (·.size) = some 1 := by kernel_rfl
end Nf

set_option maxHeartbeats 4000000 in
set_option maxRecDepth 100000 in
theorem repeat_any (w : World) (xb N : Nat) (hx : w.cell? ⟨xb, 0, none⟩ = some (.bool true)) (hN0 : 0 < N) (hN : N ≤ 3000) :
    Calls Try.prog 36 #[.slice (some ⟨xb, 0, none⟩) 1 1, .int .i64 (N : Int)] w fun e w' => ∃ kb : Nat, e = .returned (.slice (some ⟨kb, 0, none⟩) N N) ∧ w.heap.size ≤ kb ∧ Below w.heap.size w w' ∧ Vec Value.bool w' kb 4 N N (fun _ => true) := by
  obtain ⟨i0, hi, hz0, hz1, hz2⟩ := info_parts Nf.boolInfo
  have hmul : Calls Try.prog 54 #[.int .u64 1, .int .u64 (N : Int)] w fun e w' => e = .returned (.tuple #[.int .u64 0, .int .u64 (N : Int)]) ∧ w' = w := by
    have h := Try.bits_Mul 1 N (by decide) (by omega) w
    have e1 : 1 * N / 18446744073709551616 = 0 := by omega
    have e2 : 1 * N % 18446744073709551616 = N := by omega
    rw [e1, e2] at h
    exact h
  have hwu : IntKind.u64.wrap (N : Int) = (N : Int) := IntWalk.u64_in _ (by omega)
  have hwi : IntKind.i64.wrap (N : Int) = (N : Int) := IntWalk.i64_in _ (by omega)
  have hn0 : ¬ (N : Int) < 0 := by omega
  have hbig : ¬ (9223372036854775807 : Int) < (N : Int) := by omega
  have xlt : xb < w.heap.size := World.block_lt_of_cell? w _ hx
  have hv := Nf.vec_made_bool (w := w.alloc (.cells (madeCells #[.bool false] N) 4)) (Nf.Below.heap_new w _) hN
  have hb := (Below.refl w.heap.size w).alloc (Nat.le_refl _) (.cells (madeCells #[.bool false] N) 4)
  have hx1 : (w.alloc (.cells (madeCells #[.bool false] N) 4)).cell? ⟨xb, 0, none⟩ = some (.bool true) := by rw [World.cell?_alloc_past _ _ _ xlt]; exact hx
  have hcp : ∀ ty, (Builtin.copy_ #[47, 47] ty #[.slice (some ⟨w.heap.size, 0, none⟩) N N, .slice (some ⟨xb, 0, none⟩) 1 1]).run Try.prog (w.alloc (.cells (madeCells #[.bool false] N) 4)) = .ok (.int .i64 1) ((w.alloc (.cells (madeCells #[.bool false] N) 4)).setCells w.heap.size 0 (List.replicate 1 (.bool true))) := fun ty =>
    run_copy_cells _ _ _ ty 4 w.heap.size 0 N N ⟨xb, 0, none⟩ 1 1 (List.replicate 1 (.bool true)) Nf.boolUnder Nf.boolSize (by simp [Nat.min_def]; omega)
      (fun j v hj => by
        match j, hj with
        | 0, hj =>
          simp at hj; subst hj
          rw [Nf.plain_add]; exact hx1)
      (fun j hj => by simp at hj; rw [Nat.zero_add, hv.cell (by omega)]; rfl) (fun j _ => hv.free _) (fun v hv2 => by simp at hv2; subst hv2; rfl)
  have ht := Nf.vec_trues 1 0 (hv.congr (B := fun i => decide (i < 0)) fun i _ => by simp)
  have hb1 := Below.grown hb ht.2 hb.size (fun k hk => by cases hk; exact Nat.le_refl _)
  have hv1 := ht.1
  obtain ⟨kb, hkb⟩ : ∃ kb, w.heap.size = kb := ⟨_, rfl⟩
  have Hkb := Sp.hid (show w.heap.size ≤ kb by omega)
  have HkE := Sp.hid hkb
  rw [Nat.zero_add, hkb] at hv1
  rw [hkb] at hb1 hcp
  have e9 : List.replicate 1 (Value.bool true) = [Value.bool true] := rfl
  rw [e9] at hv1 hb1 hcp
  clear e9
  have HV1 := Sp.hid hv1
  have Hb1 := Sp.hid hb1
  have HM := Sp.hid hmul
  clear hmul hv hb hx1 ht hb1 hv1
  go_enter Try.func36, Try.ntmps36
  go_wp2_with fail
  refine HM.out.mono ?_
  rintro e w2 ⟨rfl, rfl⟩
  clear HM
  go_wp2_with (first
    | (at_make; refine wpList_make_row _ rfl _ _ 47 rfl 4 i0 (.bool false) Try.underlying47 hi hz0 hz1 rfl _ _ N rfl rfl ?c1 ?c2 ?_)
    | (at_builtin; refine wpList_copy_runI _ rfl _ _ 47 47 rfl _ _ rfl rfl (hcp _) ?_)
    | fail)
  case c1 => rw [hz2]; omega
  case c2 => omega
  clear hcp
  obtain ⟨w1, hw1⟩ : ∃ w1, (w2.alloc (.cells (madeCells #[.bool false] N) 4)).setCells kb 0 [.bool true] = w1 := ⟨_, rfl⟩
  rw [hw1] at HV1 Hb1 ⊢
  clear hw1
  go_loopw [8] (fun n wr => ∃ k : Nat, n = .int .i64 k ∧ 0 < k ∧ k ≤ N ∧ Hid (Vec Value.bool wr kb 4 N N (fun i => decide (i < k))) ∧ Hid (Below kb w2 wr)) (fun n _ => N - (intOf n).toNat)
  case atStart => exact ⟨1, rfl, by omega, by omega, HV1, Hb1⟩
  case round =>
    clear HV1 Hb1
    obtain ⟨k, rfl, hk0, hk, HV, Hb⟩ := hrel
    by_cases hkn : k < N
    · have HV := Sp.hid HV.out.drew
      have Hb := Sp.hid Hb.out.drew
      have hne : ¬ N = k := by omega
      have hcp : ∀ ty, (Builtin.copy_ #[47, 47] ty #[.slice (some ⟨kb, k, none⟩) (N - k) (N - k), .slice (some ⟨kb, 0, none⟩) k N]).run Try.prog wr.drew = .ok (.int .i64 ((Nat.min k (N - k) : Nat) : Int)) (wr.drew.setCells kb k (List.replicate (Nat.min k (N - k)) (.bool true))) := fun ty => by
        have h := run_copy_cells (P := Try.prog) wr.drew 47 47 ty 4 kb k (N - k) (N - k) ⟨kb, 0, none⟩ k N (List.replicate (Nat.min k (N - k)) (.bool true)) Nf.boolUnder Nf.boolSize (by simp)
          (fun j v hj => by
            have hj2 : j < Nat.min k (N - k) := by
              have := (List.getElem?_eq_some_iff.1 hj).1
              simpa using this
            rw [List.getElem?_replicate, if_pos hj2] at hj
            cases hj
            have h3 : j < k := Nat.lt_of_lt_of_le hj2 (Nat.min_le_left _ _)
            rw [Nf.plain_add, Nat.zero_add, HV.out.cell (by omega)]
            simp [h3])
          (fun j hj => by
            have h3 : j < N - k := by
              rw [List.length_replicate] at hj
              exact Nat.lt_of_lt_of_le hj (Nat.min_le_right _ _)
            rw [HV.out.cell (by omega)]; rfl)
          (fun j _ => HV.out.free _) (fun v hv2 => by rw [List.eq_of_mem_replicate hv2]; rfl)
        rw [List.length_replicate] at h
        exact h
      have ht := Nf.vec_trues (Nat.min k (N - k)) k HV.out
      have hb2 := Below.grown Hb.out ht.2 (by have h1 := Hb.out.size; have h2 := HkE.out; omega) (fun j hj => by cases hj; exact Nat.le_refl _)
      have hm1 : 0 < Nat.min k (N - k) := Nat.lt_min.2 ⟨hk0, by omega⟩
      have hm2 : Nat.min k (N - k) ≤ N - k := Nat.min_le_right _ _
      obtain ⟨m, hm⟩ : ∃ m, Nat.min k (N - k) = m := ⟨_, rfl⟩
      rw [hm] at hcp ht hb2 hm1 hm2
      obtain ⟨d, hd⟩ : ∃ d, N - k = d := ⟨_, rfl⟩
      have hdi : (N : Int) - (k : Int) = (d : Int) := by omega
      rw [hd] at hcp hm2
      have i1 : (0 : Int) ≤ (k : Int) := by omega
      have i2 : (k : Int) ≤ (N : Int) := by omega
      have i3 : (k : Int) < (N : Int) := by omega
      have hwa : IntKind.i64.wrap ((k : Int) + (m : Int)) = (k : Int) + (m : Int) := IntWalk.i64_in _ (by omega)
      have HV2 := Sp.hid ht.1
      have Hb2 := Sp.hid hb2
      clear ht hb2 hm
      have mixed : Try.prog.follows Departure.mixedOrders = true := by kernel_rfl
      go_wp2_with fail
      go_region_law_o (refine step_copy_runI rfl _ _ 47 47 rfl (.slice (some ⟨kb, k, none⟩) d d) (.slice (some ⟨kb, 0, none⟩) k N) (by simp [Act.eval, Act.put]) (by simp [Act.eval, Act.put]) (hcp _) ?_)
      all_goals
        go_wp2
        simp only [List.getElem_toArray, List.getElem_cons_zero, List.getElem_cons_succ, Act.put, List.setIfInBounds_toArray, List.set_cons_zero, List.set_cons_succ]
        go_roundw
        case rel => exact ⟨k + m, by go_num, by omega, by omega, HV2, Hb2⟩
        case measure => simp [intOf]; omega
    · have e : k = N := by omega
      subst e
      clear hwu hwi hbig
      go_wp2_with fail
      go_ret
      exact ⟨kb, rfl, Hkb.out, Hb.out.mono Hkb.out, HV.out.congr fun i hi => by simp [hi]⟩

def IdxPostI (p : Nat → Bool) (l : List Nat) (w : World) (e : Ending) (w' : World) : Prop :=
  ∃ i : Int, e = .returned (.int .i64 i) ∧ (decide (0 ≤ i) = l.any p) ∧ w' = w

set_option maxHeartbeats 400000 in
set_option maxRecDepth 100000 in
theorem indexI_any (p : Nat → Bool) (g : Nat) (lb : Array Value) (eg : ∀ args w, (callFunc g args).run Try.prog w = .ok (.enter g args) w) (ao : Option Addr) (n cap : Nat) (l : List Nat) (w : World) (h : Nf.Seq Nf.num w ao n l)
    (hp : ∀ q : Nat, q ∈ l → Calls Try.prog g (#[.int .i64 (q : Int)] ++ lb) w fun e w' => e = .returned (.bool (p q)) ∧ w' = w) :
    Calls Try.prog 57 #[.slice ao n cap, .func (.func g) #[] lb] w (IdxPostI p l w) := by
  have hn := h.le
  have Hp := Sp.hid hp
  have Hlen := Sp.hid h.1
  clear hp
  go_enter Try.func57, Try.ntmps57
  go_wp2_with fail
  go_loopw [5, 8] (fun _ i wr => ∃ k : Nat, k ≤ n ∧ i = .int .i64 k ∧ (l.take k).any p = false ∧ wr = w) (fun _ i _ => n - (intOf i).toNat)
  case atStart => exact ⟨0, Nat.zero_le _, rfl, rfl, rfl⟩
  case round =>
    obtain ⟨k, hk, rfl, hall, rfl⟩ := hrel
    have Hall := Sp.hid hall
    clear hall
    by_cases hlt : k < n
    · obtain ⟨b, off, q, rfl, c00, hk?, ht⟩ := h.at hlt
      have c0 : wr.cell? ⟨b, off + k, none⟩ = some (.int .i64 (q : Int)) := c00
      have hcall := Sp.hid (Hp.out q (List.mem_of_getElem? hk?))
      cases hb : p q with
      | true =>
        have hf := Sp.hid (show l.any p = true from Sp.any_true_of hk? hb)
        have Hb := Sp.hid hb
        clear hk? ht hb c00
        go_wp2_with fail
        refine hcall.out.mono ?_
        rintro e w' ⟨rfl, rfl⟩
        rw [Hb.out]
        go_wp2
        go_ret
        exact ⟨k, rfl, by rw [hf.out]; simp, rfl⟩
      | false =>
        have hs1 := Sp.hid (show (l.take (k + 1)).any p = false by rw [ht, Sp.any_snoc, Hall.out, hb]; rfl)
        have Hb := Sp.hid hb
        clear hk? ht hb c00
        go_wp2_with fail
        refine hcall.out.mono ?_
        rintro e w' ⟨rfl, rfl⟩
        rw [Hb.out]
        go_wp2
        go_roundw
        case rel => exact ⟨k + 1, by omega, by go_num, hs1.out, by trivial⟩
        case measure => simp [intOf]; omega
    · have hk' : l.take k = l := List.take_of_length_le (by rw [Hlen.out]; omega)
      have hf := Sp.hid (show l.any p = false by have h := Hall.out; rwa [hk'] at h)
      clear hk'
      go_wp2
      go_ret
      exact ⟨-1, rfl, by rw [hf.out]; rfl, rfl⟩

set_option maxHeartbeats 400000 in
theorem containsI_any (p : Nat → Bool) (g : Nat) (lb : Array Value) (eg : ∀ args w, (callFunc g args).run Try.prog w = .ok (.enter g args) w) (ao : Option Addr) (n cap : Nat) (l : List Nat) (w : World) (h : Nf.Seq Nf.num w ao n l)
    (hp : ∀ q : Nat, q ∈ l → Calls Try.prog g (#[.int .i64 (q : Int)] ++ lb) w fun e w' => e = .returned (.bool (p q)) ∧ w' = w) :
    Calls Try.prog 41 #[.slice ao n cap, .func (.func g) #[] lb] w fun e w' => e = .returned (.bool (l.any p)) ∧ w' = w := by
  have Hc := Sp.hid (indexI_any p g lb eg ao n cap l w h hp)
  clear hp eg
  go_enter Try.func41, Try.ntmps41
  go_wp2_with fail
  refine Hc.out.mono ?_
  rintro e w' ⟨i, rfl, hi, rfl⟩
  have Hi := Sp.hid hi
  clear hi
  go_wp2
  go_ret
  exact ⟨by rw [← Hi.out]; rfl, rfl⟩

set_option maxHeartbeats 400000 in
/-- The closure that asks whether a state is an end. -/
theorem subs2_any (w : World) (bx gb : Nat) (v : Nf.Gv) (g : Nf.Gr) (hG : Nf.GrAt w gb v g) (hbx : w.cell? ⟨bx, 0, none⟩ = some (.pointer (some ⟨gb, 0, none⟩))) (q : Nat) (hq : q < g.N) :
    Calls Try.prog 42 #[.int .i64 (q : Int), .pointer (some ⟨bx, 0, none⟩)] w fun e w' => e = .returned (.bool (Nf.bl (q ∈ g.ends))) ∧ w' = w := by
  have hN := hG.small
  have c1 : w.cell? ⟨gb, 1, none⟩ = some (.slice (some ⟨v.eb, 0, none⟩) g.N g.N) := Nf.blk_cell (i := 1) hG.blk rfl
  have c2 := hG.ends q hq
  have i1 : (0 : Int) ≤ (q : Int) := by omega
  have i2 : (q : Int) < (g.N : Int) := by omega
  clear hG
  go_enter Try.func42, Try.ntmps42
  go_wp2_with fail
  go_ret
  exact ⟨rfl, rfl⟩
end Go.Proofs.Ytnaojfhhjknejaa
