/-
  The walk of count: how many words of a length lead to an end, by the subsets.
-/
import Derived.Test.YtnaojfhhjknejaaMgCtCCtP
import Derived.Test.YtnaojfhhjknejaaMgAuMemAuGrAuNet
import Derived.IntWalk
import Derived.WalkKit
import Derived.WalkSpells
import Derived.WalkLawsBesides
import Derived.Test.YtnaojfhhjknejaaMgNb
import Derived.Test.YtnaojfhhjknejaaMgRp
import Derived.Test.YtnaojfhhjknejaaMgAuTAuU
import Derived.Test.YtnaojfhhjknejaaMgAuAAuBAuCAuD
set_option linter.unusedVariables false
set_option linter.unusedSimpArgs false
namespace Go.Proofs.Ytnaojfhhjknejaa
open Go.RowKit
namespace Nf
/-- The subsets as they lie. -/
def SubsAt (w : World) (B n : Nat) (en : Nat → Bool) (nx : Nat → List Nat) : Prop :=
  ∀ i, i < n → w.cell? ⟨B, i * 2, none⟩ = some (.bool (en i)) ∧ ∃ ao k c, w.cell? ⟨B, i * 2 + 1, none⟩ = some (.slice ao k c) ∧ Seq num w ao k (nx i)
theorem SubsAt.below {w w' : World} {B n : Nat} {en : Nat → Bool} {nx : Nat → List Nat} (h : SubsAt w B n en nx) (hb : Below w.heap.size w w') : SubsAt w' B n en nx := fun i hi => by
  obtain ⟨h1, ao, k, c, h2, h3⟩ := h i hi
  exact ⟨by rw [hb.cell (World.block_lt_of_cell? w _ h1)]; exact h1, ao, k, c, by rw [hb.cell (World.block_lt_of_cell? w _ h2)]; exact h2, h3.below hb⟩
theorem vec_made_int {w : World} {b N : Nat} (h : w.heap[b]? = some (.cells (madeCells #[.int .i64 0] N) 3 (0, 0))) (hN : N ≤ 3000) : Vec num w b 3 N N (fun _ => 0) :=
  ⟨_, h, size_madeCells _ _, Nat.le_refl _, by unfold maxLen; omega, fun i hi => by simp [madeCells, hi, Nat.mod_one, num]⟩
theorem goC_snoc (L : Nat → Nat) (l : List Nat) (x m : Nat) : goC L (l ++ [x]) m = addC (goC L l m) x m := by unfold goC; rw [List.foldl_append]; rfl
theorem addC_le {L : Nat → Nat} (h : ∀ t, L t ≤ 1000000000) (x m : Nat) : ∀ t, addC L x m t ≤ 1000000000 := fun t => by
  unfold addC
  split
  · exact cutC_le _
  · exact h t
theorem goC_le {m : Nat} : ∀ (l : List Nat) {L : Nat → Nat}, (∀ t, L t ≤ 1000000000) → ∀ t, goC L l m t ≤ 1000000000
  | [], L, h, t => h t
  | x :: r, L, h, t => goC_le r (addC_le h x m) t
theorem allC_le (v : Nat → Nat) (nx : Nat → List Nat) : ∀ i t, allC v nx i t ≤ 1000000000
  | 0, t => by show 0 ≤ _; omega
  | i + 1, t => goC_le (nx i) (allC_le v nx i) t
theorem wdC_le (n : Nat) (nx : Nat → List Nat) : ∀ k t, wdC n nx k t ≤ 1000000000
  | 0, t => by show (if t = 0 then 1 else 0) ≤ _; split <;> omega
  | k + 1, t => allC_le _ nx n t
theorem endC_le (v : Nat → Nat) (en : Nat → Bool) : ∀ i, endC v en i ≤ 1000000000
  | 0 => by show 0 ≤ _; omega
  | i + 1 => by
    show (if en i then cutC (endC v en i + v i) else endC v en i) ≤ _
    split
    · exact cutC_le _
    · exact endC_le v en i
end Nf

set_option maxHeartbeats 4000000 in
set_option maxRecDepth 100000 in
theorem count_any (w : World) (B n cap len : Nat) (en : Nat → Bool) (nx : Nat → List Nat) (h : Nf.SubsAt w B n en nx) (hn0 : 0 < n) (hn : n ≤ 3000) (hlt : ∀ i, i < n → ∀ t ∈ nx i, t < n) (hlen : len ≤ 60) :
    Calls Try.prog 23 #[.slice (some ⟨B, 0, none⟩) n cap, .int .i64 (len : Int)] w fun e w' => e = .returned (.int .i64 (Nf.endC (Nf.wdC n nx len) en n : Int)) ∧ Below w.heap.size w w' := by
  have hmk : ∀ w2 : World, (Instr.makeSlice 67 (.int .i64 (n : Int)) (.int .i64 (n : Int))).run Try.prog w2 = .ok (.slice (some ⟨w2.heap.size, 0, none⟩) n n) (w2.alloc (.cells (madeCells #[.int .i64 0] n) 3)) := fun w2 => run_make_row' _ _ _ 8 Try.underlying67 Nf.intInfo rfl _ _ n (by omega) (by omega) w2
  have hv0 := Nf.vec_made_int (w := w.alloc (.cells (madeCells #[.int .i64 0] n) 3)) (Nf.Below.heap_new w _) hn
  have c0 : (w.alloc (.cells (madeCells #[.int .i64 0] n) 3)).cell? ⟨w.heap.size, 0, none⟩ = some (.int .i64 0) := hv0.cell hn0
  have f0 := hv0.free 0
  have hv2 : Vec Nf.num (w.alloc (.cells ((madeCells #[.int .i64 0] n).setIfInBounds 0 (.int .i64 1)) 3)) w.heap.size 3 n n (Nf.wdC n nx 0) := by
    refine ⟨_, Nf.Below.heap_new w _, by simp [size_madeCells], Nat.le_refl _, by unfold maxLen; omega, fun i hi => ?_⟩
    rw [Array.getElem?_setIfInBounds]
    by_cases e : 0 = i
    · subst e; simp [size_madeCells, hn0, Nf.wdC, Nf.num]
    · rw [if_neg e]
      have e2 : ¬ i = 0 := fun h => e h.symm
      simp [madeCells, hi, Nat.mod_one, Nf.num, Nf.wdC, e2]
  have hb1 : Below w.heap.size w (w.alloc (.cells ((madeCells #[.int .i64 0] n).setIfInBounds 0 (.int .i64 1)) 3)) := (Below.refl _ w).alloc (Nat.le_refl _) _
  have i0 : (0 : Int) < (n : Int) := by omega
  have HH := Sp.hid h
  have Hlt := Sp.hid hlt
  have HV2 := Sp.hid hv2
  have Hb1 := Sp.hid hb1
  clear h hlt hv0 hv2 hb1
  have hmk0 := hmk w
  have Hmk := Sp.hid hmk
  clear hmk
  go_enter Try.func23, Try.ntmps23
  go_wp2_with fail
  clear hmk0 c0 f0
  go_loopw [5, 6, 7, 8, 10, 20] (fun v _ _ _ _ i wr => ∃ (j vb : Nat), v = .slice (some ⟨vb, 0, none⟩) n n ∧ i = .int .i64 j ∧ j ≤ len ∧ w.heap.size ≤ vb ∧ Hid (Vec Nf.num wr vb 3 n n (Nf.wdC n nx j)) ∧ Hid (Below w.heap.size w wr)) (fun _ _ _ _ _ i _ => len - (intOf i).toNat)
  case atStart => exact ⟨0, w.heap.size, rfl, rfl, Nat.zero_le _, Nat.le_refl _, HV2, Hb1⟩
  case round =>
    clear HV2 Hb1
    obtain ⟨j, vb, rfl, rfl, hj, hvb, HV, Hb⟩ := hrel
    by_cases hjl : j < len
    · have hmk1 := Hmk.out wr
      have hva := Nf.vec_made_int (w := wr.alloc (.cells (madeCells #[.int .i64 0] n) 3)) (Nf.Below.heap_new wr _) hn
      have hba := Hb.out.alloc Hb.out.size (.cells (madeCells #[.int .i64 0] n) 3)
      have hvw := Nf.Below.heap_new wr (.cells (madeCells #[.int .i64 0] n) 3)
      have HVv := Sp.hid (HV.out.grown (World.grownBy_alloc wr (.cells (madeCells #[.int .i64 0] n) 3) none) (by simp))
      obtain ⟨w2, hw2⟩ : ∃ w2, wr.alloc (.cells (madeCells #[.int .i64 0] n) 3) = w2 := ⟨_, rfl⟩
      obtain ⟨lb, hlb⟩ : ∃ lb, wr.heap.size = lb := ⟨_, rfl⟩
      have hne : vb ≠ lb := by have := HV.out.lt; omega
      have hlbw : w.heap.size ≤ lb := by have := Hb.out.size; omega
      rw [hw2] at hmk1 hva hba HVv
      rw [hlb] at hmk1 hva
      have HVa := Sp.hid hva
      have Hba := Sp.hid hba
      clear hva hba hvw hw2 hlb
      go_wp2_with fail
      clear hmk1
      go_loopw [7, 8, 10, 27] (fun _ _ _ i wr => ∃ k : Nat, i = .int .i64 k ∧ k ≤ n ∧ Hid (Vec Nf.num wr vb 3 n n (Nf.wdC n nx j)) ∧ Hid (Vec Nf.num wr lb 3 n n (Nf.allC (Nf.wdC n nx j) nx k)) ∧ Hid (Below w.heap.size w wr)) (fun _ _ _ i _ => n - (intOf i).toNat)
      case atStart => exact ⟨0, rfl, Nat.zero_le _, HVv, HVa, Hba⟩
      case round =>
        clear HVv HVa Hba HV Hb
        obtain ⟨k, rfl, hk, HV, HA, Hb⟩ := hrel
        by_cases hkn : k < n
        · have cv : wr.cell? ⟨vb, k, none⟩ = some (.int .i64 (Nf.wdC n nx j k : Int)) := HV.out.cell hkn
          obtain ⟨_, ao, kn, kc, cs0, hseq⟩ := (HH.out.below Hb.out) k hkn
          have hkl := hseq.1
          have hknl := hseq.le
          have hvk := Nf.wdC_le n nx j k
          have i1 : (0 : Int) ≤ (k : Int) := by omega
          have i2 : (k : Int) < (n : Int) := by omega
          have HSq := Sp.hid hseq
          obtain ⟨m, hm⟩ : ∃ m, Nf.wdC n nx j k = m := ⟨_, rfl⟩
          rw [hm] at cv hvk
          have Hm := Sp.hid hm
          have Hbk := Sp.hid (World.block_lt_of_cell? wr _ cs0)
          have Hkl := Sp.hid hkl
          clear hseq hm hkl
          go_wp2_with fail
          obtain ⟨wo, hwo⟩ : ∃ wo : World, wo = wr := ⟨_, rfl⟩
          go_loopw [10, 38] (fun _ i wr => ∃ q : Nat, i = .int .i64 q ∧ q ≤ kn ∧ Hid (Vec Nf.num wr vb 3 n n (Nf.wdC n nx j)) ∧ Hid (Vec Nf.num wr lb 3 n n (Nf.goC (Nf.allC (Nf.wdC n nx j) nx k) ((nx k).take q) m)) ∧ Hid (Below w.heap.size w wr)) (fun _ i _ => kn - (intOf i).toNat)
          case atStart => exact ⟨0, rfl, Nat.zero_le _, by rw [← hwo]; first | exact HV | (rw [hwo]; exact HV), by rw [← hwo]; first | exact HA | (rw [hwo]; exact HA), by rw [← hwo]; first | exact Hb | (rw [hwo]; exact Hb)⟩
          case round =>
            have HSq0 : Hid (Nf.Seq Nf.num w ao kn (nx k)) := Sp.hid (by
              obtain ⟨_, ao', kn', kc', h1, h2⟩ := HH.out k hkn
              have e1 : wo.cell? ⟨B, k * 2 + 1, none⟩ = some (.slice ao' kn' kc') := by rw [hwo]; rw [Hb.out.cell (World.block_lt_of_cell? w _ h1)]; exact h1
              rw [hwo, cs0] at e1
              injection e1 with e1
              injection e1 with e1 e2 e3
              subst e1 e2
              exact h2)
            clear HSq Hb HA HV hwo cs0 cv
            obtain ⟨q, rfl, hq, HV, HA, Hb⟩ := hrel
            by_cases hqn : q < kn
            · obtain ⟨b9, off9, t, e9, cz0, ht?, htk⟩ := (HSq0.out.below Hb.out).at hqn
              subst e9
              have cz : wr.cell? ⟨b9, off9 + q, none⟩ = some (.int .i64 (t : Int)) := cz0
              have htn : t < n := Hlt.out k hkn t (List.mem_of_getElem? ht?)
              have ct : wr.cell? ⟨lb, t, none⟩ = some (.int .i64 (Nf.goC (Nf.allC (Nf.wdC n nx j) nx k) ((nx k).take q) m t : Int)) := HA.out.cell htn
              have ft := HA.out.free t
              have hle := Nf.goC_le (m := m) ((nx k).take q) (Nf.allC_le (Nf.wdC n nx j) nx k) t
              obtain ⟨a, ha⟩ : ∃ a, Nf.goC (Nf.allC (Nf.wdC n nx j) nx k) ((nx k).take q) m t = a := ⟨_, rfl⟩
              rw [ha] at ct hle
              have hwr : IntKind.i64.wrap ((a : Int) + (m : Int)) = (a : Int) + (m : Int) := IntWalk.i64_in _ (by omega)
              have i3 : (0 : Int) ≤ (t : Int) := by omega
              have i4 : (t : Int) < (n : Int) := by omega
              have i5 : (0 : Int) ≤ (q : Int) := by omega
              have i6 : (q : Int) < (kn : Int) := by omega
              have hA2 : Vec Nf.num (wr.setCell ⟨lb, t, none⟩ (.int .i64 ((Nf.cutC (a + m) : Nat) : Int))) lb 3 n n (Nf.goC (Nf.allC (Nf.wdC n nx j) nx k) ((nx k).take (q + 1)) m) := by
                have h1 := HA.out.set (i := t) (Nf.cutC (a + m))
                refine h1.congr fun i _ => ?_
                rw [htk, Nf.goC_snoc]
                unfold Nf.addC
                split
                · rename_i e; rw [e, ha]
                · rfl
              have hV2 : Vec Nf.num (wr.setCell ⟨lb, t, none⟩ (.int .i64 ((Nf.cutC (a + m) : Nat) : Int))) vb 3 n n (Nf.wdC n nx j) := Nf.Vec.far HV.out (a := ⟨lb, t, none⟩) hne _
              have hb2 := Hb.out.setCell (p := ⟨lb, t, none⟩) hlbw (.int .i64 ((Nf.cutC (a + m) : Nat) : Int))
              have Hcut : Hid (((Nf.cutC (a + m) : Nat) : Int) = min ((a : Int) + (m : Int)) 1000000000) := Sp.hid (by unfold Nf.cutC; omega)
              have HA2 := Sp.hid hA2
              have HV2 := Sp.hid hV2
              have Hb2 := Sp.hid hb2
              clear cz0 ht? htk ha hA2 hV2 hb2
              rw [Hcut.out] at HA2 HV2 Hb2
              by_cases hmx : (a : Int) + (m : Int) ≤ 1000000000
              · have hmn : min ((a : Int) + (m : Int)) 1000000000 = (a : Int) + (m : Int) := by omega
                rw [hmn] at HA2 HV2 Hb2
                go_wp2_with fail
                go_roundw
                case rel => exact ⟨q + 1, by go_num, hqn, HV2, HA2, Hb2⟩
                case measure => simp [intOf]; omega
              · have hmn : min ((a : Int) + (m : Int)) 1000000000 = 1000000000 := by omega
                rw [hmn] at HA2 HV2 Hb2
                go_wp2_with fail
                go_roundw
                case rel => exact ⟨q + 1, by go_num, hqn, HV2, HA2, Hb2⟩
                case measure => simp [intOf]; omega
            · have he : (nx k).take q = nx k := List.take_of_length_le (by rw [Hkl.out]; omega)
              rw [he] at HA
              have HA3 : Hid (Vec Nf.num wr lb 3 n n (Nf.allC (Nf.wdC n nx j) nx (k + 1))) := Sp.hid (by
                have h1 := HA.out
                rw [← Hm.out] at h1
                exact h1)
              clear he HA
              go_wp2_with fail
              go_roundw
              case rel => exact ⟨k + 1, by go_num, hkn, HV, HA3, Hb⟩
              case measure => simp [intOf]; omega
        · have e : k = n := by omega
          rw [e] at HA
          clear e
          go_wp2_with fail
          go_roundw
          case rel => exact ⟨j + 1, lb, rfl, by go_num, hjl, hlbw, HA, Hb⟩
          case measure => simp [intOf]; omega
    · have e : j = len := by omega
      rw [e] at HV
      clear e
      go_wp2_with fail
      go_loopw [11, 12, 13, 58] (fun s _ _ i wr => ∃ k : Nat, s = .int .i64 (Nf.endC (Nf.wdC n nx len) en k : Int) ∧ i = .int .i64 k ∧ k ≤ n ∧ Hid (Vec Nf.num wr vb 3 n n (Nf.wdC n nx len)) ∧ Hid (Below w.heap.size w wr)) (fun _ _ _ i _ => n - (intOf i).toNat)
      case atStart => exact ⟨0, rfl, rfl, Nat.zero_le _, HV, Hb⟩
      case round =>
        clear HV Hb
        obtain ⟨k, rfl, rfl, hk, HV, Hb⟩ := hrel
        by_cases hkn : k < n
        · have cv : wr.cell? ⟨vb, k, none⟩ = some (.int .i64 (Nf.wdC n nx len k : Int)) := HV.out.cell hkn
          obtain ⟨ce, _⟩ := (HH.out.below Hb.out) k hkn
          have hvk := Nf.wdC_le n nx len k
          have hek := Nf.endC_le (Nf.wdC n nx len) en k
          have hsucc : Nf.endC (Nf.wdC n nx len) en (k + 1) = if en k then Nf.cutC (Nf.endC (Nf.wdC n nx len) en k + Nf.wdC n nx len k) else Nf.endC (Nf.wdC n nx len) en k := rfl
          obtain ⟨a, ha⟩ : ∃ a, Nf.endC (Nf.wdC n nx len) en k = a := ⟨_, rfl⟩
          obtain ⟨m, hm⟩ : ∃ m, Nf.wdC n nx len k = m := ⟨_, rfl⟩
          rw [ha, hm] at hsucc
          rw [hm] at cv hvk
          rw [ha] at hek
          rw [ha]
          have Hsucc := Sp.hid hsucc
          have hwr : IntKind.i64.wrap ((a : Int) + (m : Int)) = (a : Int) + (m : Int) := IntWalk.i64_in _ (by omega)
          have i1 : (0 : Int) ≤ (k : Int) := by omega
          have i2 : (k : Int) < (n : Int) := by omega
          clear hsucc ha hm
          cases hen : en k with
          | true =>
            rw [hen] at ce Hsucc
            simp only [if_true] at Hsucc
            clear hen
            by_cases hmx : (a : Int) + (m : Int) ≤ 1000000000
            · have Hc : Hid (((Nf.endC (Nf.wdC n nx len) en (k + 1) : Nat) : Int) = (a : Int) + (m : Int)) := Sp.hid (by rw [Hsucc.out]; unfold Nf.cutC; omega)
              have hmn : min ((a : Int) + (m : Int)) 1000000000 = (a : Int) + (m : Int) := by omega
              go_wp2_with fail
              go_roundw
              case rel => exact ⟨k + 1, by rw [Hc.out], by go_num, hkn, HV, Hb⟩
              case measure => simp [intOf]; omega
            · have Hc : Hid (((Nf.endC (Nf.wdC n nx len) en (k + 1) : Nat) : Int) = 1000000000) := Sp.hid (by rw [Hsucc.out]; unfold Nf.cutC; omega)
              have hmn : min ((a : Int) + (m : Int)) 1000000000 = 1000000000 := by omega
              go_wp2_with fail
              go_roundw
              case rel => exact ⟨k + 1, by rw [Hc.out], by go_num, hkn, HV, Hb⟩
              case measure => simp [intOf]; omega
          | false =>
            rw [hen] at ce Hsucc
            simp only [Bool.false_eq_true, if_false] at Hsucc
            clear hen
            go_wp2_with fail
            go_roundw
            case rel => exact ⟨k + 1, by rw [Hsucc.out], by go_num, hkn, HV, Hb⟩
            case measure => simp [intOf]; omega
        · have e : k = n := by omega
          subst e
          go_wp2_with fail
          go_ret
          exact ⟨rfl, Hb.out⟩
end Go.Proofs.Ytnaojfhhjknejaa

/-
  The sets while they are found, in memory: what a round of subsets keeps.
-/
set_option linter.unusedVariables false
set_option linter.unusedSimpArgs false
namespace Go.Proofs.Ytnaojfhhjknejaa
open Go.RowKit
namespace Nf
theorem subInfo : (Try.prog.info? 90).map (fun i => (i.zero, i.size, i.bytes)) = some (some (.agg #[.bool false, .slice none 0 0]), 2, 32) := by kernel_rfl
theorem flatS_get {α : Type} (f : α → List Value) (m : Nat) (hm : 0 < m) (hf : ∀ x, (f x).length = m) : ∀ (l : List α) (j : Nat), (l.flatMap f)[j]? = (l[j / m]?).bind fun x => (f x)[j % m]?
  | [], j => by simp
  | a :: l, j => by
    rw [List.flatMap_cons]
    by_cases h : j < m
    · rw [List.getElem?_append_left (by rw [hf]; exact h), Nat.div_eq_of_lt h, Nat.mod_eq_of_lt h]
      simp
    · have h1 : j / m = (j - m) / m + 1 := by
        have := Nat.add_div_right (j - m) hm
        rw [Nat.sub_add_cancel (by omega)] at this
        exact this
      have h2 : j % m = (j - m) % m := Nat.mod_eq_sub_mod (by omega)
      rw [List.getElem?_append_right (by rw [hf]; omega), hf, flatS_get f m hm hf l (j - m), h1, h2]
      simp
/-- A set that has been asked: whether it has an end, and where its symbols lead. -/
def subCells (r : Bool × NRow) : List Value := [.bool r.1, r.2.val]
theorem push_sub {w : World} {ops : Array Oper} {rest : List Oper} {o : Oper} {a : Act} {Q : Exit → Act → World → Prop} (hgd : o.guard = none) (s x : Operand)
    (ho : o.op = .call { callee := .builtin .append, args := #[s, x], argTypes := #[58, 58] })
    (base : Nat) (v : Value) (L : List (Bool × NRow)) (hs : a.eval s = v) (hown : w.ownsRow base 90 2 v L.length (L.flatMap subCells))
    (q : Bool × NRow) (hq : q.2.val.oneCell' = true) (b : Nat) (c : Nat) (hx : a.eval x = .slice (some ⟨b, 0, none⟩) 1 c) (hc : w.heap[b]? = some (.cells #[.bool q.1, q.2.val] 90 (0, 0))) (hbig : L.length ≤ 1000000) (hbase : base ≤ w.heap.size)
    (h : ∀ v' w', w'.ownsRow base 90 2 v' (L ++ [q]).length ((L ++ [q]).flatMap subCells) → w.grownBy w' v.ownBlock → (v'.ownBlock = v.ownBlock ∨ v'.ownBlock = some w.heap.size) → wpList Try.prog ops Q rest (a.put o.dst v') w') : wpList Try.prog ops Q (o :: rest) a w := by
  obtain ⟨i0, hi, hz0, hz1, hz2⟩ := info_parts subInfo
  have hnews : ∀ j u, (subCells q)[j]? = some u → w.cell? ((⟨b, 0, none⟩ : Addr).add j) = some u := by
    intro j u hj
    rw [plain_add, Nat.zero_add]
    refine blk_cell (i := j) hc ?_
    match j, hj with
    | 0, hj => simpa [subCells] using hj
    | 1, hj => simpa [subCells] using hj
  refine wpList_append_own_at w hgd s x 58 ho base 90 i0 (.agg #[.bool false, .slice none 0 0]) 2 32 Try.underlying58 hi hz0 hz1 hz2 rfl (by decide) v _ _ hs hown ⟨b, 0, none⟩ 1 c (subCells q) hx rfl hnews (fun u hu => by
    simp [subCells] at hu
    rcases hu with rfl | rfl
    · rfl
    · exact hq) (by unfold maxLen; omega) (by omega) hbase ?_
  intro v' w' hown' hgrow _ hat
  exact h v' w' (by simpa using hown') hgrow hat
/-- Blocks of other kinds stand, but one. -/
def KT (sx : Nat) (w w' : World) : Prop := ∀ (b : Nat) (cs : Array Value) (t : TypeId) (fr : Nat × Nat), w.heap[b]? = some (.cells cs t fr) → t ≠ 64 → t ≠ 67 → b ≠ sx → w'.heap[b]? = some (.cells cs t fr)
theorem KT.trans {sx : Nat} {a b c : World} (h : KT sx a b) (k : KT sx b c) : KT sx a c := fun i cs t fr hi h1 h2 h3 => k i cs t fr (h i cs t fr hi h1 h2 h3) h1 h2 h3
theorem KT.of_below {sx : Nat} {w w' : World} (h : RowKit.Below w.heap.size w w') : KT sx w w' := fun i cs t fr hi _ _ _ => blk_below hi h (blk_lt hi)
theorem KT.row {sx : Nat} {w w' : World} (k : KT sx w w') {b' : Nat} {e : TypeId} {size n : Nat} {v : Value} {xs : List Value} (h : w.ownsRow b' e size v n xs) (h1 : e ≠ 64) (h2 : e ≠ 67) (h3 : v.ownBlock ≠ some sx) : w'.ownsRow b' e size v n xs := by
  refine ⟨h.1, ?_⟩
  rcases h.2 with hz | ⟨g, cap, cur, hv, hg, hb, hr⟩
  · exact .inl hz
  · exact .inr ⟨g, cap, cur, hv, hg, k g cur e (0, 0) hb h1 h2 (fun e1 => h3 (by rw [hv]; simp [Value.ownBlock, e1])), hr⟩
theorem KT.vec {α : Type} {en : α → Value} {sx : Nat} {w w' : World} (k : KT sx w w') {g : Nat} {e : TypeId} {cap n : Nat} {A : Nat → α} (h : Vec en w g e cap n A) (h1 : e ≠ 64) (h2 : e ≠ 67) (h3 : g ≠ sx) : Vec en w' g e cap n A := by
  obtain ⟨cur, g1, g2⟩ := h
  exact ⟨cur, k g cur e (0, 0) g1 h1 h2 h3, g2⟩
section
variable {w0 w w' : World} {gb bx nk lk mb N : Nat} {els els' : List NRow} {lv lv' : Value}
/-- The blocks that the numbering holds. -/
def NumHas (w : World) (bx nk lk mb : Nat) (els : List NRow) (lv : Value) (k : Nat) : Prop := k = bx ∨ k = nk ∨ k = lk ∨ k = mb ∨ lv.ownBlock = some k ∨ ∃ y, y ∈ els ∧ y.val.ownBlock = some k
theorem own_move {b' : Nat} {e : TypeId} {size n : Nat} {v : Value} {xs : List Value} (h : w.ownsRow b' e size v n xs) (hk : ∀ k, v.ownBlock = some k → w'.heap[k]? = w.heap[k]?) : w'.ownsRow b' e size v n xs := by
  refine ⟨h.1, ?_⟩
  rcases h.2 with hz | ⟨g, cap, cur, hv, hg, hb, hr⟩
  · exact .inl hz
  · exact .inr ⟨g, cap, cur, hv, hg, (hk g (by rw [hv]; rfl)).trans hb, hr⟩
theorem NumAt.move (h : NumAt w0 w gb bx nk lk mb N els lv) (hb : RowKit.Below w0.heap.size w w') (hk : ∀ k, NumHas w bx nk lk mb els lv k → w'.heap[k]? = w.heap[k]?) : NumAt w0 w' gb bx nk lk mb N els lv := by
  refine ⟨(hk bx (.inl rfl)).trans h.bxb, (hk nk (.inr (.inl rfl))).trans h.nkb, (hk lk (.inr (.inr (.inl rfl)))).trans h.lkb, own_move h.lown fun k e => hk k (.inr (.inr (.inr (.inr (.inl e))))), h.mp.at (hk mb (.inr (.inr (.inr (.inl rfl))))), fun x hx => ⟨own_move (h.row x hx).1 fun k e => hk k (.inr (.inr (.inr (.inr (.inr ⟨x, hx, e⟩))))), (h.row x hx).2⟩, h.dist, h.below.trans hb, h.nbase, h.lbase, h.mbase⟩
theorem NK.kt (k : NK w0.heap.size mb lk lv lv' w w') (h : NumAt w0 w gb bx nk lk mb N els lv) (sx : Nat) : KT sx w w' := by
  intro b cs t fr hb h1 h2 _
  obtain ⟨es, c, hmb⟩ := h.mp.blk
  exact (k.keep b (blk_lt hb) (fun e => by rw [e, hmb] at hb; cases hb) (blk_ne hb h.lkb h1) (own_ne h.lown hb (fun e => h2 e.symm))).1.trans hb
end
/-- The sets under way, at the head of a round. -/
structure SbAt (w0 w : World) (gb : Nat) (v : Gv) (g : Gr) (bx nk lk mb kb bg bs sb : Nat) (sr : Nat → Nat) (els : List NRow) (lv sv : Value) (rows : List (Bool × NRow)) : Prop where
  nums : NumAt w0 w gb bx nk lk mb g.N els lv
  bgp : w.heap[bg]? = some (.cells #[.pointer (some ⟨gb, 0, none⟩)] 48 (0, 0))
  seen : SeenAt w bs sb sr v.sn g.N (fun _ _ => false)
  all : Vec Value.bool w kb 4 g.N g.N (fun _ => true)
  sown : w.ownsRow w0.heap.size 90 2 sv rows.length (rows.flatMap subCells)
  nrow : ∀ r ∈ rows, w.ownsRow w0.heap.size 3 1 r.2.val r.2.l.length (r.2.l.map num)
section
variable {w0 w w' : World} {gb : Nat} {v : Gv} {g : Gr} {bx nk lk mb kb bg bs sb : Nat} {sr : Nat → Nat} {els els' : List NRow} {lv lv' sv : Value} {rows : List (Bool × NRow)}
/-- Numbers or not: where the numbering is known anew, the rest stands if its blocks do. -/
theorem SbAt.kt (h : SbAt w0 w gb v g bx nk lk mb kb bg bs sb sr els lv sv rows) {sx : Nat} (k : KT sx w w') (hn : NumAt w0 w' gb bx nk lk mb g.N els' lv') {cs : Array Value} {fr : Nat × Nat} (hsx : w.heap[sx]? = some (.cells cs 90 fr)) (hs : sv.ownBlock ≠ some sx) : SbAt w0 w' gb v g bx nk lk mb kb bg bs sb sr els' lv' sv rows := by
  have vne : ∀ {α : Type} {en : α → Value} {b cap n : Nat} {e : TypeId} {A : Nat → α}, Vec en w b e cap n A → e ≠ 90 → b ≠ sx := fun hv he => by
    obtain ⟨cur, h1, _⟩ := hv
    exact blk_ne h1 hsx he
  exact ⟨hn, k _ _ _ _ h.bgp (by decide) (by decide) (blk_ne h.bgp hsx (by decide)), ⟨k _ _ _ _ h.seen.var (by decide) (by decide) (blk_ne h.seen.var hsx (by decide)), k.vec h.seen.tab (by decide) (by decide) (vne h.seen.tab (by decide)), fun x hx => k.vec (h.seen.row x hx) (by decide) (by decide) (vne (h.seen.row x hx) (by decide)), h.seen.inj⟩,
    k.vec h.all (by decide) (by decide) (vne h.all (by decide)), k.row h.sown (by decide) (by decide) hs, fun r hr => k.row (h.nrow r hr) (by decide) (by decide) (own_ne (h.nrow r hr) hsx (by decide))⟩
theorem SbAt.under (h : SbAt w0 w gb v g bx nk lk mb kb bg bs sb sr els lv sv rows) (hb : RowKit.Below w.heap.size w w') : SbAt w0 w' gb v g bx nk lk mb kb bg bs sb sr els lv sv rows := by
  have hg : w.grownBy w' none := ⟨hb.os, hb.tape, hb.output, hb.size, fun i hi _ => hb.block i hi⟩
  have kp : ∀ v : Value, v.ownBlock = none ∨ v.ownBlock ≠ none := fun v => by cases v.ownBlock <;> simp
  exact ⟨h.nums.under hb, blk_below h.bgp hb (blk_lt h.bgp), ⟨blk_below h.seen.var hb (blk_lt h.seen.var), h.seen.tab.grown hg (by simp), fun x hx => (h.seen.row x hx).grown hg (by simp), h.seen.inj⟩, h.all.grown hg (by simp), h.sown.kept hg (kp _), fun r hr => (h.nrow r hr).kept hg (kp _)⟩
/-- A set that has been asked, appended. -/
theorem SbAt.push (h : SbAt w0 w gb v g bx nk lk mb kb bg bs sb sr els lv sv rows) {r : Bool × NRow} (hr : w.ownsRow w0.heap.size 3 1 r.2.val r.2.l.length (r.2.l.map Nf.num)) {c : Obj} {v' : Value} (hg : (w.alloc c).grownBy w' sv.ownBlock)
    (hown : w'.ownsRow w0.heap.size 90 2 v' (rows ++ [r]).length ((rows ++ [r]).flatMap subCells)) : SbAt w0 w' gb v g bx nk lk mb kb bg bs sb sr els lv v' (rows ++ [r]) := by
  have hs := h.sown.alloc c
  have cell : ∀ {k : Nat} {cs : Array Value} {t : TypeId} {fr : Nat × Nat}, w.heap[k]? = some (.cells cs t fr) → 90 ≠ t → w'.heap[k]? = some (.cells cs t fr) := fun hk ht => blk_grown (blk_alloc hk c) hg (own_ne hs (blk_alloc hk c) ht)
  have vec : ∀ {α : Type} {en : α → Value} {b cap n : Nat} {e : TypeId} {A : Nat → α}, Vec en w b e cap n A → 90 ≠ e → Vec en w' b e cap n A := fun hv he => by
    obtain ⟨cur, h1, h2⟩ := hv
    exact ⟨cur, cell h1 he, h2⟩
  have row : ∀ {b' : Nat} {u : Value} {n : Nat} {e : TypeId} {xs : List Value}, w.ownsRow b' e 1 u n xs → e ≠ 90 → w'.ownsRow b' e 1 u n xs := fun hr he => (hr.alloc c).kept hg (own_own_ne (hr.alloc c) hs he)
  have hb1 : RowKit.Below w0.heap.size w (w.alloc c) := (RowKit.Below.refl _ w).alloc h.nums.below.size c
  have hb : RowKit.Below w0.heap.size w w' := RowKit.Below.grown hb1 hg (Nat.le_trans h.nums.below.size hb1.size) (fun k hk => (h.sown.lt k hk).1)
  refine ⟨h.nums.move hb fun k hk => ?_, cell h.bgp (by decide), ⟨cell h.seen.var (by decide), vec h.seen.tab (by decide), fun x hx => vec (h.seen.row x hx) (by decide), h.seen.inj⟩, vec h.all (by decide), hown, fun q hq => ?_⟩
  · rcases hk with rfl | rfl | rfl | rfl | hk | ⟨y, hy, hk⟩
    · rw [cell h.nums.bxb (by decide), h.nums.bxb]
    · rw [cell h.nums.nkb (by decide), h.nums.nkb]
    · rw [cell h.nums.lkb (by decide), h.nums.lkb]
    · obtain ⟨es, cl, hmb⟩ := h.nums.mp.blk
      rw [hmb]
      refine blk_grown (blk_alloc hmb c) hg (fun e => ?_)
      rcases h.sown.2 with ⟨e9, _⟩ | ⟨gg, cp, cur, e9, _, hgg, _⟩
      · rw [e9] at e; simp [Value.ownBlock] at e
      · rw [e9] at e
        simp [Value.ownBlock] at e
        rw [e] at hgg
        rw [hmb] at hgg
        cases hgg
    · rcases h.nums.lown.2 with ⟨e9, _⟩ | ⟨gg, cp, cur, e9, _, hgg, _⟩
      · rw [e9] at hk; simp [Value.ownBlock] at hk
      · rw [e9] at hk
        simp [Value.ownBlock] at hk
        subst hk
        rw [cell hgg (by decide), hgg]
    · rcases (h.nums.row y hy).1.2 with ⟨e9, _⟩ | ⟨gg, cp, cur, e9, _, hgg, _⟩
      · rw [e9] at hk; simp [Value.ownBlock] at hk
      · rw [e9] at hk
        simp [Value.ownBlock] at hk
        subst hk
        rw [cell hgg (by decide), hgg]
  · rcases List.mem_append.1 hq with hq | hq
    · exact row (h.nrow q hq) (by decide)
    · simp at hq
      subst hq
      exact row hr (by decide)
end
/-- While the sets that one set leads to are numbered: w5 is the world when they are known. -/
structure InAt (w0 w5 w : World) (gb bx nk lk mb N sx : Nat) (lv : Value) (els' : List NRow) (lv' nv : Value) (en : Bool) (nl : List Nat) : Prop where
  nums : NumAt w0 w gb bx nk lk mb N els' lv'
  keep : ∀ k, k < w5.heap.size → k ≠ mb → k ≠ lk → lv.ownBlock ≠ some k → k ≠ sx → w.heap[k]? = w5.heap[k]? ∧ lv'.ownBlock ≠ some k
  size : w5.heap.size ≤ w.heap.size
  scell : w.heap[sx]? = some (.cells #[.bool en, nv] 90 (0, 0))
  nown : w.ownsRow w5.heap.size 3 1 nv nl.length (nl.map num)
  low : ∀ y, y ∈ els' → ∀ b, y.val.ownBlock = some b → b < w5.heap.size
section
variable {w0 w5 w w' : World} {gb bx nk lk mb N sx : Nat} {lv lv' lv2 nv : Value} {els' els2 : List NRow} {en : Bool} {nl : List Nat}
theorem InAt.under (h : InAt w0 w5 w gb bx nk lk mb N sx lv els' lv' nv en nl) (hb : RowKit.Below w.heap.size w w') : InAt w0 w5 w' gb bx nk lk mb N sx lv els' lv' nv en nl := by
  have hg : w.grownBy w' none := ⟨hb.os, hb.tape, hb.output, hb.size, fun i hi _ => hb.block i hi⟩
  refine ⟨h.nums.under hb, fun k hk h1 h2 h3 h4 => ?_, Nat.le_trans h.size hb.size, blk_below h.scell hb (blk_lt h.scell), h.nown.kept hg (by cases nv.ownBlock <;> simp), h.low⟩
  obtain ⟨g1, g2⟩ := h.keep k hk h1 h2 h3 h4
  exact ⟨(hb.block k (Nat.lt_of_lt_of_le hk h.size)).trans g1, g2⟩
/-- Behind the numbering of one set. -/
theorem InAt.number (h : InAt w0 w5 w gb bx nk lk mb N sx lv els' lv' nv en nl) (hn : NumAt w0 w' gb bx nk lk mb N els2 lv2) (k : NK w0.heap.size mb lk lv' lv2 w w') (hl : ∀ y, y ∈ els2 → ∀ b, y.val.ownBlock = some b → b < w5.heap.size) : InAt w0 w5 w' gb bx nk lk mb N sx lv els2 lv2 nv en nl := by
  have kt := k.kt h.nums (w.heap.size)
  refine ⟨hn, fun i hi h1 h2 h3 h4 => ?_, Nat.le_trans h.size k.below.size, kt _ _ _ _ h.scell (by decide) (by decide) (Nat.ne_of_lt (blk_lt h.scell)), kt.row h.nown (by decide) (by decide) (fun e => by have := (h.nown.lt _ e).2; omega), hl⟩
  obtain ⟨g1, g2⟩ := h.keep i hi h1 h2 h3 h4
  obtain ⟨g3, g4⟩ := k.keep i (Nat.lt_of_lt_of_le hi h.size) h1 h2 g2
  exact ⟨g3.trans g1, g4⟩
/-- Behind the append of its number, and the store. -/
theorem InAt.push (h : InAt w0 w5 w gb bx nk lk mb N sx lv els' lv' nv en nl) {i : Nat} {c : Obj} {nv' : Value} (hbase : w0.heap.size ≤ w5.heap.size) (hsx0 : w0.heap.size ≤ sx) (hg : (w.alloc c).grownBy w' nv.ownBlock) (hown : w'.ownsRow w5.heap.size 3 1 nv' (nl ++ [i]).length ((nl ++ [i]).map num)) :
    InAt w0 w5 (w'.setCell ⟨sx, 1, none⟩ nv') gb bx nk lk mb N sx lv els' lv' nv' en (nl ++ [i]) := by
  have hs := h.nown.alloc c
  have hsz : w.heap.size ≤ (w.alloc c).heap.size := by simp
  have F : ∀ k, k < w.heap.size → nv.ownBlock ≠ some k → k ≠ sx → (w'.setCell ⟨sx, 1, none⟩ nv').heap[k]? = w.heap[k]? := fun k hk h1 h2 => (Below.heap_setCell w' _ _ k h2).trans ((hg.block k (Nat.lt_of_lt_of_le hk hsz) (fun e => h1 e.symm)).trans (Below.heap_alloc w c k hk))
  have cell : ∀ {k : Nat} {cs : Array Value} {t : TypeId} {fr : Nat × Nat}, w.heap[k]? = some (.cells cs t fr) → 3 ≠ t → t ≠ 90 → (w'.setCell ⟨sx, 1, none⟩ nv').heap[k]? = w.heap[k]? := fun hk h1 h2 => F _ (blk_lt hk) (own_ne h.nown hk h1) (blk_ne hk h.scell h2)
  have hb1 : RowKit.Below w0.heap.size w (w.alloc c) := (RowKit.Below.refl _ w).alloc h.nums.below.size c
  have hb2 : RowKit.Below w0.heap.size w w' := RowKit.Below.grown hb1 hg (Nat.le_trans h.nums.below.size hb1.size) (fun k hk => Nat.le_trans hbase (h.nown.lt k hk).1)
  have hb3 : RowKit.Below w0.heap.size w (w'.setCell ⟨sx, 1, none⟩ nv') := hb2.setCell (p := ⟨sx, 1, none⟩) hsx0 _
  have sc1 : w'.heap[sx]? = some (.cells #[.bool en, nv] 90 (0, 0)) := blk_grown (blk_alloc h.scell c) hg (own_ne hs (blk_alloc h.scell c) (by decide))
  refine ⟨h.nums.move hb3 fun k hk => ?_, fun k hk h1 h2 h3 h4 => ?_, Nat.le_trans h.size hb3.size, ?_, own_far hown (a := ⟨sx, 1, none⟩) (own_ne hown sc1 (by decide)), h.low⟩
  · rcases hk with rfl | rfl | rfl | rfl | hk | ⟨y, hy, hk⟩
    · exact cell h.nums.bxb (by decide) (by decide)
    · exact cell h.nums.nkb (by decide) (by decide)
    · exact cell h.nums.lkb (by decide) (by decide)
    · obtain ⟨es, cl, hmb⟩ := h.nums.mp.blk
      refine F k (blk_lt hmb) (fun e => ?_) (fun e => by rw [e, h.scell] at hmb; cases hmb)
      rcases h.nown.2 with ⟨e9, _⟩ | ⟨gg, cp, cur, e9, _, hgg, _⟩
      · rw [e9] at e; simp [Value.ownBlock] at e
      · rw [e9] at e
        simp [Value.ownBlock] at e
        rw [e] at hgg
        rw [hmb] at hgg
        cases hgg
    · rcases h.nums.lown.2 with ⟨e9, _⟩ | ⟨gg, cp, cur, e9, _, hgg, _⟩
      · rw [e9] at hk; simp [Value.ownBlock] at hk
      · rw [e9] at hk
        simp [Value.ownBlock] at hk
        subst hk
        exact cell hgg (by decide) (by decide)
    · have hlow := h.low y hy k hk
      refine F k (Nat.lt_of_lt_of_le hlow h.size) (fun e => by have := (h.nown.lt _ e).1; omega) (fun e => ?_)
      exact own_ne (h.nums.row y hy).1 h.scell (by decide) (by rw [hk, e])
  · obtain ⟨g1, g2⟩ := h.keep k hk h1 h2 h3 h4
    exact ⟨(F k (Nat.lt_of_lt_of_le hk h.size) (fun e => by have := (h.nown.lt _ e).1; omega) h4).trans g1, g2⟩
  · have := blk_set (i := 1) sc1 nv'
    simpa using this
/-- What stands of the round's head when all are numbered. -/
theorem InAt.kt (h : InAt w0 w5 w gb bx nk lk mb N sx lv els' lv' nv en nl) {els : List NRow} (h5 : NumAt w0 w5 gb bx nk lk mb N els lv) : KT sx w5 w := by
  intro b cs t fr hb h1 h2 h3
  obtain ⟨es, c, hmb⟩ := h5.mp.blk
  exact (h.keep b (blk_lt hb) (fun e => by rw [e, hmb] at hb; cases hb) (blk_ne hb h5.lkb h1) (own_ne h5.lown hb (fun e => h2 e.symm)) h3).1.trans hb
end
end Nf
end Go.Proofs.Ytnaojfhhjknejaa
