/-
  The walk of slices.CompactFunc at slices of strings.
-/
import Derived.Test.YtimjgjhdkinhoaaRows
import Derived.Test.YtimjgjhdkinhoaaSpec
import Derived.Test.YtimjgjhdkinhoaaVec
import Derived.Test.YtimjgjhdkinhoaaSpecL
import Derived.WalkKit
import Derived.WalkSpells
import Derived.WalkLawsBesides
import Derived.Deep.QuietTactic
import Derived.BigQuiet
import Derived.Lib.SliceRun
import Derived.IntWalk
set_option linter.unusedVariables false
namespace Go.Proofs.Ytimjgjhdkinhoaa
open Go.RowKit

def CmPostW (eq : Lst → Lst → Bool) (g cap n : Nat) (A : Nat → Lst) (w : World) (e : Ending) (w' : World) : Prop :=
  ∃ m B, e = .returned (.slice (some ⟨g, 0, none⟩) m cap) ∧ Vec Lst.val w' g 22 cap m B ∧ upTo B m = compactOf eq (upTo A n) ∧ w.grownBy w' (some g)

set_option maxHeartbeats 2000000 in
set_option maxRecDepth 100000 in
theorem compactW_any (eq : Lst → Lst → Bool) (q : Nat) (lb : Array Value) (eg : ∀ args w, (callFunc q args).run Try.prog w = .ok (.enter q args) w)
    (g cap n : Nat) (A : Nat → Lst) (w : World) (hV : Vec Lst.val w g 22 cap n A)
    (hq : ∀ W, w.grownBy W (some g) → ∀ i j, i < n → j < n → Calls Try.prog q (#[Lst.val (A i), Lst.val (A j)] ++ lb) W fun e w' => e = .returned (.bool (eq (A i) (A j))) ∧ w' = W) :
    Calls Try.prog 90 #[.slice (some ⟨g, 0, none⟩) n cap, .func (.func q) #[] lb] w (CmPostW eq g cap n A w) := by
  obtain ⟨hnc, hc63⟩ := hV.le
  have HV := Sp.hid hV
  have Hq := Sp.hid hq
  clear hV hq
  by_cases h2 : n < 2
  · have hf := Sp.hid (show compactOf eq (upTo A n) = upTo A n from compactOf_short eq (by rw [upTo_len]; exact h2))
    go_enter Try.func90, Try.ntmps90
    go_wp2
    go_ret
    exact ⟨n, A, rfl, HV.out, hf.out.symm, grownBy_refl _ _⟩
  · go_enter Try.func90, Try.ntmps90
    go_wp2_with fail
    go_loopw [5, 6, 7] (fun i _ _ wr => ∃ k : Nat, 1 ≤ k ∧ k ≤ n ∧ i = .int .i64 k ∧ compactOf eq (upTo A k) = upTo A k ∧ Vec Lst.val wr g 22 cap n A ∧ w.grownBy wr (some g)) (fun i _ _ _ => n - (intOf i).toNat)
    case atStart => exact ⟨1, by omega, by omega, rfl, compactOf_short eq (by rw [upTo_len]; omega), HV.out, grownBy_refl _ _⟩
    case round =>
      obtain ⟨k, hk1, hk2, rfl, hco, hVA, hgr0⟩ := hrel
      obtain ⟨wo, rfl⟩ : ∃ wo : World, wo = wr := ⟨_, rfl⟩
      have HVA := Sp.hid hVA
      have Hgr0 := Sp.hid hgr0
      have Hco := Sp.hid hco
      clear hco hVA hgr0
      by_cases hlt : k < n
      · have c1 := HVA.out.cell (i := k) hlt
        have c2 := HVA.out.cell (i := k - 1) (by omega)
        have gB : ∀ r, w.grownBy (wo.drewN r) (some g) := fun r => ⟨Hgr0.out.os, Hgr0.out.tape, Hgr0.out.output, Hgr0.out.size, Hgr0.out.block⟩
        have hcall : ∀ r, Calls Try.prog q (#[Lst.val (A k), Lst.val (A (k - 1))] ++ lb) (wo.drewN r) fun e w' => e = .returned (.bool (eq (A k) (A (k - 1)))) ∧ w' = wo.drewN r := fun r => Hq.out _ (gB r) k (k - 1) hlt (by omega)
        obtain ⟨x, hx⟩ : ∃ x, A k = x := ⟨_, rfl⟩
        obtain ⟨y, hy⟩ : ∃ y, A (k - 1) = y := ⟨_, rfl⟩
        rw [hx] at c1 hcall
        rw [hy] at c2 hcall
        simp only [Lst.val] at c1 c2 hcall
        obtain ⟨t1, t2⟩ := upTo_two A (n := k) (by omega)
        rw [hx, hy] at t1
        rw [hy] at t2
        have T1 := Sp.hid t1
        have T2 := Sp.hid t2
        have Hx := Sp.hid hx
        have Hy := Sp.hid hy
        clear t1 t2 hx hy gB
        cases hb : eq x y with
        | false =>
          have hs1 := Sp.hid (show compactOf eq (upTo A (k + 1)) = upTo A (k + 1) by rw [T1.out, compactOf_snoc, hb, if_neg (by simp), ← T2.out, Hco.out, T2.out]; simp)
          rw [hb] at hcall
          have Hcall := Sp.hid hcall
          clear hcall hb
          have w1 : IntKind.i64.wrap ((k : Int) - 1) = (k : Int) - 1 := IntWalk.i64_in _ (by omega)
          have w2 : 0 ≤ (k : Int) - 1 := by omega
          have w3 : ((k : Int) - 1).toNat = k - 1 := by omega
          have w4 : (k : Int) - 1 < n := by omega
          have w5 : 1 ≤ (k : Int) := by omega
          have w6 : (k : Int) ≤ n := by omega
          go_wp2
          go_quiet ((exact Calls.quiet_of_same (Hcall.out _)))
          clear w1 w2 w3 w4 w5 w6
          go_wp2
          go_roundw
          case rel => exact ⟨k + 1, by omega, by omega, by go_num, hs1.out, HVA.out, ⟨Hgr0.out.os, Hgr0.out.tape, Hgr0.out.output, Hgr0.out.size, Hgr0.out.block⟩⟩
          case measure => simp [intOf]; omega
        | true =>
          have hs1 := Sp.hid (show compactOf eq (upTo A (k + 1)) = upTo A k by rw [T1.out, compactOf_snoc, hb, if_pos rfl, ← T2.out, Hco.out])
          rw [hb] at hcall
          have Hcall := Sp.hid hcall
          have hkc : k < cap := by omega
          clear hcall hb c1 c2
          have c1 := HVA.out.cell (i := k) hlt
          have c2 := HVA.out.cell (i := k - 1) (by omega)
          rw [Hx.out] at c1
          rw [Hy.out] at c2
          simp only [Lst.val] at c1 c2
          have w1 : IntKind.i64.wrap ((k : Int) - 1) = (k : Int) - 1 := IntWalk.i64_in _ (by omega)
          have w2 : 0 ≤ (k : Int) - 1 := by omega
          have w3 : ((k : Int) - 1).toNat = k - 1 := by omega
          have w4 : (k : Int) - 1 < n := by omega
          have w5 : 1 ≤ (k : Int) := by omega
          have w6 : (k : Int) ≤ n := by omega
          go_wp2
          go_quiet ((exact Calls.quiet_of_same (Hcall.out _)))
          clear c1 c2 w1 w2 w3 w4
          go_wp2_with fail
          go_loopw [5, 7] (fun i j wr => ∃ (p m : Nat) (B : Nat → Lst), 1 ≤ p ∧ p ≤ n - k ∧ j = .int .i64 p ∧ i = .int .i64 m ∧ m + 1 ≤ k + p ∧ Vec Lst.val wr g 22 cap n B ∧ (∀ j : Nat, k + p ≤ j + 1 → j < n → B j = A j) ∧ upTo B m = compactOf eq (upTo A (k + p)) ∧ w.grownBy wr (some g)) (fun _ j _ => (n - k) - (intOf j).toNat)
          case atStart => exact ⟨1, k, A, by omega, by omega, rfl, rfl, by omega, HVA.out, fun _ _ _ => rfl, hs1.out.symm, ⟨Hgr0.out.os, Hgr0.out.tape, Hgr0.out.output, Hgr0.out.size, Hgr0.out.block⟩⟩
          case round =>
            obtain ⟨p, m, B, hp1, hp2, rfl, rfl, hm, hVB, hBA, hcB, hgr⟩ := hrel
            have HVB := Sp.hid hVB
            have HBA := Sp.hid hBA
            have HcB := Sp.hid hcB
            have Hgr := Sp.hid hgr
            clear hVB hBA hcB hgr
            by_cases hpl : p < n - k
            · have d1 := HVB.out.cell (i := k + p) (by omega)
              have d2 := HVB.out.cell (i := k + (p - 1)) (by omega)
              rw [HBA.out (k + p) (by omega) (by omega)] at d1
              rw [HBA.out (k + (p - 1)) (by omega) (by omega)] at d2
              have gB : ∀ r, w.grownBy (wr.drewN r) (some g) := fun r => ⟨Hgr.out.os, Hgr.out.tape, Hgr.out.output, Hgr.out.size, Hgr.out.block⟩
              have hcall : ∀ r, Calls Try.prog q (#[Lst.val (A (k + p)), Lst.val (A (k + (p - 1)))] ++ lb) (wr.drewN r) fun e w' => e = .returned (.bool (eq (A (k + p)) (A (k + (p - 1))))) ∧ w' = wr.drewN r := fun r => Hq.out _ (gB r) (k + p) (k + (p - 1)) (by omega) (by omega)
              obtain ⟨x2, hx2⟩ : ∃ x, A (k + p) = x := ⟨_, rfl⟩
              obtain ⟨y2, hy2⟩ : ∃ y, A (k + (p - 1)) = y := ⟨_, rfl⟩
              obtain ⟨t1, t2⟩ := upTo_two A (n := k + p) (by omega)
              rw [show k + p - 1 = k + (p - 1) by omega] at t1 t2
              rw [hx2] at d1 hcall t1
              rw [hy2] at d2 hcall t1 t2
              simp only [Lst.val] at d1 d2 hcall
              have T3 := Sp.hid t1
              have T4 := Sp.hid t2
              have Hx2 := Sp.hid hx2
              clear t1 t2 hx2 hy2 gB
              cases hb : eq x2 y2 with
              | true =>
                have hs2 := Sp.hid (show upTo B m = compactOf eq (upTo A (k + (p + 1))) by rw [← Nat.add_assoc, T3.out, compactOf_snoc, hb, if_pos rfl, ← T4.out]; exact HcB.out)
                rw [hb] at hcall
                have Hcall2 := Sp.hid hcall
                clear hcall hb
                have w1 : IntKind.i64.wrap ((p : Int) - 1) = (p : Int) - 1 := IntWalk.i64_in _ (by omega)
                have w2 : 0 ≤ (p : Int) - 1 := by omega
                have w3 : ((p : Int) - 1).toNat = p - 1 := by omega
                have w4 : (p : Int) - 1 < (n - k : Nat) := by omega
                have w5 : 1 ≤ (p : Int) := by omega
                have w6 : (p : Int) ≤ (n - k : Nat) := by omega
                go_wp2
                go_quiet ((exact Calls.quiet_of_same (Hcall2.out _)))
                clear w1 w2 w3 w4 w5 w6
                go_wp2
                go_roundw
                case rel => exact ⟨p + 1, m, B, by omega, by omega, by go_num, rfl, by omega, HVB.out, fun j h1 h2 => HBA.out j (by omega) h2, hs2.out, ⟨Hgr.out.os, Hgr.out.tape, Hgr.out.output, Hgr.out.size, Hgr.out.block⟩⟩
                case measure => simp [intOf]; omega
              | false =>
                have hs2 := Sp.hid (show upTo B m ++ [x2] = compactOf eq (upTo A (k + (p + 1))) by rw [← Nat.add_assoc, T3.out, compactOf_snoc, hb, if_neg (by simp), ← T4.out, HcB.out])
                rw [hb] at hcall
                have Hcall2 := Sp.hid hcall
                have d3 := HVB.out.cell (i := m) (by omega)
                have f3 := HVB.out.free m
                have hmk : m < k + p := by omega
                clear hcall hb
                have w1 : IntKind.i64.wrap ((p : Int) - 1) = (p : Int) - 1 := IntWalk.i64_in _ (by omega)
                have w2 : 0 ≤ (p : Int) - 1 := by omega
                have w3 : ((p : Int) - 1).toNat = p - 1 := by omega
                have w4 : (p : Int) - 1 < (n - k : Nat) := by omega
                have w5 : 1 ≤ (p : Int) := by omega
                have w6 : (p : Int) ≤ (n - k : Nat) := by omega
                go_wp2
                go_quiet ((exact Calls.quiet_of_same (Hcall2.out _)))
                clear w1 w2 w3 w4 w5 w6
                go_wp2
                go_roundw
                case rel =>
                  refine ⟨p + 1, m + 1, fun j => if j = m then x2 else B j, by omega, by omega, by go_num, by go_num, by omega, HVB.out.set (i := m) x2, fun j h1 h2 => ?_, ?_, grownBy_trans Hgr.out ⟨rfl, rfl, rfl, by simp [World.setCell], fun k hk hne => Below.heap_setCell _ _ _ _ (fun e => hne (by rw [e]))⟩⟩
                  · show (if j = m then x2 else B j) = A j
                    rw [if_neg (by omega)]; exact HBA.out j (by omega) h2
                  · rw [← hs2.out, upTo_succ, if_pos rfl]
                    congr 1
                    unfold upTo
                    apply List.map_congr_left
                    intro j hj
                    rw [List.mem_range] at hj
                    show (if j = m then x2 else B j) = B j
                    rw [if_neg (by omega)]
                case measure => simp [intOf]; omega
            · have hpe : p = n - k := by omega
              have hcN := Sp.hid (show upTo B m = compactOf eq (upTo A n) by rw [HcB.out]; congr 2; omega)
              have hmn : m < n := by omega
              have hmc : m < cap := by omega
              have hcl : ∀ ty, (Builtin.clear_ #[42] ty #[.slice (some ⟨g, m, none⟩) (n - m) (cap - m)]).run Try.prog wr = .ok (.tuple #[]) (wr.setCells g m (List.replicate (n - m) (.slice none 0 0))) := fun ty =>
                Lib.run_clear_slice wr 42 22 ty (.slice none 0 0) Try.underlying42 Try.zeroValue22 rfl rfl g m (n - m) (cap - m) (by omega) (fun j hj => by rw [HVB.out.cell (i := m + j) (by omega)]; rfl) (fun j hj => HVB.out.free (m + j))
              obtain ⟨hv9, hg9⟩ := Vec.pasts (List.replicate (n - m) (.slice none 0 0)) m (Nat.le_refl _) (HVB.out.cut (m := m) (by omega))
              have Hv9 := Sp.hid hv9
              have Hg9 := Sp.hid (grownBy_trans Hgr.out hg9)
              clear hpe hv9 hg9
              go_wp2
              go_ret
              exact ⟨m, B, rfl, Hv9.out, hcN.out, Hg9.out⟩
      · have hk' : k = n := by omega
        have hf := Sp.hid (show compactOf eq (upTo A n) = upTo A n by rw [← hk']; exact Hco.out)
        clear hk'
        go_wp2
        go_ret
        exact ⟨n, A, rfl, HVA.out, hf.out.symm, ⟨Hgr0.out.os, Hgr0.out.tape, Hgr0.out.output, Hgr0.out.size, Hgr0.out.block⟩⟩

theorem compactW_none (ao : Option Addr) (cap : Nat) (fv : Value) (w : World) :
    Calls Try.prog 90 #[.slice ao 0 cap, fv] w fun e w' => e = .returned (.slice ao 0 cap) ∧ w = w' := by
  go_enter Try.func90, Try.ntmps90
  go_wp2
  go_ret
  exact ⟨rfl, rfl⟩

end Go.Proofs.Ytimjgjhdkinhoaa
