/-
  Two rows of the call's own, of unlike kinds, lie in unlike blocks.
-/
import Derived.Test.YtpoblcmjfcpiaaaGreatMgReRowReMem
import Derived.Test.YtpoblcmjfcpiaaaGreatMgAuMemAuGrAuNet
import Derived.IntWalk
set_option linter.unusedVariables false
namespace Go.Proofs.YtpoblcmjfcpiaaaGreat
open Go.RowKit
namespace Nf
theorem own_own_ne {w : World} {b1 b2 : Nat} {e1 e2 : TypeId} {s1 s2 n1 n2 : Nat} {v1 v2 : Value} {x1 x2 : List Value} (h : w.ownsRow b1 e1 s1 v1 n1 x1) (k : w.ownsRow b2 e2 s2 v2 n2 x2) (hne : e1 ≠ e2) : v1.ownBlock = none ∨ v1.ownBlock ≠ v2.ownBlock := by
  rcases k.2 with ⟨rfl, _⟩ | ⟨g, cap, cur, rfl, _, hg, _⟩
  · cases hv : v1.ownBlock with
    | none => exact .inl rfl
    | some b => right; simp [Value.ownBlock]
  · right
    simp only [Value.ownBlock]
    exact own_ne h hg hne
end Nf
end Go.Proofs.YtpoblcmjfcpiaaaGreat

/-
  The walk of the reference's kept.
-/
set_option linter.unusedVariables false
set_option linter.unusedSimpArgs false
namespace Go.Proofs.YtpoblcmjfcpiaaaGreat
open Go.RowKit
noncomputable def Nf.keep (S : Nat → Prop) (L : List Nat) : List Nat := L.filter fun q => Nf.bl (S q)
theorem Nf.mem_keep {S : Nat → Prop} {L : List Nat} {q : Nat} : q ∈ Nf.keep S L ↔ q ∈ L ∧ S q := by unfold Nf.keep; rw [List.mem_filter, Nf.bl_iff]
def Nf.KeptPost (S : Nat → Prop) (L : List Nat) (w : World) (e : Ending) (w' : World) : Prop :=
  ∃ (lo : Option Addr) (k c : Nat), e = .returned (.slice lo k c) ∧ (Nf.keep S L).length = k ∧ w'.ownsRow w.heap.size 3 1 (.slice lo k c) k ((Nf.keep S L).map Nf.num) ∧ Below w.heap.size w w'
set_option maxHeartbeats 1000000 in
set_option maxRecDepth 100000 in
theorem kept_any (w : World) (ao : Option Addr) (n cap : Nat) (L : List Nat) (mb N cp : Nat) (S : Nat → Prop) (hL : Nf.Seq Nf.num w ao n L) (hlt : ∀ q ∈ L, q < N) (hN : N ≤ 3000) (hm : Nf.BoolsAt w mb N S) (hn : n ≤ 1000000000000) :
    Calls Tryz.prog 37 #[.slice ao n cap, .slice (some ⟨mb, 0, none⟩) N cp] w (Nf.KeptPost S L w) := by
  have hp : Nf.KeptPost S L w = fun e w' => ∃ (lo : Option Addr) (k c : Nat), e = .returned (.slice lo k c) ∧ (Nf.keep S L).length = k ∧ w'.ownsRow w.heap.size 3 1 (.slice lo k c) k ((Nf.keep S L).map Nf.num) ∧ Below w.heap.size w w' := rfl
  rw [hp]
  have HL := Sp.hid hL
  have Hlt := Sp.hid hlt
  have HM := Sp.hid hm
  have Hlen := Sp.hid hL.1
  clear hp hL hlt hm
  go_enter Tryz.func37, Tryz.ntmps37
  go_wp2_with fail
  go_loopw [5, 6] (fun t i wr => ∃ (j : Nat) (lo : Option Addr) (k c : Nat), t = .slice lo k c ∧ i = .int .i64 j ∧ j ≤ n ∧ Hid ((Nf.keep S (L.take j)).length = k) ∧ Hid (wr.ownsRow w.heap.size 3 1 (.slice lo k c) k ((Nf.keep S (L.take j)).map Nf.num)) ∧ Hid (Below w.heap.size w wr)) (fun _ i _ => n - (intOf i).toNat)
  case atStart => exact ⟨0, none, 0, 0, rfl, rfl, Nat.zero_le _, Sp.hid rfl, Sp.hid (World.ownsRow_nil _ _ _ _), Sp.hid (Below.refl _ _)⟩
  case round =>
    obtain ⟨j, lo, k, c, rfl, rfl, hj, Hk, Hown, Hb⟩ := hrel
    by_cases hjn : j < n
    · obtain ⟨b, off, q, rfl, cq0, hq?, htk⟩ := (HL.out.below Hb.out).at hjn
      have cq : wr.cell? ⟨b, off + j, none⟩ = some (.int .i64 q) := cq0
      have hqN := Hlt.out q (List.mem_of_getElem? hq?)
      have cm := (HM.out.below Hb.out) q hqN
      have hz := Hb.out.size
      have i1 : (0 : Int) ≤ (j : Int) := by omega
      have i2 : (j : Int) < (n : Int) := by omega
      have i3 : (0 : Int) ≤ (q : Int) := by omega
      have i4 : (q : Int) < (N : Int) := by omega
      have Htk := Sp.hid htk
      clear cq0 hq? htk
      by_cases hS : S q
      · rw [Nf.bl_true hS] at cm
        have Hkeep : Hid (Nf.keep S (L.take (j + 1)) = Nf.keep S (L.take j) ++ [q]) := Sp.hid (by unfold Nf.keep; rw [Htk.out, List.filter_append]; simp [Nf.bl_true hS])
        have Hown2 := Sp.hid (show (wr.alloc (.cells #[.int .i64 q] 3)).ownsRow w.heap.size 3 1 (.slice lo k c) (Nf.keep S (L.take j)).length ((Nf.keep S (L.take j)).map Nf.num) from by rw [Hk.out]; exact Hown.out.alloc _)
        have Hb2 := Sp.hid (Hb.out.alloc hz (.cells #[.int .i64 q] 3))
        have hzz : w.heap.size ≤ (wr.alloc (.cells #[.int .i64 q] 3)).heap.size := by simp; omega
        have hk9 : (Nf.keep S (L.take j)).length ≤ 1000000000000 := by
          have h1 : (Nf.keep S (L.take j)).length ≤ (L.take j).length := List.length_filter_le _ _
          have h2 : (L.take j).length ≤ j := by rw [List.length_take]; omega
          omega
        have Hk9 := Sp.hid hk9
        clear hS hk9
        go_wp2_with (first
          | (at_builtin; refine Nf.push_num2 rfl _ _ rfl w.heap.size (.slice lo k c) (Nf.keep S (L.take j)) rfl Hown2.out q ⟨wr.heap.size, 0, none⟩ 1 rfl ?c1 ?c2 ?c3 ?_)
          | fail)
        case c1 => simp [go_sem]
        case c2 => exact Hk9.out
        case c3 => exact hzz
        intro v3 w3 hown3 hg3 _
        have hown3 : w3.ownsRow w.heap.size 3 1 v3 (Nf.keep S (L.take (j + 1))).length ((Nf.keep S (L.take (j + 1))).map Nf.num) := by rw [Hkeep.out, List.length_append, List.map_append]; exact hown3
        have hL3 : (Nf.keep S (L.take (j + 1))).length = k + 1 := by rw [Hkeep.out, List.length_append, Hk.out]; rfl
        obtain ⟨lo3, c3, rfl, _, _⟩ := Nf.seq_of_own hown3 (by rw [hL3, ← Hk.out]; unfold maxLen; have := Hk9.out; omega)
        rw [hL3] at hown3 ⊢
        have Hown3 := Sp.hid hown3
        have HL3 := Sp.hid hL3
        have Hb3 : Hid (Below w.heap.size w w3) := Sp.hid (Hb2.out.grown hg3 hzz (fun k hk => (Hown2.out.lt k hk).1))
        clear hown3 hg3 hL3
        go_wp2_with fail
        go_roundw
        case rel => exact ⟨j + 1, lo3, k + 1, c3, rfl, by go_num, hjn, HL3, Hown3, Hb3⟩
        case measure => simp [intOf]; omega
      · rw [Nf.bl_false hS] at cm
        have Hkeep : Hid (Nf.keep S (L.take (j + 1)) = Nf.keep S (L.take j)) := Sp.hid (by unfold Nf.keep; rw [Htk.out, List.filter_append]; simp [Nf.bl_false hS])
        clear hS
        go_wp2_with fail
        go_roundw
        case rel => exact ⟨j + 1, lo, k, c, rfl, by go_num, hjn, Sp.hid (by rw [Hkeep.out]; exact Hk.out), Sp.hid (by rw [Hkeep.out]; exact Hown.out), Hb⟩
        case measure => simp [intOf]; omega
    · have hje : j = n := by omega
      have Hfull : Hid (L.take j = L) := Sp.hid (by rw [hje, ← Hlen.out, List.take_length])
      clear hje
      go_wp2_with fail
      go_ret
      exact ⟨lo, k, c, rfl, by have := Hk.out; rwa [Hfull.out] at this, by have := Hown.out; rwa [Hfull.out] at this, Hb.out⟩
end Go.Proofs.YtpoblcmjfcpiaaaGreat
