/-
  The walks of Words and Finite.
-/
import Derived.Test.YtnaojfhhjknejaaMgAuY
import Derived.Test.YtnaojfhhjknejaaMgAuF
set_option linter.unusedVariables false
set_option linter.unusedSimpArgs false
namespace Go.Proofs.Ytnaojfhhjknejaa
open Go.RowKit
namespace Nf
def netGr (n : Net) : Gr := grOf n.sig n.st.toNat n.arcs n.ends
theorem errNet_pre {w : World} {n : Net} (h : NetAt w n) (he : errNet n = 0) : n.st = (n.st.toNat : Int) ∧ n.st ≤ 3000 ∧ IndexPre w n.so n.sn n.sig n.st.toNat n.ao n.an n.arcs n.eo n.en n.ends := by
  unfold errNet at he
  by_cases h1 : 3000 < n.st ∨ 60000 < n.arcs.length ∨ 60000 < n.ends.length
  · rw [if_pos h1] at he; simp at he
  · rw [if_neg h1] at he
    by_cases h2 : Sp.errAlpha n.sig = 0
    · rw [if_neg (by simpa using h2)] at he
      obtain ⟨h40, hasc, hf⟩ := alpha_asc h2
      cases hn : netOk n with
      | false => rw [hn, if_pos rfl] at he; simp at he
      | true =>
        have hla := h.arcs.1
        have hle := h.ends.1
        have hls := h.sig.1
        simp only [netOk, Bool.and_eq_true, decide_eq_true_eq, List.all_eq_true, arcOk, stOk, syOk, Bool.or_eq_true, bl_iff] at hn
        obtain ⟨⟨hp, ha⟩, hd⟩ := hn
        refine ⟨by omega, by omega, ⟨h.sig, h.arcs, h.ends, by omega, by omega, by omega, by omega, fun a h => ?_, fun a h => ?_, fun a h => ?_, fun d h => ?_, hasc, hf, by omega⟩⟩
        · have := (ha a h).1.1.1; omega
        · have := (ha a h).1.1.2; omega
        · exact (ha a h).1.2.symm
        · have := hd d h; omega
    · rw [if_pos (by simpa using h2)] at he; exact absurd he h2
noncomputable def wordsSpec (n : Net) (most : Int) : List (List ByteArray) × Bool × Int :=
  if errNet n ≠ 0 then ([], false, errNet n) else if most < 1 ∨ 200 < most then ([], false, 1) else firstSpec (netGr n) most.toNat
def WordsPost (n : Net) (most : Int) (w : World) (e : Ending) (w' : World) : Prop :=
  ∃ (bo : Option Addr) (m cap : Nat) (els : List Lst) (more : Bool) (er : Int), e = .returned (.tuple #[.slice bo m cap, .bool more, .int .i64 er]) ∧ Sp.RowE w' bo m els ∧ Below w.heap.size w w' ∧ (Sp.lists els, more, er) = wordsSpec n most
noncomputable def finSpec (n : Net) : Bool × Int := if errNet n ≠ 0 then (false, errNet n) else (!bl (Lg (netGr n) n.st.toNat 0), 0)
def FinPost (n : Net) (w : World) (e : Ending) (w' : World) : Prop := e = .returned (.tuple #[.bool (finSpec n).1, .int .i64 (finSpec n).2]) ∧ Below w.heap.size w w'
theorem rowE_nil (w : World) : Sp.RowE w none 0 [] := ⟨rfl, by decide, fun h => absurd h (by decide), by simp⟩
end Nf

set_option maxHeartbeats 2000000 in
set_option maxRecDepth 100000 in
theorem words_any (w : World) (n : Nf.Net) (most : Int) (h : Nf.NetAt w n) (hm1 : -9223372036854775808 ≤ most) (hm2 : most ≤ 9223372036854775807) :
    Calls Try.prog 8 #[n.val, .int .i64 most] w (Nf.WordsPost n most w) := by
  have hb0 : Below w.heap.size w (w.alloc (.cells n.cells 26)) := (Below.refl _ w).alloc (Nat.le_refl _) _
  have hblk : (w.alloc (.cells n.cells 26)).heap[w.heap.size]? = some (.cells n.cells 26 (0, 0)) := Nf.Below.heap_new w _
  have HV := Sp.hid (netValidate_any _ n (h.below hb0))
  have hspec : Nf.wordsSpec n most = if Nf.errNet n ≠ 0 then ([], false, Nf.errNet n) else if most < 1 ∨ 200 < most then ([], false, 1) else Nf.firstSpec (Nf.netGr n) most.toNat := rfl
  have Hspec := Sp.hid hspec
  have Hblk := Sp.hid hblk
  have HB0 := Sp.hid hb0
  have HN := Sp.hid h
  have HIdx := Sp.hid (fun (he : Nf.errNet n = 0) (w2 : World) (hb : Below w.heap.size w w2) => (Nf.errNet_pre (h.below hb) he).2.2)
  have HE := Sp.hid (fun (he : Nf.errNet n = 0) => (Nf.errNet_pre h he).1)
  have hp : Nf.WordsPost n most w = fun e w' => ∃ (bo : Option Addr) (m cap : Nat) (els : List Lst) (more : Bool) (er : Int), e = .returned (.tuple #[.slice bo m cap, .bool more, .int .i64 er]) ∧ Sp.RowE w' bo m els ∧ Below w.heap.size w w' ∧ (Sp.lists els, more, er) = Nf.wordsSpec n most := rfl
  rw [hp]
  generalize Nf.wordsSpec n most = spec at Hspec
  clear h hb0 hblk hspec hp
  by_cases he : Nf.errNet n = 0
  · have Hs2 := Sp.hid (by have := Hspec.out; rwa [if_neg (by simpa using he)] at this)
    have HI := Sp.hid (HIdx.out he)
    have hst := HE.out he
    have Hgr := Sp.hid (show Nf.netGr n = Nf.grOf n.sig n.st.toNat n.arcs n.ends from rfl)
    rw [he] at HV
    obtain ⟨N, hN⟩ : ∃ N, n.st.toNat = N := ⟨_, rfl⟩
    rw [hN] at HI hst Hgr
    generalize Nf.netGr n = gr at Hs2 Hgr
    clear Hspec HIdx HE he hN
    obtain ⟨so, sn, scap, sig, st, ao, an, acap, arcs, eo, en, ecap, ends⟩ := n
    unfold Nf.Net.val at *
    simp only [Nf.Net.cells] at *
    subst hst
    by_cases m1 : most < 1
    · have Hs3 := Sp.hid (by have := Hs2.out; rwa [if_pos (.inl m1)] at this)
      go_enter Try.func8, Try.ntmps8
      go_wp2_with fail
      refine HV.out.mono ?_
      rintro e w2 ⟨rfl, hb2⟩
      have HB2 := Sp.hid (HB0.out.trans (hb2.mono HB0.out.size))
      clear hb2
      go_wp2_with fail
      go_ret3
      exact ⟨none, 0, 0, [], false, 1, rfl, Nf.rowE_nil _, HB2.out, Hs3.out.symm⟩
    · by_cases m2 : 200 < most
      · have Hs3 := Sp.hid (by have := Hs2.out; rwa [if_pos (.inr m2)] at this)
        go_enter Try.func8, Try.ntmps8
        go_wp2_with fail
        refine HV.out.mono ?_
        rintro e w2 ⟨rfl, hb2⟩
        have HB2 := Sp.hid (HB0.out.trans (hb2.mono HB0.out.size))
        clear hb2
        go_wp2_with fail
        go_ret3
        exact ⟨none, 0, 0, [], false, 1, rfl, Nf.rowE_nil _, HB2.out, Hs3.out.symm⟩
      · have Hs3 := Sp.hid (by have := Hs2.out; rwa [if_neg (by omega)] at this)
        obtain ⟨M, hM⟩ : ∃ M : Nat, most = (M : Int) := ⟨most.toNat, by omega⟩
        subst hM
        rw [Int.toNat_natCast] at Hs3
        have m2' : ¬ (M : Int) > 200 := m2
        go_enter Try.func8, Try.ntmps8
        go_wp2_with fail
        refine HV.out.mono ?_
        rintro e w2 ⟨rfl, hb2⟩
        have hblk2 := Nf.blk_below Hblk.out hb2 (by simp)
        have d0 : w2.cell? ⟨w.heap.size, 0, none⟩ = some (.slice so sn scap) := Nf.blk_cell (i := 0) hblk2 rfl
        have d1 : w2.cell? ⟨w.heap.size, 1, none⟩ = some (.int .i64 (N : Int)) := Nf.blk_cell (i := 1) hblk2 rfl
        have d2 : w2.cell? ⟨w.heap.size, 2, none⟩ = some (.slice ao an acap) := Nf.blk_cell (i := 2) hblk2 rfl
        have d3 : w2.cell? ⟨w.heap.size, 3, none⟩ = some (.slice eo en ecap) := Nf.blk_cell (i := 3) hblk2 rfl
        have HB2 := Sp.hid (HB0.out.trans (hb2.mono HB0.out.size))
        have HX := Sp.hid (index_any w2 so sn scap sig N ao an acap arcs eo en ecap ends (HI.out w2 HB2.out))
        clear hb2 hblk2
        go_wp2_with fail
        refine HX.out.mono ?_
        rintro e w3 ⟨gb, v, rfl, hG, hb3⟩
        have HB3 := Sp.hid (HB2.out.trans (hb3.mono HB2.out.size))
        have HF := Sp.hid (first_any w3 gb M v _ hG (by omega))
        clear hG hb3
        go_wp2_with fail
        refine HF.out.mono ?_
        rintro e w4 ⟨bo, m, cap, els, more, er, rfl, hrow, hb4, hsp⟩
        have Hrow := Sp.hid hrow
        have HB4 := Sp.hid (HB3.out.trans (hb4.mono HB3.out.size))
        have Hsp := Sp.hid hsp
        clear hrow hb4 hsp
        go_wp2_with fail
        go_ret3
        exact ⟨bo, m, cap, els, more, er, rfl, Hrow.out, HB4.out, by rw [Hs3.out, Hgr.out]; exact Hsp.out⟩
  · have Hs2 := Sp.hid (by have := Hspec.out; rwa [if_pos he] at this)
    generalize Nf.errNet n = r at HV he Hs2
    have h3 : (r != 0) = true := by simpa using he
    clear Hspec HIdx HE he
    obtain ⟨so, sn, scap, sig, st, ao, an, acap, arcs, eo, en, ecap, ends⟩ := n
    unfold Nf.Net.val at *
    simp only [Nf.Net.cells] at *
    go_enter Try.func8, Try.ntmps8
    go_wp2_with fail
    refine HV.out.mono ?_
    rintro e w2 ⟨rfl, hb2⟩
    have HB2 := Sp.hid (HB0.out.trans (hb2.mono HB0.out.size))
    clear hb2
    go_wp2_with fail
    go_ret3
    exact ⟨none, 0, 0, [], false, r, rfl, Nf.rowE_nil _, HB2.out, Hs2.out.symm⟩
end Go.Proofs.Ytnaojfhhjknejaa

/-
  The walk of Finite.
-/
set_option linter.unusedVariables false
set_option linter.unusedSimpArgs false
namespace Go.Proofs.Ytnaojfhhjknejaa
open Go.RowKit

set_option maxHeartbeats 2000000 in
set_option maxRecDepth 100000 in
theorem finite_any (w : World) (n : Nf.Net) (h : Nf.NetAt w n) :
    Calls Try.prog 11 #[n.val] w (Nf.FinPost n w) := by
  have hb0 : Below w.heap.size w (w.alloc (.cells n.cells 26)) := (Below.refl _ w).alloc (Nat.le_refl _) _
  have hblk : (w.alloc (.cells n.cells 26)).heap[w.heap.size]? = some (.cells n.cells 26 (0, 0)) := Nf.Below.heap_new w _
  have HV := Sp.hid (netValidate_any _ n (h.below hb0))
  have hspec : Nf.finSpec n = if Nf.errNet n ≠ 0 then (false, Nf.errNet n) else (!Nf.bl (Nf.Lg (Nf.netGr n) n.st.toNat 0), 0) := rfl
  have Hspec := Sp.hid hspec
  have Hblk := Sp.hid hblk
  have HB0 := Sp.hid hb0
  have HN := Sp.hid h
  have HIdx := Sp.hid (fun (he : Nf.errNet n = 0) (w2 : World) (hb : Below w.heap.size w w2) => (Nf.errNet_pre (h.below hb) he).2.2)
  have HE := Sp.hid (fun (he : Nf.errNet n = 0) => (Nf.errNet_pre h he).1)
  have HE2 := Sp.hid (fun (he : Nf.errNet n = 0) => (Nf.errNet_pre h he).2.1)
  have hp : Nf.FinPost n w = fun e w' => e = .returned (.tuple #[.bool (Nf.finSpec n).1, .int .i64 (Nf.finSpec n).2]) ∧ Below w.heap.size w w' := rfl
  rw [hp]
  generalize Nf.finSpec n = spec at Hspec
  clear h hb0 hblk hspec hp
  by_cases he : Nf.errNet n = 0
  · have Hs2 := Sp.hid (by have := Hspec.out; rwa [if_neg (by simpa using he)] at this)
    have HI := Sp.hid (HIdx.out he)
    have hst := HE.out he
    have hst2 := HE2.out he
    have Hgr := Sp.hid (show Nf.netGr n = Nf.grOf n.sig n.st.toNat n.arcs n.ends from rfl)
    rw [he] at HV
    obtain ⟨N, hN⟩ : ∃ N, n.st.toNat = N := ⟨_, rfl⟩
    rw [hN] at HI hst Hgr Hs2
    generalize Nf.netGr n = gr at Hs2 Hgr
    clear Hspec HIdx HE HE2 he hN
    obtain ⟨so, sn, scap, sig, st, ao, an, acap, arcs, eo, en, ecap, ends⟩ := n
    unfold Nf.Net.val at *
    simp only [Nf.Net.cells] at *
    subst hst
    have hn2 : N ≤ 3000 := by omega
    obtain ⟨B, hB⟩ : ∃ B, w.heap.size = B := ⟨_, rfl⟩
    have HBs := Sp.hid hB
    have HX : RowKit.Hid (∀ w2 : World, RowKit.Hid (Below w.heap.size w w2) → w2.cell? ⟨B, 0, none⟩ = some (.slice so sn scap) → w2.cell? ⟨B, 1, none⟩ = some (.int .i64 (N : Int)) → w2.cell? ⟨B, 2, none⟩ = some (.slice ao an acap) → w2.cell? ⟨B, 3, none⟩ = some (.slice eo en ecap) →
        Calls Try.prog 14 #[.agg #[.slice so sn scap, .int .i64 N, .slice ao an acap, .slice eo en ecap]] w2 (fun e w3 => ∃ gb v, e = .returned (.pointer (some ⟨gb, 0, none⟩)) ∧ RowKit.Hid (Nf.GrAt w3 gb v (Nf.grOf sig N arcs ends)) ∧ RowKit.Hid (Below w.heap.size w w3) ∧
          w3.cell? ⟨B, 0, none⟩ = some (.slice so sn scap) ∧ w3.cell? ⟨B, 1, none⟩ = some (.int .i64 (N : Int)) ∧ w3.cell? ⟨B, 2, none⟩ = some (.slice ao an acap) ∧ w3.cell? ⟨B, 3, none⟩ = some (.slice eo en ecap))) := Sp.hid (by
      intro w2 hb c0 c1 c2 c3
      refine (index_any w2 so sn scap sig N ao an acap arcs eo en ecap ends (HI.out w2 hb.out)).mono ?_
      rintro e w3 ⟨gb, v, rfl, hG, hb3⟩
      have l := World.block_lt_of_cell? w2 _ c0
      exact ⟨gb, v, rfl, Sp.hid hG, Sp.hid (hb.out.trans (hb3.mono hb.out.size)), by rw [hb3.cell (p := ⟨B, 0, none⟩) l]; exact c0, by rw [hb3.cell (p := ⟨B, 1, none⟩) l]; exact c1, by rw [hb3.cell (p := ⟨B, 2, none⟩) l]; exact c2, by rw [hb3.cell (p := ⟨B, 3, none⟩) l]; exact c3⟩)
    have HH : RowKit.Hid (∀ (w2 : World) (gb : Nat) (v : Nf.Gv), RowKit.Hid (Nf.GrAt w2 gb v (Nf.grOf sig N arcs ends)) → RowKit.Hid (Below w.heap.size w w2) → w2.cell? ⟨B, 0, none⟩ = some (.slice so sn scap) → w2.cell? ⟨B, 1, none⟩ = some (.int .i64 (N : Int)) → w2.cell? ⟨B, 2, none⟩ = some (.slice ao an acap) → w2.cell? ⟨B, 3, none⟩ = some (.slice eo en ecap) →
        Calls Try.prog 21 #[.pointer (some ⟨gb, 0, none⟩), .int .i64 N] w2 (fun e w3 => e = .returned (.bool (Nf.bl (Nf.Lg gr N 0))) ∧ RowKit.Hid (Below w.heap.size w w3) ∧
          w3.cell? ⟨B, 0, none⟩ = some (.slice so sn scap) ∧ w3.cell? ⟨B, 1, none⟩ = some (.int .i64 (N : Int)) ∧ w3.cell? ⟨B, 2, none⟩ = some (.slice ao an acap) ∧ w3.cell? ⟨B, 3, none⟩ = some (.slice eo en ecap))) := Sp.hid (by
      intro w2 gb v hG hb c0 c1 c2 c3
      refine (hasFrom_any w2 gb N v _ hG.out hn2).mono ?_
      rintro e w3 ⟨rfl, hb3⟩
      have l := World.block_lt_of_cell? w2 _ c0
      exact ⟨by rw [Hgr.out], Sp.hid (hb.out.trans (hb3.mono hb.out.size)), by rw [hb3.cell (p := ⟨B, 0, none⟩) l]; exact c0, by rw [hb3.cell (p := ⟨B, 1, none⟩) l]; exact c1, by rw [hb3.cell (p := ⟨B, 2, none⟩) l]; exact c2, by rw [hb3.cell (p := ⟨B, 3, none⟩) l]; exact c3⟩)
    rw [Hs2.out]
    clear hst2 Hgr HI Hs2
    generalize Nf.bl (Nf.Lg gr N 0) = r at HH
    go_enter Try.func11, Try.ntmps11
    go_wp2_with fail
    refine HV.out.mono ?_
    rintro e w2 ⟨rfl, hb2⟩
    have hblk2 := Nf.blk_below Hblk.out hb2 (by simp)
    rw [hB] at hblk2
    have d0 : w2.cell? ⟨B, 0, none⟩ = some (.slice so sn scap) := Nf.blk_cell (i := 0) hblk2 rfl
    have d1 : w2.cell? ⟨B, 1, none⟩ = some (.int .i64 (N : Int)) := Nf.blk_cell (i := 1) hblk2 rfl
    have d2 : w2.cell? ⟨B, 2, none⟩ = some (.slice ao an acap) := Nf.blk_cell (i := 2) hblk2 rfl
    have d3 : w2.cell? ⟨B, 3, none⟩ = some (.slice eo en ecap) := Nf.blk_cell (i := 3) hblk2 rfl
    have HB2 := Sp.hid (show Below w.heap.size w w2.drew from (HB0.out.trans (hb2.mono HB0.out.size)).drew)
    clear hb2 hblk2 hB
    go_wp2_with fail
    go_region_held3 (fun w' => w'.cell? ⟨B, 0, none⟩ = some (.slice so sn scap) ∧ w'.cell? ⟨B, 1, none⟩ = some (.int .i64 (N : Int)) ∧ w'.cell? ⟨B, 2, none⟩ = some (.slice ao an acap) ∧ w'.cell? ⟨B, 3, none⟩ = some (.slice eo en ecap)) (go_keep) ((first | (go_at_call 14; refine (HX.out w2.drew HB2 d0 d1 d2 d3).mono ?_; rintro e w3 ⟨gb, v, rfl, HG3, HB3, e0, e1, e2, e3⟩) | (go_at_call 21; refine (HH.out w3 gb v HG3 HB3 e0 e1 e2 e3).mono ?_; rintro e w4 ⟨rfl, HB4, f0, f1, f2, f3⟩)))
    all_goals
      go_wp2_with fail
      go_ret2
      exact ⟨rfl, HB4.out⟩
  · have Hs2 := Sp.hid (by have := Hspec.out; rwa [if_pos he] at this)
    generalize Nf.errNet n = r at HV he Hs2
    have h3 : (r != 0) = true := by simpa using he
    rw [Hs2.out]
    clear Hspec HIdx HE HE2 he Hs2
    obtain ⟨so, sn, scap, sig, st, ao, an, acap, arcs, eo, en, ecap, ends⟩ := n
    unfold Nf.Net.val at *
    simp only [Nf.Net.cells] at *
    go_enter Try.func11, Try.ntmps11
    go_wp2_with fail
    refine HV.out.mono ?_
    rintro e w2 ⟨rfl, hb2⟩
    have HB2 := Sp.hid (HB0.out.trans (hb2.mono HB0.out.size))
    clear hb2
    go_wp2_with fail
    go_ret2
    exact ⟨rfl, HB2.out⟩
end Go.Proofs.Ytnaojfhhjknejaa

/-
  The walk of the document's example: known.
-/
set_option linter.unusedVariables false
set_option linter.unusedSimpArgs false
namespace Go.Proofs.Ytnaojfhhjknejaa
open Go.RowKit
namespace Nf
def ka : ByteArray := ⟨#[97]⟩
def gk : Gr := { N := 1, sig := [ka], arcs := [(0, ka, 0)], ends := [0] }
theorem ka_ne : ka ≠ eps := by decide
theorem gk_ex : ∀ k, Ex gk k 0
  | 0 => ⟨0, by simp [gk], .refl 0⟩
  | k + 1 => ⟨0, 0, .refl 0, ⟨ka, ka_ne, by simp [gk]⟩, gk_ex k⟩
theorem gk_F : ∀ (k : Nat) (S : Nat → Prop), S 0 → F gk k S = [List.replicate k ka]
  | 0, _, _ => rfl
  | k + 1, S, h => by
    have h1 : StepTo gk S ka 0 := ⟨0, 0, h, by simp [gk], .refl 0⟩
    rw [F_succ, show gk.sig = [ka] from rfl]
    simp only [List.flatMap_cons, List.flatMap_nil, List.append_nil]
    unfold Hs
    rw [if_pos ⟨0, h1, gk_ex k⟩, gk_F k _ ⟨h1, gk_ex k⟩]
    simp [List.replicate_succ]
theorem gk_W (k : Nat) : W gk k = [List.replicate k ka] := by
  unfold W
  rw [if_pos (gk_ex k), gk_F k _ ⟨0, rfl, .refl 0⟩]
theorem gk_upto : ∃ r, upto gk 61 = [[], [ka], [ka, ka]] ++ r := by
  obtain ⟨r, hr⟩ := upto_prefix gk (a := 3) (b := 61) (by omega)
  refine ⟨r, ?_⟩
  rw [hr, upto_succ, upto_succ, upto_succ, gk_W, gk_W, gk_W]
  rfl
theorem gk_first : firstSpec gk 2 = ([[], [ka]], true, 0) := by
  obtain ⟨r, hr⟩ := gk_upto
  unfold firstSpec
  rw [hr, if_pos (by simp)]
  simp
theorem gk_lg : Lg gk 1 0 := ⟨0, 0, .refl 0, ⟨ka, ka_ne, by simp [gk]⟩, ⟨0, by simp [gk], .refl 0⟩⟩
/-- The example's net, wherever it lies. -/
def kn (b : Nat) : Net := ⟨some ⟨b, 0, none⟩, 1, 1, [ka], 1, some ⟨b + 1, 0, none⟩, 1, 1, [⟨0, ka, ka, 0, 0⟩], some ⟨b + 1 + 1, 0, none⟩, 1, 1, [⟨0, 0⟩]⟩
theorem kn_err (b : Nat) : errNet (kn b) = 0 := by
  have h1 : Sp.errAlpha [ka] = 0 := by decide
  unfold errNet
  rw [if_neg (by simp [kn]), if_neg (by simpa [kn] using h1)]
  have h2 : netOk (kn b) = true := by
    simp [netOk, arcOk, stOk, syOk, kn, bl_iff, bl_true]
  have h3 : accOk (kn b) = true := by
    simp [accOk, arcFree, kn, bl_true]
  rw [h2, h3]
  simp
theorem kn_gr (b : Nat) : netGr (kn b) = gk := rfl
theorem kn_words (b : Nat) : wordsSpec (kn b) 2 = ([[], [ka]], true, 0) := by
  unfold wordsSpec
  rw [if_neg (by simpa using kn_err b), if_neg (by omega), kn_gr]
  exact gk_first
theorem kn_fin (b : Nat) : finSpec (kn b) = (false, 0) := by
  unfold finSpec
  rw [if_neg (by simpa using kn_err b), kn_gr]
  have h : Lg gk (kn b).st.toNat 0 := gk_lg
  rw [bl_true h]; rfl
theorem kn_at {w : World} {b : Nat} (h1 : w.heap[b]? = some (.cells #[.string ka] 9 (0, 0))) (h2 : w.heap[b + 1]? = some (.cells #[.int .i64 0, .string ka, .string ka, .int .i64 0, .int .i64 0] 43 (0, 0)))
    (h3 : w.heap[b + 1 + 1]? = some (.cells #[.int .i64 0, .int .i64 0] 45 (0, 0))) : NetAt w (kn b) := by
  refine ⟨⟨rfl, (by show 1 ≤ maxLen; decide), fun _ => ⟨b, 0, rfl, fun i hi => ?_⟩, fun s hs => ?_⟩, ⟨rfl, (by show 1 ≤ 2600000000000; decide), fun _ => ⟨b + 1, 0, rfl, fun k x hx => ?_⟩, fun x hx => ?_⟩, ⟨rfl, (by show 1 ≤ 9000000000000; decide), fun _ => ⟨b + 1 + 1, 0, rfl, fun k x hx => ?_⟩⟩, by simp [kn], by simp [kn]⟩
  · have hi : i < 1 := hi
    have : i = 0 := by omega
    subst this
    exact blk_cell h1 rfl
  · have : s = ka := by simpa [kn] using hs
    subst this
    decide
  · match k, hx with
    | 0, hx =>
      simp [kn] at hx; subst hx
      exact ⟨blk_cell h2 rfl, blk_cell h2 rfl, blk_cell h2 rfl, blk_cell h2 rfl, blk_cell h2 rfl⟩
  · have : x = ⟨0, ka, ka, 0, 0⟩ := by simpa [kn] using hx
    subst this
    exact ⟨by decide, by decide⟩
  · match k, hx with
    | 0, hx =>
      simp [kn] at hx; subst hx
      exact ⟨blk_cell h3 rfl, blk_cell h3 rfl⟩
end Nf

set_option maxHeartbeats 2000000 in
set_option maxRecDepth 100000 in
theorem known_any (w : World) :
    Calls Try.prog 5 #[] w (fun e w' => e = .returned (.bool true) ∧ Below w.heap.size w w') := by
  obtain ⟨n1, n2, n3, n4⟩ := Nf.four_new w (.cells #[.string Nf.ka] 9) (.cells #[.int .i64 0, .string Nf.ka, .string Nf.ka, .int .i64 0, .int .i64 0] 43) (.cells #[.int .i64 0, .int .i64 0] 45) (.cells (Nf.kn w.heap.size).cells 26)
  have hb0 : Below w.heap.size w ((((w.alloc (.cells #[.string Nf.ka] 9)).alloc (.cells #[.int .i64 0, .string Nf.ka, .string Nf.ka, .int .i64 0, .int .i64 0] 43)).alloc (.cells #[.int .i64 0, .int .i64 0] 45)).alloc (.cells (Nf.kn w.heap.size).cells 26)) := ((((Below.refl _ w).alloc (Nat.le_refl _) _).alloc (by simp) _).alloc (by simp; omega) _).alloc (by simp; omega) _
  have HB0 := Sp.hid hb0
  have hat := Nf.kn_at n1 n2 n3
  have HAt := Sp.hid hat
  have HN4 := Sp.hid n4
  have HW0 := words_any _ (Nf.kn w.heap.size) 2 hat (by omega) (by omega)
  have HW : Calls Try.prog 8 #[.agg #[.slice (some ⟨w.heap.size, 0, none⟩) 1 1, .int .i64 1, .slice (some ⟨w.heap.size + 1, 0, none⟩) 1 1, .slice (some ⟨w.heap.size + 1 + 1, 0, none⟩) 1 1], .int .i64 2] ((((w.alloc (.cells #[.string ⟨#[97]⟩] 9)).alloc (.cells #[.int .i64 0, .string ⟨#[97]⟩, .string ⟨#[97]⟩, .int .i64 0, .int .i64 0] 43)).alloc (.cells #[.int .i64 0, .int .i64 0] 45)).alloc (.cells #[.slice (some ⟨w.heap.size, 0, none⟩) 1 1, .int .i64 1, .slice (some ⟨w.heap.size + 1, 0, none⟩) 1 1, .slice (some ⟨w.heap.size + 1 + 1, 0, none⟩) 1 1] 26)) (Nf.WordsPost (Nf.kn w.heap.size) 2 ((((w.alloc (.cells #[.string Nf.ka] 9)).alloc (.cells #[.int .i64 0, .string Nf.ka, .string Nf.ka, .int .i64 0, .int .i64 0] 43)).alloc (.cells #[.int .i64 0, .int .i64 0] 45)).alloc (.cells (Nf.kn w.heap.size).cells 26))) := HW0
  have HW := Sp.hid HW
  obtain ⟨w0, hw0⟩ : ∃ w0, ((((w.alloc (.cells #[.string Nf.ka] 9)).alloc (.cells #[.int .i64 0, .string Nf.ka, .string Nf.ka, .int .i64 0, .int .i64 0] 43)).alloc (.cells #[.int .i64 0, .int .i64 0] 45)).alloc (.cells (Nf.kn w.heap.size).cells 26)) = w0 := ⟨_, rfl⟩
  rw [hw0] at HB0 HAt HN4
  have HW2 := Sp.hid (show Nf.WordsPost (Nf.kn w.heap.size) 2 ((((w.alloc (.cells #[.string Nf.ka] 9)).alloc (.cells #[.int .i64 0, .string Nf.ka, .string Nf.ka, .int .i64 0, .int .i64 0] 43)).alloc (.cells #[.int .i64 0, .int .i64 0] 45)).alloc (.cells (Nf.kn w.heap.size).cells 26)) = Nf.WordsPost (Nf.kn w.heap.size) 2 w0 by rw [hw0])
  rw [HW2.out] at HW
  have hblkc : (Nf.kn w.heap.size).cells = #[.slice (some ⟨w.heap.size, 0, none⟩) 1 1, .int .i64 1, .slice (some ⟨w.heap.size + 1, 0, none⟩) 1 1, .slice (some ⟨w.heap.size + 1 + 1, 0, none⟩) 1 1] := rfl
  have Hblkc := Sp.hid hblkc
  clear n1 n2 n3 n4 hb0 hat HW0 hw0 HW2 hblkc
  go_enter Try.func5, Try.ntmps5
  go_wp2_with fail
  refine HW.out.mono ?_
  rintro e w2 ⟨bo, m, cap, els, more, er, rfl, hrow, hb2, hsp⟩
  rw [Nf.kn_words] at hsp
  simp only [Prod.mk.injEq] at hsp
  obtain ⟨hls, rfl, rfl⟩ := hsp
  have hlen : els.length = 2 := by have := congrArg List.length hls; simpa [Sp.lists] using this
  match els, hlen, hls, hrow with
  | [x, y], _, hls, hrow =>
    simp only [Sp.lists, List.map_cons, List.map_nil, List.cons.injEq, and_true] at hls
    have hm : m = 2 := hrow.1.symm
    subst hm
    obtain ⟨b, off, rfl, hcc⟩ := hrow.2.2.1 (by omega)
    have c0 : w2.cell? ⟨b, off, none⟩ = some x.val := hcc 0 x rfl
    have c1 : w2.cell? ⟨b, off + 1, none⟩ = some y.val := hcc 1 y rfl
    have hx0 : x.n = 0 := by have := (hrow.2.2.2 x (by simp)).1; rw [hls.1] at this; exact this.symm
    have hy0 : y.n = 1 := by have := (hrow.2.2.2 y (by simp)).1; rw [hls.2] at this; exact this.symm
    unfold Lst.val at c0 c1
    rw [hx0] at c0
    rw [hy0] at c1
    have hB2 := HB0.out.trans (hb2.mono HB0.out.size)
    have HB2 := Sp.hid hB2
    have hat2 := HAt.out.below hb2
    have hblk := Nf.blk_below HN4.out hb2 (Nf.blk_lt HN4.out)
    rw [Hblkc.out] at hblk
    have d0 : w2.cell? ⟨w.heap.size + 1 + 1 + 1, 0, none⟩ = some (.slice (some ⟨w.heap.size, 0, none⟩) 1 1) := Nf.blk_cell (i := 0) hblk rfl
    have d1 : w2.cell? ⟨w.heap.size + 1 + 1 + 1, 1, none⟩ = some (.int .i64 1) := Nf.blk_cell (i := 1) hblk rfl
    have d2 : w2.cell? ⟨w.heap.size + 1 + 1 + 1, 2, none⟩ = some (.slice (some ⟨w.heap.size + 1, 0, none⟩) 1 1) := Nf.blk_cell (i := 2) hblk rfl
    have d3 : w2.cell? ⟨w.heap.size + 1 + 1 + 1, 3, none⟩ = some (.slice (some ⟨w.heap.size + 1 + 1, 0, none⟩) 1 1) := Nf.blk_cell (i := 3) hblk rfl
    have HF : Calls Try.prog 11 #[.agg #[.slice (some ⟨w.heap.size, 0, none⟩) 1 1, .int .i64 1, .slice (some ⟨w.heap.size + 1, 0, none⟩) 1 1, .slice (some ⟨w.heap.size + 1 + 1, 0, none⟩) 1 1]] w2 (Nf.FinPost (Nf.kn w.heap.size) w2) := finite_any w2 (Nf.kn w.heap.size) hat2
    have HF := Sp.hid HF
    clear hls hrow hcc hx0 hy0 hB2 hat2 hblk hb2
    go_wp2_with fail
    refine HF.out.mono ?_
    rintro e w3 ⟨rfl, hb3⟩
    have e0 : w3.cell? ⟨b, off, none⟩ = some (.slice x.ao 0 x.cap) := by rw [hb3.cell (p := ⟨b, off, none⟩) (World.block_lt_of_cell? w2 _ c0)]; exact c0
    have e1 : w3.cell? ⟨b, off + 1, none⟩ = some (.slice y.ao 1 y.cap) := by rw [hb3.cell (p := ⟨b, off + 1, none⟩) (World.block_lt_of_cell? w2 _ c1)]; exact c1
    have HB3 := Sp.hid (HB2.out.trans (hb3.mono HB2.out.size))
    rw [Nf.kn_fin]
    clear hb3 c0 c1
    go_wp2_with fail
    go_ret
    exact ⟨rfl, HB3.out⟩
end Go.Proofs.Ytnaojfhhjknejaa

/-
  The walk of the guard: far too much.
-/
set_option linter.unusedVariables false
set_option linter.unusedSimpArgs false
namespace Go.Proofs.Ytnaojfhhjknejaa
open Go.RowKit

set_option maxHeartbeats 2000000 in
set_option maxRecDepth 100000 in
theorem isOver_any (w : World) (n : Nf.Net) (h : Nf.NetAt w n) :
    Calls Try.prog 4 #[n.val] w (fun e w' => ∃ r : Bool, e = .returned (.bool r) ∧ Below w.heap.size w w') := by
  have hb0 : Below w.heap.size w (w.alloc (.cells n.cells 26)) := (Below.refl _ w).alloc (Nat.le_refl _) _
  have Hsig := Sp.hid (h.sig.below hb0)
  have hsn : n.sn ≤ 9223372036854775807 := h.sig.2.1
  have HB := Sp.hid hb0
  clear h hb0
  obtain ⟨so, sn, scap, sig, st, ao, an, acap, arcs, eo, en, ecap, ends⟩ := n
  unfold Nf.Net.val
  simp only [Nf.Net.cells] at *
  go_enter Try.func4, Try.ntmps4
  go_wp2_with fail
  go_loopw [3, 4] (fun s i wr => ∃ (a : Int) (k : Nat), s = .int .i64 a ∧ i = .int .i64 k ∧ k ≤ sn ∧ wr = w.alloc (.cells #[.slice so sn scap, .int .i64 st, .slice ao an acap, .slice eo en ecap] 26)) (fun _ i _ => sn - (intOf i).toNat)
  case atStart => exact ⟨_, 0, rfl, rfl, Nat.zero_le _, rfl⟩
  case round =>
    obtain ⟨a, k, rfl, rfl, hk, rfl⟩ := hrel
    by_cases hks : k < sn
    · obtain ⟨b, off, s, rfl, hc, hsz, _, _⟩ := Hsig.out.at hks
      go_wp2_with fail
      go_roundw
      case rel => exact ⟨_, k + 1, rfl, by go_num, hks, trivial⟩
      case measure => simp [intOf]; omega
    · go_wp2_with fail
      go_ret
      exact ⟨_, rfl, HB.out⟩
end Go.Proofs.Ytnaojfhhjknejaa
