/-
  The walks of Words and Finite.
-/
import Derived.Test.YthpnipkihpoooaaAuY
import Derived.Test.YthpnipkihpoooaaAuF
set_option linter.unusedVariables false
set_option linter.unusedSimpArgs false
namespace Go.Proofs.Ythpnipkihpoooaa
open Go.RowKit
namespace Nf
def netGr (n : Net) : Gr := grOf n.sig n.st.toNat n.arcs n.ends
theorem errNet_pre {w : World} {n : Net} (h : NetAt w n) (he : errNet n = 0) : n.st = (n.st.toNat : Int) ∧ n.st ≤ 3000 ∧ IndexPre w n.so n.sn n.sig n.st.toNat n.ao n.an n.arcs n.eo n.en n.ends := by
  unfold errNet at he
  by_cases h1 : 3000 < n.st ∨ 60000 < n.arcs.length ∨ 60000 < n.ends.length
  · rw [if_pos h1] at he; simp at he
  · rw [if_neg h1] at he
    by_cases h2 : Sp.errAlpha n.sig = 0
    · rw [if_neg (by simpa using h2)] at he
      obtain ⟨h40, hasc, hf⟩ := alpha_asc h2
      cases hn : netOk n with
      | false => rw [hn, if_pos rfl] at he; simp at he
      | true =>
        have hla := h.arcs.1
        have hle := h.ends.1
        have hls := h.sig.1
        simp only [netOk, Bool.and_eq_true, decide_eq_true_eq, List.all_eq_true, arcOk, stOk, syOk, Bool.or_eq_true, bl_iff] at hn
        obtain ⟨⟨hp, ha⟩, hd⟩ := hn
        refine ⟨by omega, by omega, ⟨h.sig, h.arcs, h.ends, by omega, by omega, by omega, by omega, fun a h => ?_, fun a h => ?_, fun a h => ?_, fun d h => ?_, hasc, hf, by omega⟩⟩
        · have := (ha a h).1.1.1; omega
        · have := (ha a h).1.1.2; omega
        · exact (ha a h).1.2.symm
        · have := hd d h; omega
    · rw [if_pos (by simpa using h2)] at he; exact absurd he h2
noncomputable def wordsSpec (n : Net) (most : Int) : List (List ByteArray) × Bool × Int :=
  if errNet n ≠ 0 then ([], false, errNet n) else if most < 1 ∨ 200 < most then ([], false, 1) else firstSpec (netGr n) most.toNat
def WordsPost (n : Net) (most : Int) (w : World) (e : Ending) (w' : World) : Prop :=
  ∃ (bo : Option Addr) (m cap : Nat) (els : List Lst) (more : Bool) (er : Int), e = .returned (.tuple #[.slice bo m cap, .bool more, .int .i64 er]) ∧ Sp.RowE w' bo m els ∧ Below w.heap.size w w' ∧ (Sp.lists els, more, er) = wordsSpec n most
noncomputable def finSpec (n : Net) : Bool × Int := if errNet n ≠ 0 then (false, errNet n) else (!bl (Lg (netGr n) n.st.toNat 0), 0)
def FinPost (n : Net) (w : World) (e : Ending) (w' : World) : Prop := e = .returned (.tuple #[.bool (finSpec n).1, .int .i64 (finSpec n).2]) ∧ Below w.heap.size w w'
theorem rowE_nil (w : World) : Sp.RowE w none 0 [] := ⟨rfl, by decide, fun h => absurd h (by decide), by simp⟩
end Nf

set_option maxHeartbeats 2000000 in
set_option maxRecDepth 100000 in
theorem words_any (w : World) (n : Nf.Net) (most : Int) (h : Nf.NetAt w n) (hm1 : -9223372036854775808 ≤ most) (hm2 : most ≤ 9223372036854775807) :
    Calls Try.prog 23 #[n.val, .int .i64 most] w (Nf.WordsPost n most w) := by
  have hb0 : Below w.heap.size w (w.alloc (.cells n.cells 26)) := (Below.refl _ w).alloc (Nat.le_refl _) _
  have hblk : (w.alloc (.cells n.cells 26)).heap[w.heap.size]? = some (.cells n.cells 26 (0, 0)) := Nf.Below.heap_new w _
  have HV := Sp.hid (netValidate_any _ n (h.below hb0))
  have hspec : Nf.wordsSpec n most = if Nf.errNet n ≠ 0 then ([], false, Nf.errNet n) else if most < 1 ∨ 200 < most then ([], false, 1) else Nf.firstSpec (Nf.netGr n) most.toNat := rfl
  have Hspec := Sp.hid hspec
  have Hblk := Sp.hid hblk
  have HB0 := Sp.hid hb0
  have HN := Sp.hid h
  have HIdx := Sp.hid (fun (he : Nf.errNet n = 0) (w2 : World) (hb : Below w.heap.size w w2) => (Nf.errNet_pre (h.below hb) he).2.2)
  have HE := Sp.hid (fun (he : Nf.errNet n = 0) => (Nf.errNet_pre h he).1)
  have hp : Nf.WordsPost n most w = fun e w' => ∃ (bo : Option Addr) (m cap : Nat) (els : List Lst) (more : Bool) (er : Int), e = .returned (.tuple #[.slice bo m cap, .bool more, .int .i64 er]) ∧ Sp.RowE w' bo m els ∧ Below w.heap.size w w' ∧ (Sp.lists els, more, er) = Nf.wordsSpec n most := rfl
  rw [hp]
  generalize Nf.wordsSpec n most = spec at Hspec
  clear h hb0 hblk hspec hp
  by_cases he : Nf.errNet n = 0
  · have Hs2 := Sp.hid (by have := Hspec.out; rwa [if_neg (by simpa using he)] at this)
    have HI := Sp.hid (HIdx.out he)
    have hst := HE.out he
    have Hgr := Sp.hid (show Nf.netGr n = Nf.grOf n.sig n.st.toNat n.arcs n.ends from rfl)
    rw [he] at HV
    obtain ⟨N, hN⟩ : ∃ N, n.st.toNat = N := ⟨_, rfl⟩
    rw [hN] at HI hst Hgr
    generalize Nf.netGr n = gr at Hs2 Hgr
    clear Hspec HIdx HE he hN
    obtain ⟨so, sn, scap, sig, st, ao, an, acap, arcs, eo, en, ecap, ends⟩ := n
    unfold Nf.Net.val at *
    simp only [Nf.Net.cells] at *
    subst hst
    by_cases m1 : most < 1
    · have Hs3 := Sp.hid (by have := Hs2.out; rwa [if_pos (.inl m1)] at this)
      go_enter Try.func23, Try.ntmps23
      go_wp2_with fail
      refine HV.out.mono ?_
      rintro e w2 ⟨rfl, hb2⟩
      have HB2 := Sp.hid (HB0.out.trans (hb2.mono HB0.out.size))
      clear hb2
      go_wp2_with fail
      go_ret3
      exact ⟨none, 0, 0, [], false, 1, rfl, Nf.rowE_nil _, HB2.out, Hs3.out.symm⟩
    · by_cases m2 : 200 < most
      · have Hs3 := Sp.hid (by have := Hs2.out; rwa [if_pos (.inr m2)] at this)
        go_enter Try.func23, Try.ntmps23
        go_wp2_with fail
        refine HV.out.mono ?_
        rintro e w2 ⟨rfl, hb2⟩
        have HB2 := Sp.hid (HB0.out.trans (hb2.mono HB0.out.size))
        clear hb2
        go_wp2_with fail
        go_ret3
        exact ⟨none, 0, 0, [], false, 1, rfl, Nf.rowE_nil _, HB2.out, Hs3.out.symm⟩
      · have Hs3 := Sp.hid (by have := Hs2.out; rwa [if_neg (by omega)] at this)
        obtain ⟨M, hM⟩ : ∃ M : Nat, most = (M : Int) := ⟨most.toNat, by omega⟩
        subst hM
        rw [Int.toNat_natCast] at Hs3
        have m2' : ¬ (M : Int) > 200 := m2
        go_enter Try.func23, Try.ntmps23
        go_wp2_with fail
        refine HV.out.mono ?_
        rintro e w2 ⟨rfl, hb2⟩
        have hblk2 := Nf.blk_below Hblk.out hb2 (by simp)
        have d0 : w2.cell? ⟨w.heap.size, 0, none⟩ = some (.slice so sn scap) := Nf.blk_cell (i := 0) hblk2 rfl
        have d1 : w2.cell? ⟨w.heap.size, 1, none⟩ = some (.int .i64 (N : Int)) := Nf.blk_cell (i := 1) hblk2 rfl
        have d2 : w2.cell? ⟨w.heap.size, 2, none⟩ = some (.slice ao an acap) := Nf.blk_cell (i := 2) hblk2 rfl
        have d3 : w2.cell? ⟨w.heap.size, 3, none⟩ = some (.slice eo en ecap) := Nf.blk_cell (i := 3) hblk2 rfl
        have HB2 := Sp.hid (HB0.out.trans (hb2.mono HB0.out.size))
        have HX := Sp.hid (index_any w2 so sn scap sig N ao an acap arcs eo en ecap ends (HI.out w2 HB2.out))
        clear hb2 hblk2
        go_wp2_with fail
        refine HX.out.mono ?_
        rintro e w3 ⟨gb, v, rfl, hG, hb3⟩
        have HB3 := Sp.hid (HB2.out.trans (hb3.mono HB2.out.size))
        have HF := Sp.hid (first_any w3 gb M v _ hG (by omega))
        clear hG hb3
        go_wp2_with fail
        refine HF.out.mono ?_
        rintro e w4 ⟨bo, m, cap, els, more, er, rfl, hrow, hb4, hsp⟩
        have Hrow := Sp.hid hrow
        have HB4 := Sp.hid (HB3.out.trans (hb4.mono HB3.out.size))
        have Hsp := Sp.hid hsp
        clear hrow hb4 hsp
        go_wp2_with fail
        go_ret3
        exact ⟨bo, m, cap, els, more, er, rfl, Hrow.out, HB4.out, by rw [Hs3.out, Hgr.out]; exact Hsp.out⟩
  · have Hs2 := Sp.hid (by have := Hspec.out; rwa [if_pos he] at this)
    generalize Nf.errNet n = r at HV he Hs2
    have h3 : (r != 0) = true := by simpa using he
    clear Hspec HIdx HE he
    obtain ⟨so, sn, scap, sig, st, ao, an, acap, arcs, eo, en, ecap, ends⟩ := n
    unfold Nf.Net.val at *
    simp only [Nf.Net.cells] at *
    go_enter Try.func23, Try.ntmps23
    go_wp2_with fail
    refine HV.out.mono ?_
    rintro e w2 ⟨rfl, hb2⟩
    have HB2 := Sp.hid (HB0.out.trans (hb2.mono HB0.out.size))
    clear hb2
    go_wp2_with fail
    go_ret3
    exact ⟨none, 0, 0, [], false, r, rfl, Nf.rowE_nil _, HB2.out, Hs2.out.symm⟩
end Go.Proofs.Ythpnipkihpoooaa
