/-
  The walk of Empty.
-/
import Derived.Test.YtnaojfhhjknejaaMgAuZAuZaAuKnAuLa
import Derived.Test.YtnaojfhhjknejaaMgAuAAuBAuCAuD
set_option linter.unusedVariables false
set_option linter.unusedSimpArgs false
namespace Go.Proofs.Ytnaojfhhjknejaa
open Go.RowKit
namespace Nf
noncomputable def emptySpec (n : Net) : Bool × Int := if errNet n ≠ 0 then (false, errNet n) else (!bl (Live (netGr n) 0), 0)
def EmptyPost (n : Net) (w : World) (e : Ending) (w' : World) : Prop := e = .returned (.tuple #[.bool (emptySpec n).1, .int .i64 (emptySpec n).2]) ∧ Below w.heap.size w w'
end Nf

set_option maxHeartbeats 2000000 in
set_option maxRecDepth 100000 in
theorem empty_any (w : World) (n : Nf.Net) (h : Nf.NetAt w n) :
    Calls Try.prog 6 #[n.val] w (Nf.EmptyPost n w) := by
  have hb0 : Below w.heap.size w (w.alloc (.cells n.cells 26)) := (Below.refl _ w).alloc (Nat.le_refl _) _
  have hblk : (w.alloc (.cells n.cells 26)).heap[w.heap.size]? = some (.cells n.cells 26 (0, 0)) := Nf.Below.heap_new w _
  have HC := Sp.hid (netValidate_any _ n (h.below hb0))
  have Hb0 := Sp.hid hb0
  have Hblk := Sp.hid hblk
  have hp : Nf.EmptyPost n w = fun e w' => e = .returned (.tuple #[.bool (Nf.emptySpec n).1, .int .i64 (Nf.emptySpec n).2]) ∧ Below w.heap.size w w' := rfl
  rw [hp]
  by_cases he : Nf.errNet n = 0
  · have hs := Sp.hid (show Nf.emptySpec n = (!Nf.bl (Nf.Live (Nf.netGr n) 0), 0) by unfold Nf.emptySpec; rw [if_neg (by simpa using he)])
    rw [hs.out]
    have HPre := Sp.hid (fun (w2 : World) (hb : Below w.heap.size w w2) => (Nf.errNet_pre (h.below hb) he).2.2)
    have hst := (Nf.errNet_pre h he).1
    have hgr := Sp.hid (show Nf.netGr n = Nf.grOf n.sig n.st.toNat n.arcs n.ends from rfl)
    rw [he] at HC
    obtain ⟨N, hN⟩ : ∃ N, n.st.toNat = N := ⟨_, rfl⟩
    rw [hN] at HPre hst hgr
    have hNg : (Nf.netGr n).N = N := by rw [hgr.out]; rfl
    have HNg := Sp.hid hNg
    generalize Nf.netGr n = gr at hgr HNg ⊢
    obtain ⟨r, hr⟩ : ∃ r, Nf.bl (Nf.Live gr 0) = r := ⟨_, rfl⟩
    rw [hr]
    have Hr := Sp.hid hr
    clear h hb0 hblk he hs hp hN hNg hr
    obtain ⟨so, sn, scap, sig, st, ao, an, acap, arcs, eo, en, ecap, ends⟩ := n
    unfold Nf.Net.val at *
    simp only [Nf.Net.cells] at *
    subst hst
    go_enter Try.func6, Try.ntmps6
    go_wp2_with fail
    refine HC.out.mono ?_
    rintro e w2 ⟨rfl, hb2⟩
    have hblk2 := Nf.blk_below Hblk.out hb2 (by simp)
    have d0 : w2.cell? ⟨w.heap.size, 0, none⟩ = some (.slice so sn scap) := Nf.blk_cell (i := 0) hblk2 rfl
    have d1 : w2.cell? ⟨w.heap.size, 1, none⟩ = some (.int .i64 (N : Int)) := Nf.blk_cell (i := 1) hblk2 rfl
    have d2 : w2.cell? ⟨w.heap.size, 2, none⟩ = some (.slice ao an acap) := Nf.blk_cell (i := 2) hblk2 rfl
    have d3 : w2.cell? ⟨w.heap.size, 3, none⟩ = some (.slice eo en ecap) := Nf.blk_cell (i := 3) hblk2 rfl
    have Hb2 := Sp.hid (Hb0.out.trans (hb2.mono Hb0.out.size))
    have HGo := Sp.hid (index_any w2 so sn scap sig N ao an acap arcs eo en ecap ends (HPre.out w2 Hb2.out))
    rw [← hgr.out] at HGo
    clear hb2 hblk2
    go_wp2_with fail
    refine HGo.out.mono ?_
    rintro e w3 ⟨gb, v, rfl, hG3, hb3⟩
    have Hb3 := Sp.hid (Hb2.out.trans (hb3.mono Hb2.out.size))
    have hN0 : 0 < N := by rw [← HNg.out]; exact hG3.ok.pos
    have i1 : (0 : Int) < (N : Int) := by omega
    have hL5 : Calls Try.prog 15 #[.pointer (some ⟨gb, 0, none⟩)] w3 (fun e w5 => ∃ (mb cp : Nat), e = .returned (.slice (some ⟨mb, 0, none⟩) N cp) ∧ w5.cell? ⟨mb, 0, none⟩ = some (.bool r) ∧ Hid (Below w3.heap.size w3 w5)) := by
      refine (live_any w3 gb v gr hG3).mono ?_
      rintro e w5 ⟨mb, rfl, h1, h2⟩
      exact ⟨mb, N, by rw [HNg.out], by rw [← Hr.out]; exact h1.2 0 (by rw [HNg.out]; exact hN0), Sp.hid h2⟩
    have HL5 := Sp.hid hL5
    clear hG3 hb3 d0 d1 d2 d3 hL5
    go_wp2_with fail
    refine HL5.out.mono ?_
    rintro e w5 ⟨mb, cp, rfl, c0, Hb5⟩
    have Hbf := Sp.hid (Hb3.out.trans (Hb5.out.mono Hb3.out.size))
    go_wp2_with fail
    go_ret2
    exact ⟨rfl, Hbf.out⟩
  · have hs := Sp.hid (show Nf.emptySpec n = (false, Nf.errNet n) by unfold Nf.emptySpec; rw [if_pos he])
    rw [hs.out]
    generalize Nf.errNet n = r at HC he
    have h3 : (r != 0) = true := by simpa using he
    clear h hb0 hblk he hs hp
    obtain ⟨so, sn, scap, sig, st, ao, an, acap, arcs, eo, en, ecap, ends⟩ := n
    unfold Nf.Net.val at *
    simp only [Nf.Net.cells] at *
    go_enter Try.func6, Try.ntmps6
    go_wp2_with fail
    refine HC.out.mono ?_
    rintro e w2 ⟨rfl, hb2⟩
    have Hb2 := Sp.hid (Hb0.out.trans (hb2.mono Hb0.out.size))
    clear hb2
    go_wp2_with fail
    go_ret2
    exact ⟨rfl, Hb2.out⟩

end Go.Proofs.Ytnaojfhhjknejaa

/-
  The walk of First: the first word of a net.
-/
set_option linter.unusedVariables false
set_option linter.unusedSimpArgs false
namespace Go.Proofs.Ytnaojfhhjknejaa
open Go.RowKit
namespace Nf
def fstOf (p : List (List ByteArray) × Bool × Int) : List ByteArray × Bool × Int :=
  if p.2.2 ≠ 0 then ([], false, p.2.2) else if p.1.length = 0 then ([], false, 0) else (p.1.headD [], true, 0)
noncomputable def fstSpec (n : Net) : List ByteArray × Bool × Int := if errNet n ≠ 0 then ([], false, errNet n) else fstOf (firstSpec (netGr n) 1)
def FstPost (n : Net) (w : World) (e : Ending) (w' : World) : Prop :=
  ∃ lo ll lcap, e = .returned (.tuple #[.slice lo ll lcap, .bool (fstSpec n).2.1, .int .i64 (fstSpec n).2.2]) ∧ Sp.Row w' lo ll (fstSpec n).1 ∧ Below w.heap.size w w'
theorem fstOf_err {L : List (List ByteArray)} {b : Bool} {er : Int} (h : er ≠ 0) : fstOf (L, b, er) = ([], false, er) := by unfold fstOf; rw [if_pos h]
theorem fstOf_nil {els : List Lst} {b : Bool} {er : Int} (h : er = 0) (hl : els.length = 0) : fstOf (Sp.lists els, b, er) = ([], false, 0) := by
  unfold fstOf; rw [if_neg (by simpa using h), if_pos (by simp [Sp.lists, hl])]
theorem fstOf_cons {els : List Lst} {b : Bool} {er : Int} {x : Lst} (h : er = 0) (hx : els[0]? = some x) : fstOf (Sp.lists els, b, er) = (x.l, true, 0) := by
  cases els with
  | nil => simp at hx
  | cons y r =>
    simp at hx
    subst hx
    unfold fstOf; rw [if_neg (by simpa using h), if_neg (by simp [Sp.lists])]
    simp [Sp.lists]
theorem row_nil (w : World) : Sp.Row w none 0 [] := ⟨rfl, by decide, fun h => absurd h (by decide), by simp⟩
end Nf

set_option maxHeartbeats 2000000 in
set_option maxRecDepth 100000 in
theorem autoFirst_any (w : World) (n : Nf.Net) (h : Nf.NetAt w n) :
    Calls Try.prog 9 #[n.val] w (Nf.FstPost n w) := by
  have hb0 : Below w.heap.size w (w.alloc (.cells n.cells 26)) := (Below.refl _ w).alloc (Nat.le_refl _) _
  have hblk : (w.alloc (.cells n.cells 26)).heap[w.heap.size]? = some (.cells n.cells 26 (0, 0)) := Nf.Below.heap_new w _
  have HV := Sp.hid (netValidate_any _ n (h.below hb0))
  have hspec : Nf.fstSpec n = if Nf.errNet n ≠ 0 then ([], false, Nf.errNet n) else Nf.fstOf (Nf.firstSpec (Nf.netGr n) 1) := rfl
  have Hspec := Sp.hid hspec
  have Hblk := Sp.hid hblk
  have HB0 := Sp.hid hb0
  have HIdx := Sp.hid (fun (he : Nf.errNet n = 0) (w2 : World) (hb : Below w.heap.size w w2) => (Nf.errNet_pre (h.below hb) he).2.2)
  have HE := Sp.hid (fun (he : Nf.errNet n = 0) => (Nf.errNet_pre h he).1)
  have hp : Nf.FstPost n w = fun e w' => ∃ lo ll lcap, e = .returned (.tuple #[.slice lo ll lcap, .bool (Nf.fstSpec n).2.1, .int .i64 (Nf.fstSpec n).2.2]) ∧ Sp.Row w' lo ll (Nf.fstSpec n).1 ∧ Below w.heap.size w w' := rfl
  rw [hp]
  generalize Nf.fstSpec n = spec at Hspec
  clear h hb0 hblk hspec hp
  by_cases he : Nf.errNet n = 0
  · have Hs2 := Sp.hid (by have := Hspec.out; rwa [if_neg (by simpa using he)] at this)
    have HI := Sp.hid (HIdx.out he)
    have hst := HE.out he
    have Hgr := Sp.hid (show Nf.netGr n = Nf.grOf n.sig n.st.toNat n.arcs n.ends from rfl)
    rw [he] at HV
    obtain ⟨N, hN⟩ : ∃ N, n.st.toNat = N := ⟨_, rfl⟩
    rw [hN] at HI hst Hgr
    generalize Nf.netGr n = gr at Hs2 Hgr
    clear Hspec HIdx HE he hN
    obtain ⟨so, sn, scap, sig, st, ao, an, acap, arcs, eo, en, ecap, ends⟩ := n
    unfold Nf.Net.val at *
    simp only [Nf.Net.cells] at *
    subst hst
    go_enter Try.func9, Try.ntmps9
    go_wp2_with fail
    refine HV.out.mono ?_
    rintro e w2 ⟨rfl, hb2⟩
    have hblk2 := Nf.blk_below Hblk.out hb2 (by simp)
    have d0 : w2.cell? ⟨w.heap.size, 0, none⟩ = some (.slice so sn scap) := Nf.blk_cell (i := 0) hblk2 rfl
    have d1 : w2.cell? ⟨w.heap.size, 1, none⟩ = some (.int .i64 (N : Int)) := Nf.blk_cell (i := 1) hblk2 rfl
    have d2 : w2.cell? ⟨w.heap.size, 2, none⟩ = some (.slice ao an acap) := Nf.blk_cell (i := 2) hblk2 rfl
    have d3 : w2.cell? ⟨w.heap.size, 3, none⟩ = some (.slice eo en ecap) := Nf.blk_cell (i := 3) hblk2 rfl
    have HB2 := Sp.hid (HB0.out.trans (hb2.mono HB0.out.size))
    have HX := Sp.hid (index_any w2 so sn scap sig N ao an acap arcs eo en ecap ends (HI.out w2 HB2.out))
    clear hb2 hblk2
    go_wp2_with fail
    refine HX.out.mono ?_
    rintro e w3 ⟨gb, v, rfl, hG, hb3⟩
    have HB3 := Sp.hid (HB2.out.trans (hb3.mono HB2.out.size))
    have HF := Sp.hid (first_any w3 gb 1 v _ hG (by omega))
    clear hG hb3
    go_wp2_with fail
    refine HF.out.mono ?_
    rintro e w4 ⟨bo, m, cap, els, more, er, rfl, hrow, hb4, hsp⟩
    have Hrow := Sp.hid hrow
    have HB4 := Sp.hid (HB3.out.trans (hb4.mono HB3.out.size))
    have HS : Hid (spec = Nf.fstOf (Sp.lists els, more, er)) := Sp.hid (by rw [Hs2.out, Hgr.out, hsp])
    have Hm : Hid (els.length = m) := Sp.hid hrow.1
    clear hrow hb4 hsp d0 d1 d2 d3
    by_cases her : er = 0
    · subst her
      by_cases hm : m = 0
      · subst hm
        have hs := HS.out.trans (Nf.fstOf_nil rfl Hm.out)
        subst hs
        go_wp2_with fail
        go_ret3
        first | exact ⟨none, 0, ⟨0, rfl⟩, Nf.row_nil _, HB4.out⟩ | exact ⟨Nf.row_nil _, HB4.out⟩ | exact ⟨none, 0, 0, rfl, Nf.row_nil _, HB4.out⟩
      · obtain ⟨b, off, x, rfl, ca0, hrx, hx?, _⟩ := Hrow.out.at (show 0 < m by omega)
        have hs := HS.out.trans (Nf.fstOf_cons rfl hx?)
        subst hs
        obtain ⟨xo, xn, xc, xl⟩ := x
        simp only at ca0 hrx
        have ca : w4.cell? ⟨b, off, none⟩ = some (.slice xo xn xc) := by simpa using ca0
        have i1 : (0 : Int) < (m : Int) := by omega
        have i2 : ((m : Int) == 0) = false := by simp; omega
        have HRx := Sp.hid hrx
        clear ca0 hrx hx?
        go_wp2_with fail
        go_ret3
        first | exact ⟨xo, xn, ⟨xc, rfl⟩, HRx.out, HB4.out⟩ | exact ⟨HRx.out, HB4.out⟩ | exact ⟨xo, xn, xc, rfl, HRx.out, HB4.out⟩
    · have hs := HS.out.trans (Nf.fstOf_err her)
      subst hs
      have h3 : (er != 0) = true := by simpa using her
      clear her
      go_wp2_with fail
      go_ret3
      first | exact ⟨none, 0, ⟨0, rfl⟩, Nf.row_nil _, HB4.out⟩ | exact ⟨Nf.row_nil _, HB4.out⟩ | exact ⟨none, 0, 0, rfl, Nf.row_nil _, HB4.out⟩
  · have Hs2 := Sp.hid (by have := Hspec.out; rwa [if_pos he] at this)
    generalize Nf.errNet n = r at HV he Hs2
    have h3 : (r != 0) = true := by simpa using he
    clear Hspec HIdx HE he
    obtain ⟨so, sn, scap, sig, st, ao, an, acap, arcs, eo, en, ecap, ends⟩ := n
    unfold Nf.Net.val at *
    simp only [Nf.Net.cells] at *
    have hs := Hs2.out
    subst hs
    go_enter Try.func9, Try.ntmps9
    go_wp2_with fail
    refine HV.out.mono ?_
    rintro e w2 ⟨rfl, hb2⟩
    have HB2 := Sp.hid (HB0.out.trans (hb2.mono HB0.out.size))
    clear hb2
    go_wp2_with fail
    go_ret3
    first | exact ⟨none, 0, ⟨0, rfl⟩, Nf.row_nil _, HB2.out⟩ | exact ⟨Nf.row_nil _, HB2.out⟩ | exact ⟨none, 0, 0, rfl, Nf.row_nil _, HB2.out⟩
end Go.Proofs.Ytnaojfhhjknejaa
