/-
  The walk of Count: how many words of a length a net has.
-/
import Derived.Test.YtnaojfhhjknejaaMgSb
import Derived.Test.YtnaojfhhjknejaaMgAuZAuZaAuKnAuLa
set_option linter.unusedVariables false
set_option linter.unusedSimpArgs false
namespace Go.Proofs.Ytnaojfhhjknejaa
open Go.RowKit
namespace Nf
def CntPost (n : Net) (len : Int) (w : World) (e : Ending) (w' : World) : Prop :=
  ∃ (c : Nat) (er : Int), e = .returned (.tuple #[.int .i64 (c : Int), .int .i64 er]) ∧ Below w.heap.size w w' ∧ (er = 0 → c = cutC (W (netGr n) len.toNat).length)
end Nf

set_option maxHeartbeats 2000000 in
set_option maxRecDepth 100000 in
theorem autoCount_any (w : World) (n : Nf.Net) (len : Int) (h : Nf.NetAt w n) (hl1 : -9223372036854775808 ≤ len) (hl2 : len ≤ 9223372036854775807) :
    Calls Try.prog 12 #[n.val, .int .i64 len] w (Nf.CntPost n len w) := by
  have hb0 : Below w.heap.size w (w.alloc (.cells n.cells 26)) := (Below.refl _ w).alloc (Nat.le_refl _) _
  have hblk : (w.alloc (.cells n.cells 26)).heap[w.heap.size]? = some (.cells n.cells 26 (0, 0)) := Nf.Below.heap_new w _
  have HV := Sp.hid (netValidate_any _ n (h.below hb0))
  have Hblk := Sp.hid hblk
  have HB0 := Sp.hid hb0
  have HIdx := Sp.hid (fun (he : Nf.errNet n = 0) (w2 : World) (hb : Below w.heap.size w w2) => (Nf.errNet_pre (h.below hb) he).2.2)
  have HE := Sp.hid (fun (he : Nf.errNet n = 0) => (Nf.errNet_pre h he).1)
  have hp : Nf.CntPost n len w = fun e w' => ∃ (c : Nat) (er : Int), e = .returned (.tuple #[.int .i64 (c : Int), .int .i64 er]) ∧ Below w.heap.size w w' ∧ (er = 0 → c = Nf.cutC (Nf.W (Nf.netGr n) len.toNat).length) := rfl
  rw [hp]
  clear h hb0 hblk hp
  by_cases he : Nf.errNet n = 0
  · have HI := Sp.hid (HIdx.out he)
    have hst := HE.out he
    have Hgr := Sp.hid (show Nf.netGr n = Nf.grOf n.sig n.st.toNat n.arcs n.ends from rfl)
    rw [he] at HV
    obtain ⟨N, hN⟩ : ∃ N, n.st.toNat = N := ⟨_, rfl⟩
    rw [hN] at HI hst Hgr
    generalize Nf.netGr n = gr at Hgr
    clear HIdx HE he hN
    obtain ⟨so, sn, scap, sig, st, ao, an, acap, arcs, eo, en, ecap, ends⟩ := n
    unfold Nf.Net.val at *
    simp only [Nf.Net.cells] at *
    subst hst
    by_cases m1 : len < 0
    · go_enter Try.func12, Try.ntmps12
      go_wp2_with fail
      refine HV.out.mono ?_
      rintro e w2 ⟨rfl, hb2⟩
      have HB2 := Sp.hid (HB0.out.trans (hb2.mono HB0.out.size))
      clear hb2
      go_wp2_with fail
      go_ret2
      exact ⟨0, 1, rfl, HB2.out, fun h0 => by simp at h0⟩
    · by_cases m2 : 60 < len
      · have m2' : len > 60 := m2
        go_enter Try.func12, Try.ntmps12
        go_wp2_with fail
        refine HV.out.mono ?_
        rintro e w2 ⟨rfl, hb2⟩
        have HB2 := Sp.hid (HB0.out.trans (hb2.mono HB0.out.size))
        clear hb2
        go_wp2_with fail
        go_ret2
        exact ⟨0, 1, rfl, HB2.out, fun h0 => by simp at h0⟩
      · obtain ⟨M, hM⟩ : ∃ M : Nat, len = (M : Int) := ⟨len.toNat, by omega⟩
        subst hM
        rw [Int.toNat_natCast]
        have hM60 : M ≤ 60 := by omega
        have m2' : ¬ (M : Int) > 60 := m2
        go_enter Try.func12, Try.ntmps12
        go_wp2_with fail
        refine HV.out.mono ?_
        rintro e w2 ⟨rfl, hb2⟩
        have hblk2 := Nf.blk_below Hblk.out hb2 (by simp)
        have d0 : w2.cell? ⟨w.heap.size, 0, none⟩ = some (.slice so sn scap) := Nf.blk_cell (i := 0) hblk2 rfl
        have d1 : w2.cell? ⟨w.heap.size, 1, none⟩ = some (.int .i64 (N : Int)) := Nf.blk_cell (i := 1) hblk2 rfl
        have d2 : w2.cell? ⟨w.heap.size, 2, none⟩ = some (.slice ao an acap) := Nf.blk_cell (i := 2) hblk2 rfl
        have d3 : w2.cell? ⟨w.heap.size, 3, none⟩ = some (.slice eo en ecap) := Nf.blk_cell (i := 3) hblk2 rfl
        have HB2 := Sp.hid (HB0.out.trans (hb2.mono HB0.out.size))
        have HX := Sp.hid (index_any w2 so sn scap sig N ao an acap arcs eo en ecap ends (HI.out w2 HB2.out))
        clear hb2 hblk2
        by_cases m3 : (300 : Int) < (N : Int)
        · have m3' : (N : Int) > 300 := m3
          go_wp2_with fail
          go_ret2
          exact ⟨0, 3, rfl, HB2.out, fun h0 => by simp at h0⟩
        · have m3' : ¬ (N : Int) > 300 := m3
          go_wp2_with fail
          refine HX.out.mono ?_
          rintro e w3 ⟨gb, v, rfl, hG, hb3⟩
          have HB3 := Sp.hid (HB2.out.trans (hb3.mono HB2.out.size))
          have HS := Sp.hid (subsets_any w3 gb v _ hG)
          clear hG hb3 d0 d1 d2 d3
          go_wp2_with fail
          refine HS.out.mono ?_
          rintro e w4 ⟨hor, hb4⟩
          have HB4 := Sp.hid (HB3.out.trans (hb4.mono HB3.out.size))
          have Hor := Sp.hid hor
          clear hb4 hor
          rcases Hor.out with rfl | ⟨B, k, cap, nx, en2, Ss, rfl, hk, hat, hsb⟩
          · clear Hor
            go_wp2_with fail
            go_ret2
            exact ⟨0, 3, rfl, HB4.out, fun h0 => by simp at h0⟩
          · have HC := Sp.hid (count_any w4 B k cap M en2 nx hat hsb.pos hk hsb.lt hM60)
            have hval : Nf.endC (Nf.wdC k nx M) en2 k = Nf.cutC (Nf.W gr M).length := by
              rw [Hgr.out]
              exact Nf.subs_count (fun s hs => ((HI.out w2 HB2.out).hfull s hs) |> fun h e => by rw [e] at h; exact absurd h (by decide)) hsb M
            rw [hval] at HC
            clear hk hat hsb hval Hor
            go_wp2_with fail
            refine HC.out.mono ?_
            rintro e w5 ⟨rfl, hb5⟩
            have HB5 := Sp.hid (HB4.out.trans (hb5.mono HB4.out.size))
            clear hb5
            go_wp2_with fail
            go_ret2
            exact ⟨_, 0, rfl, HB5.out, fun _ => rfl⟩
  · have hr : ∃ r, Nf.errNet n = r := ⟨_, rfl⟩
    obtain ⟨r, hr⟩ := hr
    rw [hr] at HV he
    have h3 : (r != 0) = true := by simpa using he
    have Hne := Sp.hid he
    clear HIdx HE hr he
    obtain ⟨so, sn, scap, sig, st, ao, an, acap, arcs, eo, en, ecap, ends⟩ := n
    unfold Nf.Net.val at *
    simp only [Nf.Net.cells] at *
    go_enter Try.func12, Try.ntmps12
    go_wp2_with fail
    refine HV.out.mono ?_
    rintro e w2 ⟨rfl, hb2⟩
    have HB2 := Sp.hid (HB0.out.trans (hb2.mono HB0.out.size))
    clear hb2
    go_wp2_with fail
    go_ret2
    exact ⟨0, r, rfl, HB2.out, fun h0 => absurd h0 Hne.out⟩
end Go.Proofs.Ytnaojfhhjknejaa
