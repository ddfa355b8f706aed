/-
  The walk of AutoReverses.
-/
import Derived.Test.YtnkpgcmjnbgodaaMgReIlReRvMReLm
import Derived.Test.YtnkpgcmjnbgodaaMgReRp
import Derived.Test.YtnkpgcmjnbgodaaMgReRr
import Derived.Test.YtnkpgcmjnbgodaaMgReSame
import Derived.Test.YtnkpgcmjnbgodaaMgAuZAuZaAuKnAuLa
import Derived.Test.YtnkpgcmjnbgodaaMgAuSn
import Derived.Test.YtnkpgcmjnbgodaaMgAuLv
import Derived.Deep.RegionHeld3
import Derived.IntWalk
set_option linter.unusedVariables false
set_option linter.unusedSimpArgs false
namespace Go.Proofs.Ytnkpgcmjnbgodaa
open Go.RowKit

set_option maxHeartbeats 4000000 in
set_option maxRecDepth 100000 in
theorem autoReverses_any (w : World) (n : Nf.Net) (wo : Option Addr) (wn wcap : Nat) (W : List ByteArray) (h : Nf.NetAt w n) (hW : Sp.Row w wo wn W) (b1 : n.sn * 16 ≤ 140737488351232) (bW : wn * 16 ≤ 140737488351232) :
    Calls Try.prog 5 #[n.val, .slice wo wn wcap] w fun e w' => e = .returned (.bool true) ∧ Below w.heap.size w w' := by
  have hb0 : Below w.heap.size w (w.alloc (.cells n.cells 26)) := (Below.refl _ w).alloc (Nat.le_refl _) _
  have hblk : (w.alloc (.cells n.cells 26)).heap[w.heap.size]? = some (.cells n.cells 26 (0, 0)) := Nf.Below.heap_new w _
  have HO := Sp.hid (isOver_any _ n (h.below hb0))
  have HRev : Hid (∀ w2 : World, Below w.heap.size w w2 → Calls Try.prog 19 #[n.val] w2 (fun e w' => ∃ m : Nf.Net, e = .returned (.tuple #[.agg m.cells, .int .i64 (Nf.revErr n)]) ∧ Hid (Nf.NetAt w' m ∧ Below w2.heap.size w2 w' ∧ (Nf.revErr n = 0 → m.st = n.st + 1 ∧ m.an = n.an + n.en ∧ m.sig = n.sig ∧ Nf.errNet m = 0 ∧ Nf.accSpec m W.reverse = Nf.accSpec n W) ∧ (Nf.revErr n ≠ 0 → m.sig = [] ∧ m.st = 0 ∧ m.arcs = [] ∧ m.ends = [])))) := Sp.hid (fun w2 hb => by
    refine (reverse_any w2 n (h.below hb) b1).mono ?_
    rintro e w' ⟨m, he, h1, h2, h3, h4⟩
    refine ⟨m, he, Sp.hid ⟨h1, h2, fun hr => ?_, h4⟩⟩
    have ht := h3 hr
    obtain ⟨k1, k2⟩ := Nf.accSpec_turn ht hr W
    have k3 := h1.arcs.1
    rw [ht.arcs] at k3
    have k4 := h.arcs.1
    have k5 := h.ends.1
    simp only [Nf.turnArcs, List.length_append, List.length_map] at k3
    exact ⟨ht.st, by omega, ht.sig, k1, k2⟩)
  have HRef : Hid (∀ w2 : World, Below w.heap.size w w2 → Calls Try.prog 20 #[n.val] w2 (fun e w' => ∃ c : Nf.Net, e = .returned (.tuple #[.agg c.cells, .int .i64 (Nf.revErr n)]) ∧ Hid (Below w2.heap.size w2 w'))) := Sp.hid (fun w2 hb => by
    refine (refReverse_any w2 n (h.below hb) b1).mono ?_
    rintro e w' ⟨c, he, h1⟩
    exact ⟨c, he, Sp.hid h1⟩)
  have HAcc : Hid (∀ w2 : World, Below w.heap.size w w2 → Calls Try.prog 16 #[n.val, .slice wo wn wcap] w2 (fun e w' => e = .returned (.tuple #[.bool (Nf.accSpec n W).1, .int .i64 (Nf.accSpec n W).2]) ∧ Hid (Below w2.heap.size w2 w'))) := Sp.hid (fun w2 hb => by
    refine (refAccepts_any w2 n wo wn wcap W (h.below hb) (hW.below hb)).mono ?_
    rintro e w' ⟨he, h1⟩
    exact ⟨he, Sp.hid h1⟩)
  have HAccM : Hid (∀ (w2 : World) (m : Nf.Net) (tgo : Option Addr) (tcap : Nat), Hid (Nf.NetAt w2 m) → Hid (Sp.Row w2 tgo wn W.reverse) → Nf.accSpec m W.reverse = Nf.accSpec n W → Calls Try.prog 16 #[m.val, .slice tgo wn tcap] w2 (fun e w' => e = .returned (.tuple #[.bool (Nf.accSpec n W).1, .int .i64 (Nf.accSpec n W).2]) ∧ Hid (Below w2.heap.size w2 w'))) := Sp.hid (fun w2 m tgo tcap hm ht he => by
    refine (refAccepts_any w2 m tgo wn tcap W.reverse hm.out ht.out).mono ?_
    rintro e w' ⟨hx, h1⟩
    exact ⟨by rw [hx, he], Sp.hid h1⟩)
  have HTu := Sp.hid (fun (w2 : World) (hb : Below w.heap.size w w2) => (turned_any w2 wo wn wcap W (hW.below hb) bW))
  have HN := Sp.hid h
  have HW := Sp.hid hW
  have Hb0 := Sp.hid hb0
  have Hblk := Sp.hid hblk
  have Hst : Hid (Nf.revErr n = 0 → 1 ≤ n.st ∧ n.st ≤ 3000) := Sp.hid (fun (hr : Nf.revErr n = 0) => ⟨(Nf.ok_parts (Nf.err_parts (Nf.revErr_zero hr).1).2.2.2.2.1).1, (Nf.err_parts (Nf.revErr_zero hr).1).1⟩)
  have hla := h.arcs.2.1
  have hle := h.ends.2.1
  clear h hW hb0 hblk
  generalize Nf.revErr n = r at HRev HRef Hst
  generalize Nf.accSpec n W = x at HRev HAcc HAccM
  obtain ⟨x1, x2⟩ := x
  simp only at HAcc HAccM
  obtain ⟨so, sn, scap, sig, st, ao, an, acap, arcs, eo, en, ecap, ends⟩ := n
  unfold Nf.Net.val at *
  simp only [Nf.Net.cells] at *
  go_enter Try.func5, Try.ntmps5
  go_wp2_with fail
  refine HO.out.mono ?_
  rintro e w2 ⟨over, rfl, hb2⟩
  have hblk2 := Nf.blk_below Hblk.out hb2 (by simp)
  have d0 : w2.cell? ⟨w.heap.size, 0, none⟩ = some (.slice so sn scap) := Nf.blk_cell (i := 0) hblk2 rfl
  have d1 : w2.cell? ⟨w.heap.size, 1, none⟩ = some (.int .i64 st) := Nf.blk_cell (i := 1) hblk2 rfl
  have d2 : w2.cell? ⟨w.heap.size, 2, none⟩ = some (.slice ao an acap) := Nf.blk_cell (i := 2) hblk2 rfl
  have d3 : w2.cell? ⟨w.heap.size, 3, none⟩ = some (.slice eo en ecap) := Nf.blk_cell (i := 3) hblk2 rfl
  have Hb2 := Sp.hid (Hb0.out.trans (hb2.mono Hb0.out.size))
  have Hblk2 := Sp.hid hblk2
  clear hb2 hblk2
  cases over with
  | true =>
    go_wp2_with fail
    refine (known_any w2).mono ?_
    rintro e w3 ⟨rfl, hb3⟩
    have Hb3 := Sp.hid (Hb2.out.trans (hb3.mono Hb2.out.size))
    clear hb3
    go_wp2_with fail
    go_ret
    exact ⟨rfl, Hb3.out⟩
  | false =>
    go_wp2_with fail
    have hb3 : Below w.heap.size w (w2.alloc (.cells #[.slice wo wn wcap] 22)) := Hb2.out.alloc (by have := Hb2.out.size; omega) _
    have hc3 : (w2.alloc (.cells #[.slice wo wn wcap] 22)).cell? ⟨w2.heap.size, 0, none⟩ = some (.slice wo wn wcap) := Nf.blk_cell (i := 0) (Nf.Below.heap_new w2 _) rfl
    have hblk3 := Nf.blk_alloc Hblk2.out (.cells #[.slice wo wn wcap] 22)
    have HL := Sp.hid (isLong_any _ w2.heap.size wo wn wcap W hc3 (HW.out.below hb3))
    have HB3 := Sp.hid hb3
    have Hblk3 := Sp.hid hblk3
    clear hb3 hc3 hblk3 d0 d1 d2 d3
    obtain ⟨w3, hw3⟩ : ∃ w3, w2.alloc (.cells #[.slice wo wn wcap] 22) = w3 := ⟨_, rfl⟩
    rw [hw3] at HL HB3 Hblk3 ⊢
    clear hw3
    refine HL.out.mono ?_
    rintro e w' ⟨lg, rfl, rfl⟩
    have d0 : w3.cell? ⟨w.heap.size, 0, none⟩ = some (.slice so sn scap) := Nf.blk_cell (i := 0) Hblk3.out rfl
    have d1 : w3.cell? ⟨w.heap.size, 1, none⟩ = some (.int .i64 st) := Nf.blk_cell (i := 1) Hblk3.out rfl
    have d2 : w3.cell? ⟨w.heap.size, 2, none⟩ = some (.slice ao an acap) := Nf.blk_cell (i := 2) Hblk3.out rfl
    have d3 : w3.cell? ⟨w.heap.size, 3, none⟩ = some (.slice eo en ecap) := Nf.blk_cell (i := 3) Hblk3.out rfl
    cases lg with
    | true =>
      go_wp2_with fail
      refine (known_any w3).mono ?_
      rintro e w4 ⟨rfl, hb4⟩
      have Hb4 := Sp.hid (HB3.out.trans (hb4.mono HB3.out.size))
      clear hb4
      go_wp2_with fail
      go_ret
      exact ⟨rfl, Hb4.out⟩
    | false =>
      go_wp2_with fail
      refine (HRev.out w3 HB3.out).mono ?_
      rintro e w4 ⟨m, rfl, HM⟩
      have hblk4 := Nf.blk_below Hblk3.out HM.out.2.1 (Nf.blk_lt Hblk3.out)
      have hb4 := HB3.out.trans (HM.out.2.1.mono HB3.out.size)
      obtain ⟨mso, msn, mscap, msig, mst, mao, man, macap, marcs, meo, men, mecap, mends⟩ := m
      have hblk5 := Nf.blk_alloc hblk4 (.cells #[.slice mso msn mscap, .int .i64 mst, .slice mao man macap, .slice meo men mecap] 26)
      have hm5 := Nf.Below.heap_new w4 (.cells #[.slice mso msn mscap, .int .i64 mst, .slice mao man macap, .slice meo men mecap] 26)
      have hb5 : Below w.heap.size w (w4.alloc (.cells #[.slice mso msn mscap, .int .i64 mst, .slice mao man macap, .slice meo men mecap] 26)) := hb4.alloc (by have := hb4.size; omega) _
      have hb45 : Below w4.heap.size w4 (w4.alloc (.cells #[.slice mso msn mscap, .int .i64 mst, .slice mao man macap, .slice meo men mecap] 26)) := (Below.refl _ w4).alloc (Nat.le_refl _) _
      have Hblk5 := Sp.hid hblk5
      have Hm5 := Sp.hid hm5
      have Hb5 := Sp.hid hb5
      have Hb45 := Sp.hid hb45
      have HX := Sp.hid (HRef.out _ hb5)
      clear d0 d1 d2 d3 hblk4 hb4
      have d0 := Nf.blk_cell (i := 0) (v := .slice so sn scap) hblk5 rfl
      have d1 := Nf.blk_cell (i := 1) (v := .int .i64 st) hblk5 rfl
      have d2 := Nf.blk_cell (i := 2) (v := .slice ao an acap) hblk5 rfl
      have d3 := Nf.blk_cell (i := 3) (v := .slice eo en ecap) hblk5 rfl
      clear hblk5 hm5 hb5 hb45
      go_wp2_with fail
      clear d0 d1 d2 d3
      obtain ⟨w5, hw5⟩ : ∃ w5, w4.alloc (.cells #[.slice mso msn mscap, .int .i64 mst, .slice mao man macap, .slice meo men mecap] 26) = w5 := ⟨_, rfl⟩
      obtain ⟨B, hB⟩ : ∃ B, w4.heap.size = B := ⟨_, rfl⟩
      rw [hw5, hB] at Hm5
      rw [hw5] at Hblk5 Hb5 Hb45 HX
      rw [hw5, hB]
      refine HX.out.mono ?_
      rintro e w6 ⟨c, rfl, Hb6⟩
      have hblk6 := Nf.blk_below Hblk5.out Hb6.out (Nf.blk_lt Hblk5.out)
      have hm6 := Nf.blk_below Hm5.out Hb6.out (Nf.blk_lt Hm5.out)
      have hblk7 := Nf.blk_alloc hblk6 (.cells #[.slice c.so c.sn c.scap, .int .i64 c.st, .slice c.ao c.an c.acap, .slice c.eo c.en c.ecap] 26)
      have hm7 := Nf.blk_alloc hm6 (.cells #[.slice c.so c.sn c.scap, .int .i64 c.st, .slice c.ao c.an c.acap, .slice c.eo c.en c.ecap] 26)
      have hb6 := Hb5.out.trans (Hb6.out.mono Hb5.out.size)
      have hb7 : Below w.heap.size w (w6.alloc (.cells #[.slice c.so c.sn c.scap, .int .i64 c.st, .slice c.ao c.an c.acap, .slice c.eo c.en c.ecap] 26)) := hb6.alloc (by have := hb6.size; omega) _
      have hm47 : Nf.NetAt (w6.alloc (.cells #[.slice c.so c.sn c.scap, .int .i64 c.st, .slice c.ao c.an c.acap, .slice c.eo c.en c.ecap] 26)) ⟨mso, msn, mscap, msig, mst, mao, man, macap, marcs, meo, men, mecap, mends⟩ := by
        have z1 := (HM.out.1.below Hb45.out).below Hb6.out
        exact z1.below ((Below.refl _ w6).alloc (Nat.le_refl _) _)
      have d0 := Nf.blk_cell (i := 0) (v := .slice so sn scap) hblk7 rfl
      have d1 := Nf.blk_cell (i := 1) (v := .int .i64 st) hblk7 rfl
      have d2 := Nf.blk_cell (i := 2) (v := .slice ao an acap) hblk7 rfl
      have d3 := Nf.blk_cell (i := 3) (v := .slice eo en ecap) hblk7 rfl
      have m0 := Nf.blk_cell (i := 0) (v := .slice mso msn mscap) hm7 rfl
      have m1 := Nf.blk_cell (i := 1) (v := .int .i64 mst) hm7 rfl
      have m2 := Nf.blk_cell (i := 2) (v := .slice mao man macap) hm7 rfl
      have m3 := Nf.blk_cell (i := 3) (v := .slice meo men mecap) hm7 rfl
      have Hb7 := Sp.hid hb7
      have Hm47 := Sp.hid hm47
      have Hblk7 := Sp.hid hblk7
      have Hm7 := Sp.hid hm7
      have HM2 := Sp.hid HM.out.2.2
      clear hblk6 hm6 hblk7 hm7 hb6 hb7 hm47 Hb6 Hblk5 Hm5 Hb5 Hb45 HX HM
      have hrr : (r != r) = false := by simp
      by_cases h0 : r = 0
      · subst h0
        go_wp2_with fail
        obtain ⟨w7, hw7⟩ : ∃ w7, w6.alloc (.cells #[.slice c.so c.sn c.scap, .int .i64 c.st, .slice c.ao c.an c.acap, .slice c.eo c.en c.ecap] 26) = w7 := ⟨_, rfl⟩
        rw [hw7] at Hb7 Hm47 Hblk7 Hm7
        rw [hw7]
        obtain ⟨q1, q2, q3, q4, q5⟩ := HM2.out.1 (by simp)
        have Hq1 := Sp.hid (show mst = st + 1 from q1)
        have Hq2 := Sp.hid (show man = an + en from q2)
        have Hq3 := Sp.hid (show msig = sig from q3)
        have Hq5 := Sp.hid q5
        refine (refValidN_any w7 ⟨mso, msn, mscap, msig, mst, mao, man, macap, marcs, meo, men, mecap, mends⟩ Hm47.out).mono ?_
        rintro e w8 ⟨rfl, hb8⟩
        rw [q4]
        clear d0 d1 d2 d3 m0 m1 m2 m3 HM2 q1 q2 q3 q4 q5 hw7
        have hblk8 := Nf.blk_below Hblk7.out hb8 (Nf.blk_lt Hblk7.out)
        have hm8 := Nf.blk_below Hm7.out hb8 (Nf.blk_lt Hm7.out)
        have Hblk8 := Sp.hid hblk8
        have Hm8 := Sp.hid hm8
        have Hm48 := Sp.hid (Hm47.out.below hb8)
        have Hb8 := Sp.hid (Hb7.out.trans (hb8.mono Hb7.out.size))
        have d0 := Nf.blk_cell (i := 0) (v := .slice so sn scap) hblk8 rfl
        have m0 := Nf.blk_cell (i := 0) (v := .slice mso msn mscap) hm8 rfl
        clear hblk8 hm8 hb8
        have HSm : Hid (Calls Try.prog 21 #[.slice mso msn mscap, .slice so sn scap] w8 (fun e w' => e = .returned (.bool true) ∧ Below w8.heap.size w8 w')) := Sp.hid (by
          have z1 : Sp.Row w8 mso msn msig := Hm48.out.sig
          rw [Hq3.out] at z1
          refine (refSame_any mso so msn sn mscap scap sig sig w8 z1 (HN.out.below Hb8.out).sig).mono ?_
          rintro e w' ⟨rfl, q, rfl⟩
          exact ⟨by rw [Sp.ord_self]; rfl, Sp.below_of_drew ⟨q, rfl⟩⟩)
        go_wp2_with fail
        refine HSm.out.mono ?_
        rintro e w9 ⟨rfl, hb9⟩
        clear d0 m0
        have hblk9 := Nf.blk_below Hblk8.out hb9 (Nf.blk_lt Hblk8.out)
        have hm9 := Nf.blk_below Hm8.out hb9 (Nf.blk_lt Hm8.out)
        have Hblk9 := Sp.hid hblk9
        have Hm9 := Sp.hid hm9
        have Hm49 := Sp.hid (Hm48.out.below hb9)
        have Hb9 := Sp.hid (Hb8.out.trans (hb9.mono Hb8.out.size))
        have d0 := Nf.blk_cell (i := 0) (v := .slice so sn scap) hblk9 rfl
        have d1 := Nf.blk_cell (i := 1) (v := .int .i64 st) hblk9 rfl
        have d2 := Nf.blk_cell (i := 2) (v := .slice ao an acap) hblk9 rfl
        have d3 := Nf.blk_cell (i := 3) (v := .slice eo en ecap) hblk9 rfl
        have m0 := Nf.blk_cell (i := 0) (v := .slice mso msn mscap) hm9 rfl
        have m1 := Nf.blk_cell (i := 1) (v := .int .i64 mst) hm9 rfl
        have m2 := Nf.blk_cell (i := 2) (v := .slice mao man macap) hm9 rfl
        have m3 := Nf.blk_cell (i := 3) (v := .slice meo men mecap) hm9 rfl
        clear hblk9 hm9 hb9
        have hst1 := (Hst.out (by simp)).1
        have hst2 := (Hst.out (by simp)).2
        have hgt1 : ¬ (mst > st + 1) := by have := Hq1.out; omega
        have hgt2 : ¬ ((man : Int) > (an : Int) + (en : Int)) := by have := Hq2.out; omega
        have hgt3 : decide (mst > st + 1) = false := by simp [hgt1]
        have hgt4 : decide ((man : Int) > (an : Int) + (en : Int)) = false := by simp [hgt2]
        go_wp2_with fail
        refine (HAcc.out w9 Hb9.out).mono ?_
        rintro e w10 ⟨rfl, Hb10⟩
        clear d0 d1 d2 d3 m0 m1 m2 m3
        obtain ⟨M, hM⟩ : ∃ M : Nf.Net, M = ⟨mso, msn, mscap, msig, mst, mao, man, macap, marcs, meo, men, mecap, mends⟩ := ⟨_, rfl⟩
        have hm10 := Nf.blk_below Hm9.out Hb10.out (Nf.blk_lt Hm9.out)
        have hb11 : Below w.heap.size w w10.drew := (Hb9.out.trans (Hb10.out.mono Hb9.out.size)).drew
        have hat : Nf.NetAt w10.drew M := by rw [hM]; exact (Hm49.out.below Hb10.out).below (Below.refl _ w10).drew
        have hk : Nf.NetB B M w10.drew := by
          rw [hM]
          exact ⟨Nf.blk_cell (i := 0) (Nf.blk_drew hm10) rfl, Nf.blk_cell (i := 1) (Nf.blk_drew hm10) rfl, Nf.blk_cell (i := 2) (Nf.blk_drew hm10) rfl, Nf.blk_cell (i := 3) (Nf.blk_drew hm10) rfl⟩
        have m0 : w10.cell? ⟨B, 0, none⟩ = some (.slice mso msn mscap) := Nf.blk_cell (i := 0) hm10 rfl
        have m1 : w10.cell? ⟨B, 1, none⟩ = some (.int .i64 mst) := Nf.blk_cell (i := 1) hm10 rfl
        have m2 : w10.cell? ⟨B, 2, none⟩ = some (.slice mao man macap) := Nf.blk_cell (i := 2) hm10 rfl
        have m3 : w10.cell? ⟨B, 3, none⟩ = some (.slice meo men mecap) := Nf.blk_cell (i := 3) hm10 rfl
        have keep : ∀ w2 w3 : World, Nf.NetB B M w2 → Below w2.heap.size w2 w3 → Nf.NetB B M w3 := fun w2 w3 ⟨c0, c1, c2, c3⟩ hb => by
          have l := World.block_lt_of_cell? w2 _ c0
          exact ⟨by rw [hb.cell (p := ⟨B, 0, none⟩) l]; exact c0, by rw [hb.cell (p := ⟨B, 1, none⟩) l]; exact c1, by rw [hb.cell (p := ⟨B, 2, none⟩) l]; exact c2, by rw [hb.cell (p := ⟨B, 3, none⟩) l]; exact c3⟩
        have HTc : RowKit.Hid (∀ w2 : World, RowKit.Hid (Below w.heap.size w w2) → RowKit.Hid (Nf.NetAt w2 M) → RowKit.Hid (Nf.NetB B M w2) → Calls Try.prog 22 #[.slice wo wn wcap] w2 (fun e w3 => ∃ tgo tcap, e = .returned (.slice tgo wn tcap) ∧ RowKit.Hid (Sp.Row w3 tgo wn W.reverse) ∧ RowKit.Hid (Below w.heap.size w w3) ∧ RowKit.Hid (Nf.NetAt w3 M) ∧ RowKit.Hid (Nf.NetB B M w3))) := Sp.hid (fun w2 hb ha hk => by
          refine (HTu.out w2 hb.out).mono ?_
          rintro e w3 ⟨tgo, tcap, rfl, hr, hb3⟩
          exact ⟨tgo, tcap, rfl, Sp.hid hr, Sp.hid (hb.out.trans (hb3.mono hb.out.size)), Sp.hid (ha.out.below hb3), Sp.hid (keep _ _ hk.out hb3)⟩)
        have hq : Nf.accSpec M W.reverse = (x1, x2) := by rw [hM]; exact Hq5.out
        have HAc : RowKit.Hid (∀ (w2 : World) (tgo : Option Addr) (tcap : Nat), RowKit.Hid (Sp.Row w2 tgo wn W.reverse) → RowKit.Hid (Below w.heap.size w w2) → RowKit.Hid (Nf.NetAt w2 M) → RowKit.Hid (Nf.NetB B M w2) → Calls Try.prog 16 #[M.val, .slice tgo wn tcap] w2 (fun e w3 => e = .returned (.tuple #[.bool x1, .int .i64 x2]) ∧ RowKit.Hid (Below w.heap.size w w3) ∧ RowKit.Hid (Nf.NetB B M w3))) := Sp.hid (fun w2 tgo tcap hr hb ha hk => by
          refine (HAccM.out w2 M tgo tcap ha hr hq).mono ?_
          rintro e w3 ⟨rfl, hb3⟩
          exact ⟨rfl, Sp.hid (hb.out.trans (hb3.out.mono hb.out.size)), Sp.hid (keep _ _ hk.out hb3.out)⟩)
        have HBd := Sp.hid hb11
        have Hat := Sp.hid hat
        have Hkd := Sp.hid hk
        have Hd : RowKit.Hid (∀ w2, Nf.NetB B M w2 → w2.cell? ⟨B, 0, none⟩ = some (.slice mso msn mscap) ∧ w2.cell? ⟨B, 1, none⟩ = some (.int .i64 mst) ∧ w2.cell? ⟨B, 2, none⟩ = some (.slice mao man macap) ∧ w2.cell? ⟨B, 3, none⟩ = some (.slice meo men mecap)) := Sp.hid (fun w2 hk => by rw [hM] at hk; exact hk)
        have hMv : M.val = .agg #[.slice mso msn mscap, .int .i64 mst, .slice mao man macap, .slice meo men mecap] := by rw [hM]; rfl
        rw [hMv] at HAc
        clear keep hat hk hb11 hm10 hM hq hMv hgt1 hgt2 hgt3 hgt4 hst1 hst2
        go_wp2_with fail
        go_region_held3 (fun w' => w'.cell? ⟨B, 0, none⟩ = some (.slice mso msn mscap) ∧ w'.cell? ⟨B, 1, none⟩ = some (.int .i64 mst) ∧ w'.cell? ⟨B, 2, none⟩ = some (.slice mao man macap) ∧ w'.cell? ⟨B, 3, none⟩ = some (.slice meo men mecap)) (go_keep) ((first
          | (go_at_call 22; refine (HTc.out w10.drew HBd Hat Hkd).mono ?_; rintro e w11 ⟨tgo, tcap, rfl, Hr11, Hb11, Hat11, Hk11⟩; obtain ⟨u0, u1, u2, u3⟩ := Hd.out w11 Hk11.out)
          | (go_at_call 16; refine (HAc.out w11 tgo tcap Hr11 Hb11 Hat11 Hk11).mono ?_; rintro e w12 ⟨rfl, Hb12, Hk12⟩; obtain ⟨v0, v1, v2, v3⟩ := Hd.out w12 Hk12.out)))
        all_goals
          have Hx1 : (x1 == x1) = true := by simp
          have Hx2 : (x2 == x2) = true := by simp
          go_wp2_with fail
          refine (known_any w12).mono ?_
          rintro e w13 ⟨rfl, hb13⟩
          have Hb13 := Sp.hid (Hb12.out.trans (hb13.mono Hb12.out.size))
          clear hb13
          go_wp2_with fail
          go_ret
          exact ⟨rfl, Hb13.out⟩
      · have h0' : (r != 0) = true := by simpa using h0
        go_wp2_with fail
        obtain ⟨k1, k2, k3, k4⟩ := HM2.out.2 h0
        refine (sameNet_any _ ⟨mso, msn, mscap, msig, mst, mao, man, macap, marcs, meo, men, mecap, mends⟩ Nf.zeroNet Hm47.out (Nf.zeroNet_at _) k1 k2 k3 k4).mono ?_
        rintro e w8 ⟨rfl, hb8⟩
        have Hb8 := Sp.hid (Hb7.out.trans (hb8.mono Hb7.out.size))
        clear hb8 k1 k2 k3 k4 d0 d1 d2 d3 m0 m1 m2 m3
        go_wp2_with fail
        refine (known_any w8).mono ?_
        rintro e w9 ⟨rfl, hb9⟩
        have Hb9 := Sp.hid (Hb8.out.trans (hb9.mono Hb8.out.size))
        clear hb9
        go_wp2_with fail
        go_ret
        exact ⟨rfl, Hb9.out⟩
end Go.Proofs.Ytnkpgcmjnbgodaa
