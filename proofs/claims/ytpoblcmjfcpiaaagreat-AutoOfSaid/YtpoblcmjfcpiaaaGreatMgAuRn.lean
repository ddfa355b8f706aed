/-
  The walk of the reference's ValidateNet.
-/
import Derived.Test.YtpoblcmjfcpiaaaGreatMgShelfSAuIn
import Derived.Test.YtpoblcmjfcpiaaaGreatMgWalkB
set_option linter.unusedVariables false
set_option linter.unusedSimpArgs false
namespace Go.Proofs.YtpoblcmjfcpiaaaGreat
open Go.RowKit
namespace Nf
noncomputable def errBase (n : Net) : Int :=
  if 3000 < n.st ∨ 60000 < n.arcs.length ∨ 60000 < n.ends.length then 3 else if Sp.errAlpha n.sig ≠ 0 then Sp.errAlpha n.sig else if netOk n = false then 1 else 0
theorem netOk_arc {n : Net} {k : Nat} {x : ArcV} (hx : n.arcs[k]? = some x) (hp : arcOk n x = false) : netOk n = false := by
  unfold netOk; rw [Sp.all_false_of hx hp]; simp
theorem netOk_end {n : Net} {k : Nat} {x : EndV} (hx : n.ends[k]? = some x) (hp : stOk n x.s = false) : netOk n = false := by
  unfold netOk; rw [Sp.all_false_of (p := fun d => stOk n d.s) hx hp]; simp
theorem arcOk_f {n : Net} {x : ArcV} (h : stOk n x.f = false) : arcOk n x = false := by unfold arcOk; rw [h]; simp
theorem arcOk_t {n : Net} {x : ArcV} (h : stOk n x.t = false) : arcOk n x = false := by unfold arcOk; rw [h]; simp
theorem arcOk_i {n : Net} {x : ArcV} (h : syOk n x.i = false) : arcOk n x = false := by unfold arcOk; rw [h]; simp
theorem arcOk_o {n : Net} {x : ArcV} (h : syOk n x.o = false) : arcOk n x = false := by unfold arcOk; rw [h]; simp
theorem stOk_lo {n : Net} {q : Int} (h : q < 0) : stOk n q = false := by unfold stOk; simp; omega
theorem stOk_hi {n : Net} {q : Int} (h : n.st ≤ q) : stOk n q = false := by unfold stOk; simp; omega
theorem stOk_ok {n : Net} {q : Int} (h : 0 ≤ q) (k : q < n.st) : stOk n q = true := by unfold stOk; simp [h, k]
theorem syOk_no {n : Net} {s : ByteArray} (h : ¬ s.size = 0) (k : bl (s ∈ n.sig) = false) : syOk n s = false := by unfold syOk; rw [k]; simp [h]
theorem syOk_e {n : Net} {s : ByteArray} (h : s.size = 0) : syOk n s = true := by unfold syOk; simp [h]
theorem syOk_in {n : Net} {s : ByteArray} (k : bl (s ∈ n.sig) = true) : syOk n s = true := by unfold syOk; rw [k]; simp
theorem arcOk_ok {n : Net} {x : ArcV} (a : stOk n x.f = true) (b : stOk n x.t = true) (c : syOk n x.i = true) (d : syOk n x.o = true) : arcOk n x = true := by unfold arcOk; rw [a, b, c, d]; rfl
end Nf

set_option maxHeartbeats 4000000 in
set_option maxRecDepth 100000 in
theorem refNet_any (w : World) (n : Nf.Net) (h : Nf.NetAt w n) :
    Calls Tryz.prog 53 #[n.val] w fun e w' => e = .returned (.int .i64 (Nf.errBase n)) ∧ Below w.heap.size w w' := by
  have HN := Sp.hid h
  have hla := h.arcs.1
  have hle := h.ends.1
  have han : n.an ≤ 2600000000000 := h.arcs.2.1
  have hen : n.en ≤ 9000000000000 := h.ends.2.1
  have hb0 : Below w.heap.size w (w.alloc (.cells n.cells 26)) := (Below.refl _ w).alloc (Nat.le_refl _) _
  have HV := Sp.hid (refValidate_any n.so n.sn n.scap n.sig _ (h.sig.below hb0))
  have hblk : (w.alloc (.cells n.cells 26)).heap[w.heap.size]? = some (.cells n.cells 26 (0, 0)) := Nf.Below.heap_new w _
  have Hblk := Sp.hid hblk
  have Hb0 := Sp.hid hb0
  obtain ⟨r, hr⟩ : ∃ r, Nf.errBase n = r := ⟨_, rfl⟩
  rw [hr]
  unfold Nf.errBase at hr
  rw [hla, hle] at hr
  clear hblk hb0 hla hle h
  by_cases h1 : 3000 < n.st ∨ 60000 < n.an ∨ 60000 < n.en
  · rw [if_pos h1] at hr
    subst hr
    clear HN HV
    obtain ⟨so, sn, scap, sig, st, ao, an, acap, arcs, eo, en, ecap, ends⟩ := n
    unfold Nf.Net.val
    simp only [Nf.Net.cells] at *
    by_cases a : 3000 < st
    · clear h1
      go_enter Tryz.func53, Tryz.ntmps53
      go_wp2_with fail
      go_ret
      exact ⟨rfl, Hb0.out⟩
    · by_cases b : 60000 < an
      · clear h1
        go_enter Tryz.func53, Tryz.ntmps53
        go_wp2_with fail
        go_ret
        exact ⟨rfl, Hb0.out⟩
      · have c : 60000 < en := by omega
        clear h1
        go_enter Tryz.func53, Tryz.ntmps53
        go_wp2_with fail
        go_ret
        exact ⟨rfl, Hb0.out⟩
  · rw [if_neg h1] at hr
    have a1 : ¬ 3000 < n.st := fun h => h1 (.inl h)
    have a2 : ¬ 60000 < n.an := fun h => h1 (.inr (.inl h))
    have a3 : ¬ 60000 < n.en := fun h => h1 (.inr (.inr h))
    by_cases h2 : Sp.errAlpha n.sig = 0
    · rw [if_neg (by simpa using h2)] at hr
      rw [h2] at HV
      obtain ⟨hs40, hasc, _⟩ := Nf.alpha_asc h2
      have Hasc := Sp.hid hasc
      have hsn : n.sn ≤ 40 := by rw [← HN.out.sig.1]; exact hs40
      have Hr := Sp.hid hr
      have HnV := Sp.hid (show n.val = .agg n.cells from rfl)
      have HIn := Sp.hid (fun (s : ByteArray) (w2 : World) (hb : Below w.heap.size w w2) => isIn_any w2 n.so n.sn n.scap n.sig s (HN.out.sig.below hb) hsn hasc)
      clear hr h1 h2 hasc hs40
      obtain ⟨N, hN⟩ : ∃ N : Nf.Net, n = N := ⟨_, rfl⟩
      have HNe := Sp.hid hN
      clear hN
      obtain ⟨so, sn, scap, sig, st, ao, an, acap, arcs, eo, en, ecap, ends⟩ := n
      unfold Nf.Net.val
      simp only [Nf.Net.cells] at *
      have HA := Sp.hid HN.out.arcs
      have HE := Sp.hid HN.out.ends
      have hNst : N.st = st := by rw [← HNe.out]
      have hNarcs : N.arcs = arcs := by rw [← HNe.out]
      have hNends : N.ends = ends := by rw [← HNe.out]
      have hNsig : N.sig = sig := by rw [← HNe.out]
      have Hr2 := Sp.hid (show (if Nf.netOk N = false then (1 : Int) else 0) = r by rw [← HNe.out]; exact Hr.out)
      have HNst := Sp.hid hNst
      have HNarcs := Sp.hid hNarcs
      have HNends := Sp.hid hNends
      have HNsig := Sp.hid hNsig
      clear Hr HN HnV HNe hNst hNarcs hNends hNsig
      by_cases hst : st < 1
      · have hnf : Nf.netOk N = false := by
          unfold Nf.netOk
          have : decide (1 ≤ N.st) = false := by rw [HNst.out]; simp; omega
          rw [this]; simp
        have hr1 : r = 1 := by rw [← Hr2.out, if_pos hnf]
        subst hr1
        clear hnf
        go_enter Tryz.func53, Tryz.ntmps53
        go_wp2_with fail
        refine HV.out.mono ?_
        rintro e w2 ⟨rfl, q, rfl⟩
        go_wp2_with fail
        go_ret
        exact ⟨rfl, Hb0.out.trans ⟨rfl, rfl, rfl, Nat.le_refl _, fun _ _ => rfl⟩⟩
      · go_enter Tryz.func53, Tryz.ntmps53
        go_wp2_with fail
        refine HV.out.mono ?_
        rintro e w2 ⟨rfl, q, rfl⟩
        go_wp2_with fail
        have Hb1 := Sp.hid (show Below w.heap.size w ((w.alloc (.cells #[.slice so sn scap, .int .i64 st, .slice ao an acap, .slice eo en ecap] 26)).drewN q) from Hb0.out.trans ⟨rfl, rfl, rfl, Nat.le_refl _, fun _ _ => rfl⟩)
        have Hk1 := Sp.hid (show ((w.alloc (.cells #[.slice so sn scap, .int .i64 st, .slice ao an acap, .slice eo en ecap] 26)).drewN q).heap[w.heap.size]? = some (.cells #[.slice so sn scap, .int .i64 st, .slice ao an acap, .slice eo en ecap] 26 (0, 0)) from Hblk.out)
        obtain ⟨w1, hw1⟩ : ∃ w1, (w.alloc (.cells #[.slice so sn scap, .int .i64 st, .slice ao an acap, .slice eo en ecap] 26)).drewN q = w1 := ⟨_, rfl⟩
        rw [hw1] at Hb1 Hk1 ⊢
        clear hw1
        go_loopw [4] (fun i wr => ∃ k : Nat, i = .int .i64 k ∧ k ≤ an ∧ (arcs.take k).all (Nf.arcOk N) = true ∧ Below w.heap.size w wr ∧ wr.heap[w.heap.size]? = some (.cells #[.slice so sn scap, .int .i64 st, .slice ao an acap, .slice eo en ecap] 26 (0, 0))) (fun i _ => an - (intOf i).toNat)
        case atStart => exact ⟨0, rfl, Nat.zero_le _, by simp, Hb1.out, Hk1.out⟩
        case round =>
          obtain ⟨k, rfl, hk, hall, hbel, hblk⟩ := hrel
          have Hall := Sp.hid hall
          have Hbel := Sp.hid hbel
          have Hblk := Sp.hid hblk
          have hsz := hbel.size
          have d2 : wr.cell? ⟨w.heap.size, 2, none⟩ = some (.slice ao an acap) := Nf.blk_cell (i := 2) hblk rfl
          clear hall hbel hblk
          by_cases hkn : k < an
          · obtain ⟨b, off, x, rfl, ⟨c0, c1, c2, c3, c4⟩, hi1, ho1, hx0, ht⟩ := (HA.out.below Hbel.out).at hkn
            have hx : N.arcs[k]? = some x := by rw [HNarcs.out]; exact hx0
            have hb2 := Hbel.out.alloc hsz (.cells #[.int .i64 x.f, .string x.i, .string x.o, .int .i64 x.t, .int .i64 x.c] 51)
            have Hb2 := Sp.hid hb2
            have Hblk2 := Sp.hid (Nf.blk_alloc Hblk.out (.cells #[.int .i64 x.f, .string x.i, .string x.o, .int .i64 x.t, .int .i64 x.c] 51))
            have HblkX := Sp.hid (Nf.Below.heap_new wr (.cells #[.int .i64 x.f, .string x.i, .string x.o, .int .i64 x.t, .int .i64 x.c] 51))
            have g0 : (wr.alloc (.cells #[.int .i64 x.f, .string x.i, .string x.o, .int .i64 x.t, .int .i64 x.c] 51)).cell? ⟨w.heap.size, 0, none⟩ = some (.slice so sn scap) := Nf.blk_cell (i := 0) Hblk2.out rfl
            have g1 : (wr.alloc (.cells #[.int .i64 x.f, .string x.i, .string x.o, .int .i64 x.t, .int .i64 x.c] 51)).cell? ⟨w.heap.size, 1, none⟩ = some (.int .i64 st) := Nf.blk_cell (i := 1) Hblk2.out rfl
            have Hall2 := Sp.hid (fun (hp : Nf.arcOk N x = true) => show (arcs.take (k + 1)).all (Nf.arcOk N) = true by rw [ht, List.all_append, Hall.out]; simpa using hp)
            have Hr := Hr2
            clear hx0 ht hb2
            by_cases f1 : x.f < 0
            · --
              have hnf := Nf.netOk_arc hx (Nf.arcOk_f (Nf.stOk_lo f1))
              have hr1 : r = 1 := by rw [← Hr.out, if_pos hnf]
              subst hr1
              clear hnf hx
              go_wp2_with fail
              go_ret
              exact ⟨rfl, Hb2.out⟩
            · by_cases f2 : st ≤ x.f
              · have f2' : x.f ≥ st := f2
                have hnf := Nf.netOk_arc hx (Nf.arcOk_f (Nf.stOk_hi (by rw [HNst.out]; exact f2)))
                have hr1 : r = 1 := by rw [← Hr.out, if_pos hnf]
                subst hr1
                clear hnf hx
                go_wp2_with fail
                go_ret
                exact ⟨rfl, Hb2.out⟩
              · by_cases t1 : x.t < 0
                · have f2' : ¬ x.f ≥ st := f2
                  have hnf := Nf.netOk_arc hx (Nf.arcOk_t (Nf.stOk_lo t1))
                  have hr1 : r = 1 := by rw [← Hr.out, if_pos hnf]
                  subst hr1
                  clear hnf hx
                  go_wp2_with fail
                  go_ret
                  exact ⟨rfl, Hb2.out⟩
                · by_cases t2 : st ≤ x.t
                  · have f2' : ¬ x.f ≥ st := f2
                    have t2' : x.t ≥ st := t2
                    have hnf := Nf.netOk_arc hx (Nf.arcOk_t (Nf.stOk_hi (by rw [HNst.out]; exact t2)))
                    have hr1 : r = 1 := by rw [← Hr.out, if_pos hnf]
                    subst hr1
                    clear hnf hx
                    go_wp2_with fail
                    go_ret
                    exact ⟨rfl, Hb2.out⟩
                  · have f2' : ¬ x.f ≥ st := f2
                    have t2' : ¬ x.t ≥ st := t2
                    have HF := Sp.hid (Nf.stOk_ok (n := N) (q := x.f) (by omega) (by rw [HNst.out]; omega))
                    have HT := Sp.hid (Nf.stOk_ok (n := N) (q := x.t) (by omega) (by rw [HNst.out]; omega))
                    by_cases zi : x.i.size = 0
                    · have hei := Sp.empty_of_size zi
                      have HI := Sp.hid (Nf.syOk_e (n := N) zi)
                      by_cases zo : x.o.size = 0
                      · have heo := Sp.empty_of_size zo
                        have HO := Sp.hid (Nf.syOk_e (n := N) zo)
                        clear hx
                        go_wp2_with fail
                        go_roundw
                        case rel => exact ⟨k + 1, by go_num, hkn, Hall2.out (Nf.arcOk_ok HF.out HT.out HI.out HO.out), Hb2.out, Hblk2.out⟩
                        case measure => simp [intOf]; omega
                      · have heo := Sp.not_empty_of_size zo
                        have HC := HIn.out x.o _ Hb2.out
                        by_cases mo : x.o ∈ sig
                        · rw [Nf.bl_true mo] at HC
                          have HO := Sp.hid (Nf.syOk_in (n := N) (s := x.o) (by rw [HNsig.out]; exact Nf.bl_true mo))
                          have HC := Sp.hid HC
                          clear hx mo
                          go_wp2_with fail
                          refine HC.out.mono ?_
                          rintro e w' ⟨rfl, hb'⟩
                          have Hb3 := Sp.hid (Hb2.out.trans (hb'.mono Hb2.out.size))
                          have Hblk3 := Sp.hid (Nf.blk_below Hblk2.out hb' (Nf.blk_lt Hblk2.out))
                          clear hb'
                          go_wp2_with fail
                          go_roundw
                          case rel => exact ⟨k + 1, by go_num, hkn, Hall2.out (Nf.arcOk_ok HF.out HT.out HI.out HO.out), Hb3.out, Hblk3.out⟩
                          case measure => simp [intOf]; omega
                        · rw [Nf.bl_false mo] at HC
                          have HC := Sp.hid HC
                          have hnf := Nf.netOk_arc hx (Nf.arcOk_o (Nf.syOk_no zo (by rw [HNsig.out]; exact Nf.bl_false mo)))
                          have hr1 : r = 1 := by rw [← Hr.out, if_pos hnf]
                          subst hr1
                          clear hnf hx
                          go_wp2_with fail
                          refine HC.out.mono ?_
                          rintro e w' ⟨rfl, hb'⟩
                          have Hb' := Sp.hid hb'
                          have Hb3 := Sp.hid (Hb2.out.trans (hb'.mono Hb2.out.size))
                          clear hb'
                          go_wp2_with fail
                          go_ret
                          exact ⟨rfl, Hb3.out⟩
                    · have hei := Sp.not_empty_of_size zi
                      have HC := HIn.out x.i _ Hb2.out
                      by_cases mi : x.i ∈ sig
                      · rw [Nf.bl_true mi] at HC
                        have HI := Sp.hid (Nf.syOk_in (n := N) (s := x.i) (by rw [HNsig.out]; exact Nf.bl_true mi))
                        have HC := Sp.hid HC
                        have Hx := Sp.hid hx
                        clear hx mi
                        go_wp2_with fail
                        refine HC.out.mono ?_
                        rintro e w3 ⟨rfl, hb'⟩
                        have Hb3 := Sp.hid (Hb2.out.trans (hb'.mono Hb2.out.size))
                        have hblk3 := Nf.blk_below Hblk2.out hb' (Nf.blk_lt Hblk2.out)
                        have Hblk3 := Sp.hid hblk3
                        have hx3 := Nf.blk_below HblkX.out hb' (Nf.blk_lt HblkX.out)
                        have e0 : w3.cell? ⟨w.heap.size, 0, none⟩ = some (.slice so sn scap) := Nf.blk_cell (i := 0) hblk3 rfl
                        have e2 : w3.cell? ⟨wr.heap.size, 2, none⟩ = some (.string x.o) := Nf.blk_cell (i := 2) hx3 rfl
                        clear hb' hblk3 hx3 g0 g1 c0 c1 c2 c3 c4
                        by_cases zo : x.o.size = 0
                        · have heo := Sp.empty_of_size zo
                          have HO := Sp.hid (Nf.syOk_e (n := N) zo)
                          go_wp2_with fail
                          go_roundw
                          case rel => exact ⟨k + 1, by go_num, hkn, Hall2.out (Nf.arcOk_ok HF.out HT.out HI.out HO.out), Hb3.out, Hblk3.out⟩
                          case measure => simp [intOf]; omega
                        · have heo := Sp.not_empty_of_size zo
                          have HC2 := HIn.out x.o _ Hb3.out
                          by_cases mo : x.o ∈ sig
                          · rw [Nf.bl_true mo] at HC2
                            have HO := Sp.hid (Nf.syOk_in (n := N) (s := x.o) (by rw [HNsig.out]; exact Nf.bl_true mo))
                            have HC2 := Sp.hid HC2
                            clear mo
                            go_wp2_with fail
                            refine HC2.out.mono ?_
                            rintro e w' ⟨rfl, hb'⟩
                            have Hb4 := Sp.hid (Hb3.out.trans (hb'.mono Hb3.out.size))
                            have Hblk4 := Sp.hid (Nf.blk_below Hblk3.out hb' (Nf.blk_lt Hblk3.out))
                            clear hb'
                            go_wp2_with fail
                            go_roundw
                            case rel => exact ⟨k + 1, by go_num, hkn, Hall2.out (Nf.arcOk_ok HF.out HT.out HI.out HO.out), Hb4.out, Hblk4.out⟩
                            case measure => simp [intOf]; omega
                          · rw [Nf.bl_false mo] at HC2
                            have HC2 := Sp.hid HC2
                            have hx := Hx.out
                            have hnf := Nf.netOk_arc hx (Nf.arcOk_o (Nf.syOk_no zo (by rw [HNsig.out]; exact Nf.bl_false mo)))
                            have hr1 : r = 1 := by rw [← Hr.out, if_pos hnf]
                            subst hr1
                            clear hnf hx
                            go_wp2_with fail
                            refine HC2.out.mono ?_
                            rintro e w' ⟨rfl, hb'⟩
                            have Hb4 := Sp.hid (Hb3.out.trans (hb'.mono Hb3.out.size))
                            clear hb'
                            go_wp2_with fail
                            go_ret
                            exact ⟨rfl, Hb4.out⟩
                      · rw [Nf.bl_false mi] at HC
                        have HC := Sp.hid HC
                        have hnf := Nf.netOk_arc hx (Nf.arcOk_i (Nf.syOk_no zi (by rw [HNsig.out]; exact Nf.bl_false mi)))
                        have hr1 : r = 1 := by rw [← Hr.out, if_pos hnf]
                        subst hr1
                        clear hnf hx
                        go_wp2_with fail
                        refine HC.out.mono ?_
                        rintro e w' ⟨rfl, hb'⟩
                        have Hb' := Sp.hid hb'
                        have Hb3 := Sp.hid (Hb2.out.trans (hb'.mono Hb2.out.size))
                        clear hb'
                        go_wp2_with fail
                        go_ret
                        exact ⟨rfl, Hb3.out⟩
          · have hke : k = an := by omega
            have HallA := Sp.hid (show arcs.all (Nf.arcOk N) = true by have := Hall.out; rwa [List.take_of_length_le (by rw [HA.out.1]; omega)] at this)
            obtain ⟨w2, rfl⟩ : ∃ w2 : World, w2 = wr := ⟨_, rfl⟩
            go_wp2_with fail
            go_loopw [6] (fun i wr => ∃ k : Nat, i = .int .i64 k ∧ k ≤ en ∧ (ends.take k).all (fun d => Nf.stOk N d.s) = true ∧ Below w.heap.size w wr ∧ wr.heap[w.heap.size]? = some (.cells #[.slice so sn scap, .int .i64 st, .slice ao an acap, .slice eo en ecap] 26 (0, 0))) (fun i _ => en - (intOf i).toNat)
            case atStart => exact ⟨0, rfl, Nat.zero_le _, by simp, Hbel.out, Hblk.out⟩
            case round =>
              clear Hall Hbel Hblk hsz d2 hke hkn
              obtain ⟨k, rfl, hk, hall, hbel, hblk⟩ := hrel
              have Hall := Sp.hid hall
              have Hbel := Sp.hid hbel
              have Hblk := Sp.hid hblk
              have d3 : wr.cell? ⟨w.heap.size, 3, none⟩ = some (.slice eo en ecap) := Nf.blk_cell (i := 3) hblk rfl
              have d1 : wr.cell? ⟨w.heap.size, 1, none⟩ = some (.int .i64 st) := Nf.blk_cell (i := 1) hblk rfl
              clear hall hbel hblk
              by_cases hkn : k < en
              · obtain ⟨b, off, x, rfl, ⟨c0, c1⟩, hx0, ht⟩ := (HE.out.below Hbel.out).at hkn
                have hx : N.ends[k]? = some x := by rw [HNends.out]; exact hx0
                have i1 : (0 : Int) ≤ (k : Int) := by omega
                have i2 : (k : Int) < (en : Int) := by omega
                have Hall2 := Sp.hid (fun (hp : Nf.stOk N x.s = true) => show (ends.take (k + 1)).all (fun d => Nf.stOk N d.s) = true by rw [ht, List.all_append, Hall.out]; simpa using hp)
                clear hx0 ht
                by_cases f1 : x.s < 0
                · have g1 : decide (x.s < 0) = true := by simpa using f1
                  have hnf := Nf.netOk_end hx (Nf.stOk_lo f1)
                  have hr1 : r = 1 := by rw [← Hr2.out, if_pos hnf]
                  subst hr1
                  clear hnf hx f1
                  go_wp2_with fail
                  go_quiet (fail)
                  clear i1 i2
                  go_wp2_with fail
                  go_ret
                  exact ⟨rfl, Hbel.out.trans ⟨rfl, rfl, rfl, Nat.le_refl _, fun _ _ => rfl⟩⟩
                · have g1 : decide (x.s < 0) = false := by simpa using f1
                  by_cases f2 : st ≤ x.s
                  · have g2 : decide (st ≤ x.s) = true := by simpa using f2
                    have hnf := Nf.netOk_end hx (Nf.stOk_hi (by rw [HNst.out]; exact f2))
                    have hr1 : r = 1 := by rw [← Hr2.out, if_pos hnf]
                    subst hr1
                    clear hnf hx f1
                    go_wp2_with fail
                    go_quiet (fail)
                    clear i1 i2
                    go_wp2_with fail
                    go_ret
                    exact ⟨rfl, Hbel.out.trans ⟨rfl, rfl, rfl, Nat.le_refl _, fun _ _ => rfl⟩⟩
                  · have g2 : decide (st ≤ x.s) = false := by simpa using f2
                    have HS := Sp.hid (Nf.stOk_ok (n := N) (q := x.s) (by omega) (by rw [HNst.out]; omega))
                    clear hx f1
                    go_wp2_with fail
                    go_quiet (fail)
                    clear i1 i2
                    go_wp2_with fail
                    go_roundw
                    case rel => exact ⟨k + 1, by go_num, hkn, Hall2.out HS.out, Hbel.out.trans ⟨rfl, rfl, rfl, Nat.le_refl _, fun _ _ => rfl⟩, Hblk.out⟩
                    case measure => simp [intOf]; omega
              · have HallE := Sp.hid (show ends.all (fun d => Nf.stOk N d.s) = true by have := Hall.out; rwa [List.take_of_length_le (by rw [HE.out.1]; omega)] at this)
                have hnt : Nf.netOk N = true := by
                  unfold Nf.netOk
                  have : decide (1 ≤ N.st) = true := by rw [HNst.out]; simp; omega
                  rw [this, HNarcs.out, HNends.out, HallA.out, HallE.out]; rfl
                have hr0 : r = 0 := by rw [← Hr2.out, hnt]; rfl
                subst hr0
                clear hnt
                go_wp2_with fail
                go_ret
                exact ⟨rfl, Hbel.out⟩
    · rw [if_pos h2] at hr
      rw [hr] at HV h2
      have h3 : (r != 0) = true := by simpa using h2
      clear HN h1 h2 hr
      obtain ⟨so, sn, scap, sig, st, ao, an, acap, arcs, eo, en, ecap, ends⟩ := n
      unfold Nf.Net.val
      simp only [Nf.Net.cells] at *
      go_enter Tryz.func53, Tryz.ntmps53
      go_wp2_with fail
      refine HV.out.mono ?_
      rintro e w2 ⟨rfl, q, rfl⟩
      go_wp2_with fail
      go_ret
      exact ⟨rfl, Hb0.out.trans ⟨rfl, rfl, rfl, Nat.le_refl _, fun _ _ => rfl⟩⟩
end Go.Proofs.YtpoblcmjfcpiaaaGreat
