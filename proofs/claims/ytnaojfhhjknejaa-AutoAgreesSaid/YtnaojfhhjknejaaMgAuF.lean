/-
  The walks of isNet and Validate of package auto.
-/
import Derived.Test.YtnaojfhhjknejaaMgAuE
set_option linter.unusedVariables false
namespace Go.Proofs.Ytnaojfhhjknejaa
open Go.RowKit

set_option maxHeartbeats 400000 in
theorem isNetState_any (q st : Int) (nb : Nat) (w : World) (hc : w.cell? ⟨nb, 1, none⟩ = some (.int .i64 st)) :
    Calls Try.prog 45 #[.int .i64 q, .pointer (some ⟨nb, 0, none⟩)] w fun e w' => e = .returned (.bool (decide (0 ≤ q) && decide (q < st))) ∧ w = w' := by
  obtain ⟨r, hr⟩ : ∃ r, (decide (0 ≤ q) && decide (q < st)) = r := ⟨_, rfl⟩
  rw [hr]
  by_cases h : 0 ≤ q
  · by_cases h2 : q < st
    · have hf : r = true := by rw [← hr]; simp [h, h2]
      subst hf
      clear hr
      go_enter Try.func45, Try.ntmps45
      go_wp2_with fail
      go_ret
      exact ⟨rfl, rfl⟩
    · have hf : r = false := by rw [← hr]; simp [h2]
      subst hf
      clear hr
      go_enter Try.func45, Try.ntmps45
      go_wp2_with fail
      go_ret
      exact ⟨rfl, rfl⟩
  · have hf : r = false := by rw [← hr]; simp [h]
    subst hf
    clear hr
    go_enter Try.func45, Try.ntmps45
    go_wp2_with fail
    go_ret
    exact ⟨rfl, rfl⟩

set_option maxHeartbeats 400000 in
theorem isNetSym_any (s : ByteArray) (so : Option Addr) (sn scap nb : Nat) (sig : List ByteArray) (w : World) (hs : s.size ≤ 9223372036854775807) (hc : w.cell? ⟨nb, 0, none⟩ = some (.slice so sn scap)) (h : Sp.Row w so sn sig) (hn : sn ≤ 40) (ha : Sp.Asc sig) :
    Calls Try.prog 46 #[.string s, .pointer (some ⟨nb, 0, none⟩)] w fun e w' => e = .returned (.bool (Nf.bl (s ∈ sig) || decide (s.size = 0))) ∧ w = w' := by
  have HB := Sp.hid (binarySearch_any so sn scap sig s w h (by omega) ha)
  clear ha h
  by_cases hm : s ∈ sig
  · have hb := Sp.hid (Nf.bl_true hm)
    clear hm
    go_enter Try.func46, Try.ntmps46
    go_wp2_with fail
    refine HB.out.mono ?_
    rintro e w' ⟨i, rfl, _, _, rfl⟩
    rw [hb.out]
    go_wp2_with fail
    go_ret
    exact ⟨by rw [hb.out]; rfl, rfl⟩
  · have hb := Sp.hid (Nf.bl_false hm)
    clear hm
    by_cases hz : s.size = 0
    · have he := Sp.empty_of_size hz
      have hd := Sp.hid (show decide (s.size = 0) = true by simp [hz])
      clear hz
      go_enter Try.func46, Try.ntmps46
      go_wp2_with fail
      refine HB.out.mono ?_
      rintro e w' ⟨i, rfl, _, _, rfl⟩
      rw [hb.out]
      go_wp2_with fail
      go_ret
      exact ⟨by rw [hb.out, hd.out]; rfl, rfl⟩
    · have he := Sp.not_empty_of_size hz
      have hd := Sp.hid (show decide (s.size = 0) = false by simp [hz])
      clear hz
      go_enter Try.func46, Try.ntmps46
      go_wp2_with fail
      refine HB.out.mono ?_
      rintro e w' ⟨i, rfl, _, _, rfl⟩
      rw [hb.out]
      go_wp2_with fail
      go_ret
      exact ⟨by rw [hb.out, hd.out]; rfl, rfl⟩

theorem state_enters : ∀ args w, (callFunc 45 args).run Try.prog w = .ok (.enter 45 args) w := enters_of Try.func45 (by kernel_rfl) rfl
theorem sym_enters : ∀ args w, (callFunc 46 args).run Try.prog w = .ok (.enter 46 args) w := enters_of Try.func46 (by kernel_rfl) rfl

set_option maxHeartbeats 4000000 in
set_option maxRecDepth 100000 in
theorem isNet_any (w : World) (n : Nf.Net) (h : Nf.NetAt w n) (hsn : n.sn ≤ 40) (hasc : Sp.Asc n.sig) :
    Calls Try.prog 25 #[n.val] w fun e w' => e = .returned (.bool (Nf.netOk n)) ∧ Below w.heap.size w w' := by
  obtain ⟨so, sn, scap, sig, st, ao, an, acap, arcs, eo, en, ecap, ends⟩ := n
  obtain ⟨hs, ha, he, _, _⟩ := h
  simp only at ha he hs hsn hasc
  have han : an ≤ 2600000000000 := ha.2.1
  have hen : en ≤ 9000000000000 := he.2.1
  have Hs := Sp.hid hs
  have Ha := Sp.hid ha
  have He := Sp.hid he
  have Hlen := Sp.hid ha.1
  have HlenE := Sp.hid he.1
  have Hasc := Sp.hid hasc
  have e1 := state_enters
  have e2 := sym_enters
  clear ha he hs hasc
  unfold Nf.Net.val Nf.Net.cells Nf.netOk Nf.arcOk Nf.stOk Nf.syOk
  dsimp only
  obtain ⟨P, hP⟩ : ∃ P : ArcV → Bool, (fun a => decide (0 ≤ a.f) && decide (a.f < st) && (decide (0 ≤ a.t) && decide (a.t < st)) && (Nf.bl (a.i ∈ sig) || decide (a.i.size = 0)) && (Nf.bl (a.o ∈ sig) || decide (a.o.size = 0))) = P := ⟨_, rfl⟩
  rw [hP]
  have HP := Sp.hid hP
  clear hP
  go_enter Try.func25, Try.ntmps25
  go_wp2_with fail
  go_loopw [6, 14] (fun _ i wr => ∃ k : Nat, i = .int .i64 k ∧ k ≤ an ∧ (arcs.take k).all P = true ∧ Below w.heap.size w wr ∧ wr.heap[w.heap.size]? = some (.cells #[.slice so sn scap, .int .i64 st, .slice ao an acap, .slice eo en ecap] 26 (0, 0))) (fun _ i _ => an - (intOf i).toNat)
  case atStart => exact ⟨0, rfl, Nat.zero_le _, by simp, (Below.refl _ w).alloc (Nat.le_refl _) _, by show (w.heap.push _)[w.heap.size]? = _; simp⟩
  case round =>
    obtain ⟨k, rfl, hk, hall, hbel, hblk⟩ := hrel
    have Hall := Sp.hid hall
    have Hbel := Sp.hid hbel
    have Hblk := Sp.hid hblk
    have hsz := hbel.size
    clear hall hbel hblk
    by_cases hkn : k < an
    · obtain ⟨b, off, x, rfl, ⟨c0, c1, c2, c3, c4⟩, hi1, ho1, hx, ht⟩ := (Ha.out.below Hbel.out).at hkn
      have Hb2 := Sp.hid (Hbel.out.alloc hsz (.cells #[.int .i64 x.f, .string x.i, .string x.o, .int .i64 x.t, .int .i64 x.c] 43))
      have Hblk2 := Sp.hid (Nf.blk_alloc Hblk.out (.cells #[.int .i64 x.f, .string x.i, .string x.o, .int .i64 x.t, .int .i64 x.c] 43))
      have hr2 := Hs.out.below Hb2.out
      have HC1 := Sp.hid (isNetState_any x.f st w.heap.size _ (Nf.blk_cell (i := 1) Hblk2.out rfl))
      have HC2 := Sp.hid (isNetState_any x.t st w.heap.size _ (Nf.blk_cell (i := 1) Hblk2.out rfl))
      have HC3 := Sp.hid (isNetSym_any x.i so sn scap w.heap.size sig _ hi1 (Nf.blk_cell (i := 0) Hblk2.out rfl) hr2 hsn Hasc.out)
      have HC4 := Sp.hid (isNetSym_any x.o so sn scap w.heap.size sig _ ho1 (Nf.blk_cell (i := 0) Hblk2.out rfl) hr2 hsn Hasc.out)
      have hPx : P x = (decide (0 ≤ x.f) && decide (x.f < st) && (decide (0 ≤ x.t) && decide (x.t < st)) && (Nf.bl (x.i ∈ sig) || decide (x.i.size = 0)) && (Nf.bl (x.o ∈ sig) || decide (x.o.size = 0))) := by rw [← HP.out]
      generalize (decide (0 ≤ x.f) && decide (x.f < st)) = b1 at HC1 hPx
      generalize (decide (0 ≤ x.t) && decide (x.t < st)) = b2 at HC2 hPx
      generalize (Nf.bl (x.i ∈ sig) || decide (x.i.size = 0)) = b3 at HC3 hPx
      generalize (Nf.bl (x.o ∈ sig) || decide (x.o.size = 0)) = b4 at HC4 hPx
      clear hr2
      cases b1 with
      | false =>
        have hf := Sp.hid (show (decide (1 ≤ st) && arcs.all P && ends.all fun d => decide (0 ≤ d.s) && decide (d.s < st)) = false by rw [Sp.all_false_of hx (by simpa using hPx)]; simp)
        clear hx ht hPx
        go_wp2_with fail
        refine HC1.out.mono ?_
        rintro e w' ⟨rfl, rfl⟩
        go_wp2_with fail
        go_ret
        exact ⟨by rw [hf.out]; rfl, Hb2.out⟩
      | true =>
        cases b2 with
        | false =>
          have hf := Sp.hid (show (decide (1 ≤ st) && arcs.all P && ends.all fun d => decide (0 ≤ d.s) && decide (d.s < st)) = false by rw [Sp.all_false_of hx (by simpa using hPx)]; simp)
          clear hx ht hPx
          go_wp2_with fail
          refine HC1.out.mono ?_
          rintro e w' ⟨rfl, rfl⟩
          go_wp2_with fail
          refine HC2.out.mono ?_
          rintro e w' ⟨rfl, rfl⟩
          go_wp2_with fail
          go_ret
          exact ⟨by rw [hf.out]; rfl, Hb2.out⟩
        | true =>
          cases b3 with
          | false =>
            have hf := Sp.hid (show (decide (1 ≤ st) && arcs.all P && ends.all fun d => decide (0 ≤ d.s) && decide (d.s < st)) = false by rw [Sp.all_false_of hx (by simpa using hPx)]; simp)
            clear hx ht hPx
            go_wp2_with fail
            refine HC1.out.mono ?_
            rintro e w' ⟨rfl, rfl⟩
            go_wp2_with fail
            refine HC2.out.mono ?_
            rintro e w' ⟨rfl, rfl⟩
            go_wp2_with fail
            refine HC3.out.mono ?_
            rintro e w' ⟨rfl, rfl⟩
            go_wp2_with fail
            go_ret
            exact ⟨by rw [hf.out]; rfl, Hb2.out⟩
          | true =>
            cases b4 with
            | false =>
              have hf := Sp.hid (show (decide (1 ≤ st) && arcs.all P && ends.all fun d => decide (0 ≤ d.s) && decide (d.s < st)) = false by rw [Sp.all_false_of hx (by simpa using hPx)]; simp)
              clear hx ht hPx
              go_wp2_with fail
              refine HC1.out.mono ?_
              rintro e w' ⟨rfl, rfl⟩
              go_wp2_with fail
              refine HC2.out.mono ?_
              rintro e w' ⟨rfl, rfl⟩
              go_wp2_with fail
              refine HC3.out.mono ?_
              rintro e w' ⟨rfl, rfl⟩
              go_wp2_with fail
              refine HC4.out.mono ?_
              rintro e w' ⟨rfl, rfl⟩
              go_wp2_with fail
              go_ret
              exact ⟨by rw [hf.out]; rfl, Hb2.out⟩
            | true =>
              have hs := Sp.hid (show (arcs.take (k + 1)).all P = true by rw [ht, Sp.all_snoc, Hall.out, hPx]; rfl)
              clear hx ht hPx
              go_wp2_with fail
              refine HC1.out.mono ?_
              rintro e w' ⟨rfl, rfl⟩
              go_wp2_with fail
              refine HC2.out.mono ?_
              rintro e w' ⟨rfl, rfl⟩
              go_wp2_with fail
              refine HC3.out.mono ?_
              rintro e w' ⟨rfl, rfl⟩
              go_wp2_with fail
              refine HC4.out.mono ?_
              rintro e w' ⟨rfl, rfl⟩
              go_wp2_with fail
              go_roundw
              case rel => exact ⟨k + 1, by go_num, hkn, hs.out, Hb2.out, Hblk2.out⟩
              case measure => simp [intOf]; omega
    · have hk' : arcs.take k = arcs := List.take_of_length_le (by rw [Hlen.out]; omega)
      have HallA := Sp.hid (show arcs.all P = true by have h := Hall.out; rwa [hk'] at h)
      have c3 : wr.cell? ⟨w.heap.size, 3, none⟩ = some (.slice eo en ecap) := Nf.blk_cell (i := 3) Hblk.out rfl
      obtain ⟨wo, rfl⟩ : ∃ wo : World, wo = wr := ⟨_, rfl⟩
      clear hk' Hall
      go_wp2_with fail
      go_loopw [8, 48] (fun _ i wr => ∃ k : Nat, i = .int .i64 k ∧ k ≤ en ∧ ((ends.take k).all fun d => decide (0 ≤ d.s) && decide (d.s < st)) = true ∧ Below w.heap.size w wr ∧ wr.heap[w.heap.size]? = some (.cells #[.slice so sn scap, .int .i64 st, .slice ao an acap, .slice eo en ecap] 26 (0, 0))) (fun _ i _ => en - (intOf i).toNat)
      case atStart => exact ⟨0, rfl, Nat.zero_le _, by simp, Hbel.out, Hblk.out⟩
      case round =>
        obtain ⟨j, rfl, hj, hallE, hbel3, hblk3⟩ := hrel
        have HallE := Sp.hid hallE
        have Hbel3 := Sp.hid hbel3
        have Hblk3 := Sp.hid hblk3
        have hsz3 := hbel3.size
        clear hallE hbel3 hblk3
        by_cases hjn : j < en
        · obtain ⟨b, off, x, rfl, ⟨d0, d1⟩, hx, ht⟩ := (He.out.below Hbel3.out).at hjn
          have Hb2 := Sp.hid (Hbel3.out.alloc hsz3 (.cells #[.int .i64 x.s, .int .i64 x.c] 45))
          have Hblk2 := Sp.hid (Nf.blk_alloc Hblk3.out (.cells #[.int .i64 x.s, .int .i64 x.c] 45))
          have HC1 := Sp.hid (isNetState_any x.s st w.heap.size _ (Nf.blk_cell (i := 1) Hblk2.out rfl))
          cases hb : (decide (0 ≤ x.s) && decide (x.s < st)) with
          | false =>
            have hf := Sp.hid (show (decide (1 ≤ st) && arcs.all P && ends.all fun d => decide (0 ≤ d.s) && decide (d.s < st)) = false by rw [Sp.all_false_of hx hb]; simp)
            rw [hb] at HC1
            clear hx ht hb
            go_wp2_with fail
            refine HC1.out.mono ?_
            rintro e w' ⟨rfl, rfl⟩
            go_wp2_with fail
            go_ret
            exact ⟨by rw [hf.out]; rfl, Hb2.out⟩
          | true =>
            have hs := Sp.hid (show ((ends.take (j + 1)).all fun d => decide (0 ≤ d.s) && decide (d.s < st)) = true by rw [ht, Sp.all_snoc, HallE.out, hb]; rfl)
            rw [hb] at HC1
            clear hx ht hb
            go_wp2_with fail
            refine HC1.out.mono ?_
            rintro e w' ⟨rfl, rfl⟩
            go_wp2_with fail
            go_roundw
            case rel => exact ⟨j + 1, by go_num, hjn, hs.out, Hb2.out, Hblk2.out⟩
            case measure => simp [intOf]; omega
        · have hj' : ends.take j = ends := List.take_of_length_le (by rw [HlenE.out]; omega)
          have hf := Sp.hid (show (decide (1 ≤ st) && arcs.all P && ends.all fun d => decide (0 ≤ d.s) && decide (d.s < st)) = decide (1 ≤ st) by
            have h := HallE.out
            rw [hj'] at h
            rw [HallA.out, h]; simp)
          have d1 : wr.cell? ⟨w.heap.size, 1, none⟩ = some (.int .i64 st) := Nf.blk_cell (i := 1) Hblk3.out rfl
          clear hj'
          go_wp2_with fail
          go_ret
          exact ⟨by rw [hf.out]; rfl, Hbel3.out⟩


theorem Nf.alpha_asc {l : List ByteArray} (h : Sp.errAlpha l = 0) : l.length ≤ 40 ∧ Sp.Asc l ∧ ∀ s ∈ l, 1 ≤ s.size := by
  unfold Sp.errAlpha at h
  by_cases c : 40 < l.length ∨ Sp.anyLong l = true
  · rw [if_pos c] at h; simp at h
  · rw [if_neg c] at h
    by_cases d : Sp.allSym l = true ∧ Sp.isSet l = true
    · refine ⟨by omega, (Sp.isSet_iff l).1 d.2, fun s hs => ?_⟩
      have := d.1
      unfold Sp.allSym at this
      rw [List.all_eq_true] at this
      have := this s hs
      simp [Sp.isSym] at this
      exact this.1.1
    · rw [if_neg d] at h; simp at h

set_option maxHeartbeats 1000000 in
set_option maxRecDepth 100000 in
theorem netValidate_any (w : World) (n : Nf.Net) (h : Nf.NetAt w n) :
    Calls Try.prog 13 #[n.val] w fun e w' => e = .returned (.int .i64 (Nf.errNet n)) ∧ Below w.heap.size w w' := by
  have HN := Sp.hid h
  have hla := h.arcs.1
  have hle := h.ends.1
  have hls := h.sig.1
  have hlo := h.lo
  have hhi := h.hi
  have han : n.an ≤ 2600000000000 := h.arcs.2.1
  have hen : n.en ≤ 9000000000000 := h.ends.2.1
  clear h
  obtain ⟨r, hr⟩ : ∃ r, Nf.errNet n = r := ⟨_, rfl⟩
  rw [hr]
  unfold Nf.errNet at hr
  rw [hla, hle] at hr
  have hb0 : Below w.heap.size w (w.alloc (.cells n.cells 26)) := (Below.refl _ w).alloc (Nat.le_refl _) _
  have hv : n.val = .agg n.cells := rfl
  by_cases h1 : 3000 < n.st ∨ 60000 < n.an ∨ 60000 < n.en
  · rw [if_pos h1] at hr
    subst hr
    clear hla hle hls hv HN
    obtain ⟨so, sn, scap, sig, st, ao, an, acap, arcs, eo, en, ecap, ends⟩ := n
    unfold Nf.Net.val
    simp only [Nf.Net.cells] at *
    by_cases a : 3000 < st
    · clear h1
      go_enter Try.func13, Try.ntmps13
      go_wp2_with fail
      go_ret
      exact ⟨rfl, hb0⟩
    · by_cases b : 60000 < an
      · clear h1
        go_enter Try.func13, Try.ntmps13
        go_wp2_with fail
        go_ret
        exact ⟨rfl, hb0⟩
      · have c : 60000 < en := by omega
        clear h1
        go_enter Try.func13, Try.ntmps13
        go_wp2_with fail
        go_ret
        exact ⟨rfl, hb0⟩
  · rw [if_neg h1] at hr
    have a1 : ¬ 3000 < n.st := fun h => h1 (.inl h)
    have a2 : ¬ 60000 < n.an := fun h => h1 (.inr (.inl h))
    have a3 : ¬ 60000 < n.en := fun h => h1 (.inr (.inr h))
    have HV := Sp.hid (validate_any n.so n.sn n.scap n.sig _ (HN.out.sig.below hb0))
    by_cases h2 : Sp.errAlpha n.sig = 0
    · rw [if_neg (by simpa using h2)] at hr
      rw [h2] at HV
      obtain ⟨hs40, hasc, _⟩ := Nf.alpha_asc h2
      have HI := Sp.hid (isNet_any _ n (HN.out.below hb0) (by omega) hasc)
      have HA := Sp.hid (fun (w2 : World) (hb : Below w.heap.size w w2) => isAcceptor_any w2 n (HN.out.below hb))
      have Hblk := Sp.hid (show (w.alloc (.cells n.cells 26)).heap[w.heap.size]? = some (.cells n.cells 26 (0, 0)) by show (w.heap.push _)[w.heap.size]? = _; simp)
      generalize Nf.netOk n = p at HI hr
      generalize Nf.accOk n = q at HA hr
      clear hla hle hls hv HN h1 h2 hasc hs40
      obtain ⟨so, sn, scap, sig, st, ao, an, acap, arcs, eo, en, ecap, ends⟩ := n
      unfold Nf.Net.val at *
      simp only [Nf.Net.cells] at *
      cases p with
      | false =>
        rw [if_pos rfl] at hr
        subst hr
        go_enter Try.func13, Try.ntmps13
        go_wp2_with fail
        refine HV.out.mono ?_
        rintro e w2 ⟨rfl, rfl⟩
        go_wp2_with fail
        refine HI.out.mono ?_
        rintro e w3 ⟨rfl, hb3⟩
        have Hb3 := Sp.hid (hb0.trans (hb3.mono hb0.size))
        clear hb3
        go_wp2_with fail
        go_ret
        exact ⟨rfl, Hb3.out⟩
      | true =>
        rw [if_neg (by simp)] at hr
        go_enter Try.func13, Try.ntmps13
        go_wp2_with fail
        refine HV.out.mono ?_
        rintro e w2 ⟨rfl, rfl⟩
        go_wp2_with fail
        refine HI.out.mono ?_
        rintro e w3 ⟨rfl, hb3⟩
        have hblk3 := Nf.blk_below Hblk.out hb3 (by simp)
        have d0 : w3.cell? ⟨w.heap.size, 0, none⟩ = some (.slice so sn scap) := Nf.blk_cell (i := 0) hblk3 rfl
        have d1 : w3.cell? ⟨w.heap.size, 1, none⟩ = some (.int .i64 st) := Nf.blk_cell (i := 1) hblk3 rfl
        have d2 : w3.cell? ⟨w.heap.size, 2, none⟩ = some (.slice ao an acap) := Nf.blk_cell (i := 2) hblk3 rfl
        have d3 : w3.cell? ⟨w.heap.size, 3, none⟩ = some (.slice eo en ecap) := Nf.blk_cell (i := 3) hblk3 rfl
        have Hb3 := Sp.hid (hb0.trans (hb3.mono hb0.size))
        clear hb3 hblk3
        have HA3 := Sp.hid (HA.out w3 Hb3.out)
        cases q with
        | false =>
          rw [if_pos rfl] at hr
          subst hr
          go_wp2_with fail
          refine HA3.out.mono ?_
          rintro e w4 ⟨rfl, hb4⟩
          have Hb4 := Sp.hid (Hb3.out.trans (hb4.mono Hb3.out.size))
          clear hb4
          go_wp2_with fail
          go_ret
          exact ⟨rfl, Hb4.out⟩
        | true =>
          rw [if_neg (by simp)] at hr
          subst hr
          go_wp2_with fail
          refine HA3.out.mono ?_
          rintro e w4 ⟨rfl, hb4⟩
          have Hb4 := Sp.hid (Hb3.out.trans (hb4.mono Hb3.out.size))
          clear hb4
          go_wp2_with fail
          go_ret
          exact ⟨rfl, Hb4.out⟩
    · rw [if_pos h2] at hr
      rw [hr] at HV h2
      have h3 : (r != 0) = true := by simpa using h2
      clear hla hle hls hv HN h1 h2 hr
      obtain ⟨so, sn, scap, sig, st, ao, an, acap, arcs, eo, en, ecap, ends⟩ := n
      unfold Nf.Net.val
      simp only [Nf.Net.cells] at *
      go_enter Try.func13, Try.ntmps13
      go_wp2_with fail
      refine HV.out.mono ?_
      rintro e w2 ⟨rfl, rfl⟩
      go_wp2_with fail
      go_ret
      exact ⟨rfl, hb0⟩

end Go.Proofs.Ytnaojfhhjknejaa
