/-
  The walk of the comparison of two nets, equal ones.
-/
import Derived.Test.YtpoblcmjfcpiaaaGreatMgAuZAuZaAuKnAuLa
set_option linter.unusedVariables false
set_option linter.unusedSimpArgs false
namespace Go.Proofs.YtpoblcmjfcpiaaaGreat
open Go.RowKit

set_option maxHeartbeats 4000000 in
set_option maxRecDepth 100000 in
theorem sameNet_any (w : World) (n m : Nf.Net) (hn : Nf.NetAt w n) (hm : Nf.NetAt w m) (e1 : n.sig = m.sig) (e2 : n.st = m.st) (e3 : n.arcs = m.arcs) (e4 : n.ends = m.ends) :
    Calls Tryz.prog 24 #[n.val, m.val] w (fun e w' => e = .returned (.bool true) ∧ Below w.heap.size w w') := by
  obtain ⟨so, sn, scap, sig, st, ao, an, acap, arcs, eo, en, ecap, ends⟩ := n
  obtain ⟨so2, sn2, scap2, sig2, st2, ao2, an2, acap2, arcs2, eo2, en2, ecap2, ends2⟩ := m
  simp only at e1 e2 e3 e4
  subst e1; subst e2; subst e3; subst e4
  have s1 : sn2 = sn := hm.sig.1.symm.trans hn.sig.1
  have s2 : an2 = an := hm.arcs.1.symm.trans hn.arcs.1
  have s3 : en2 = en := hm.ends.1.symm.trans hn.ends.1
  subst s1; subst s2; subst s3
  have hsn : sn2 ≤ 9223372036854775807 := hn.sig.2.1
  have han : an2 ≤ 2600000000000 := hn.arcs.2.1
  have hen : en2 ≤ 9000000000000 := hn.ends.2.1
  have HN := Sp.hid hn
  have HM := Sp.hid hm
  unfold Nf.Net.val
  simp only [Nf.Net.cells] at *
  have m1 : (w.alloc (.cells #[.slice so sn2 scap, .int .i64 st, .slice ao an2 acap, .slice eo en2 ecap] 26)).heap.size = w.heap.size + 1 := by simp
  have nB : ((w.alloc (.cells #[.slice so sn2 scap, .int .i64 st, .slice ao an2 acap, .slice eo en2 ecap] 26)).alloc (.cells #[.slice so2 sn2 scap2, .int .i64 st, .slice ao2 an2 acap2, .slice eo2 en2 ecap2] 26)).heap[w.heap.size]? = some (.cells #[.slice so sn2 scap, .int .i64 st, .slice ao an2 acap, .slice eo en2 ecap] 26 (0, 0)) := Nf.blk_alloc (Nf.Below.heap_new w _) _
  have nR := Nf.Below.heap_new (w.alloc (.cells #[.slice so sn2 scap, .int .i64 st, .slice ao an2 acap, .slice eo en2 ecap] 26)) (.cells #[.slice so2 sn2 scap2, .int .i64 st, .slice ao2 an2 acap2, .slice eo2 en2 ecap2] 26)
  rw [m1] at nR
  have b01 : Below w.heap.size w ((w.alloc (.cells #[.slice so sn2 scap, .int .i64 st, .slice ao an2 acap, .slice eo en2 ecap] 26)).alloc (.cells #[.slice so2 sn2 scap2, .int .i64 st, .slice ao2 an2 acap2, .slice eo2 en2 ecap2] 26)) := ((Below.refl _ w).alloc (Nat.le_refl _) _).alloc (by simp) _
  have NB := Sp.hid nB
  have NR := Sp.hid nR
  have B01 := Sp.hid b01
  have hneS : ((sn2 : Int) != (sn2 : Int)) = false := by simp
  have hneT : ((st : Int) != (st : Int)) = false := by simp
  have hneA : ((an2 : Int) != (an2 : Int)) = false := by simp
  have hneE : ((en2 : Int) != (en2 : Int)) = false := by simp
  clear hn hm m1 nB nR b01
  go_enter Tryz.func24, Tryz.ntmps24
  go_wp2_with fail
  obtain ⟨w1, hw1⟩ : ∃ w1, ((w.alloc (.cells #[.slice so sn2 scap, .int .i64 st, .slice ao an2 acap, .slice eo en2 ecap] 26)).alloc (.cells #[.slice so2 sn2 scap2, .int .i64 st, .slice ao2 an2 acap2, .slice eo2 en2 ecap2] 26)) = w1 := ⟨_, rfl⟩
  rw [hw1] at NB NR B01 ⊢
  clear hw1
  obtain ⟨B, hB⟩ : ∃ B, w.heap.size = B := ⟨_, rfl⟩
  obtain ⟨R, hR⟩ : ∃ R, B + 1 = R := ⟨_, rfl⟩
  rw [hB] at NB NR ⊢
  rw [hR] at NR ⊢
  have HB := Sp.hid hB
  clear hB hR
  have hcells : ∀ wr, Below w1.heap.size w1 wr → wr.cell? ⟨B, 0, none⟩ = some (.slice so sn2 scap) ∧ wr.cell? ⟨B, 2, none⟩ = some (.slice ao an2 acap) ∧ wr.cell? ⟨B, 3, none⟩ = some (.slice eo en2 ecap) ∧ wr.cell? ⟨R, 0, none⟩ = some (.slice so2 sn2 scap2) ∧ wr.cell? ⟨R, 2, none⟩ = some (.slice ao2 an2 acap2) ∧ wr.cell? ⟨R, 3, none⟩ = some (.slice eo2 en2 ecap2) := fun wr h => by
    have x1 := Nf.blk_below NB.out h (Nf.blk_lt NB.out)
    have x2 := Nf.blk_below NR.out h (Nf.blk_lt NR.out)
    exact ⟨Nf.blk_cell (i := 0) x1 rfl, Nf.blk_cell (i := 2) x1 rfl, Nf.blk_cell (i := 3) x1 rfl, Nf.blk_cell (i := 0) x2 rfl, Nf.blk_cell (i := 2) x2 rfl, Nf.blk_cell (i := 3) x2 rfl⟩
  have Hcells := Sp.hid hcells
  clear hcells
  go_loopw [5] (fun i wr => ∃ (k : Nat), i = .int .i64 k ∧ k ≤ sn2 ∧ Below w1.heap.size w1 wr) (fun i _ => sn2 - (intOf i).toNat)
  case atStart => exact ⟨0, rfl, Nat.zero_le _, Below.refl _ _⟩
  case round =>
    obtain ⟨k, rfl, hk, hb⟩ := hrel
    obtain ⟨c0, c2, c3, c4, c5, c6⟩ := Hcells.out wr hb
    have Hb := Sp.hid hb
    clear hb
    by_cases hks : k < sn2
    · have hbw := B01.out.trans (Hb.out.mono B01.out.size)
      obtain ⟨b, off, s, rfl, hc, hsz, hls, _⟩ := (HN.out.sig.below hbw).at hks
      obtain ⟨b', off', s', rfl, hc', hsz', hls', _⟩ := (HM.out.sig.below hbw).at hks
      rw [hls] at hls'
      injection hls' with hls'
      subst hls'
      have i1 : (0 : Int) ≤ (k : Int) := by omega
      have i2 : (k : Int) < (sn2 : Int) := by omega
      clear hbw hls
      go_wp2_with fail
      go_quiet (fail)
      clear i1 i2
      go_wp2_with fail
      go_roundw
      case rel => exact ⟨k + 1, by go_num, hks, Hb.out.trans ⟨rfl, rfl, rfl, Nat.le_refl _, fun _ _ => rfl⟩⟩
      case measure => simp [intOf]; omega
    · clear c0 c2 c3 c4 c5 c6
      obtain ⟨c0, c2, c3, c4, c5, c6⟩ := Hcells.out wr Hb.out
      obtain ⟨w2, rfl⟩ : ∃ w2 : World, w2 = wr := ⟨_, rfl⟩
      go_wp2_with fail
      go_loopw [6] (fun i wr => ∃ (k : Nat), i = .int .i64 k ∧ k ≤ an2 ∧ Below w1.heap.size w1 wr) (fun i _ => an2 - (intOf i).toNat)
      case atStart => exact ⟨0, rfl, Nat.zero_le _, Hb.out⟩
      case round =>
        clear Hb c0 c2 c3 c4 c5 c6 hks
        obtain ⟨k, rfl, hk, hb⟩ := hrel
        obtain ⟨c0, c2, c3, c4, c5, c6⟩ := Hcells.out wr hb
        have Hb := Sp.hid hb
        clear hb
        by_cases hks : k < an2
        · have hbw := B01.out.trans (Hb.out.mono B01.out.size)
          obtain ⟨b, off, s, rfl, ⟨a0, a1, a2, a3, a4⟩, z1, z2, hls, _⟩ := (HN.out.arcs.below hbw).at hks
          obtain ⟨b', off', s', rfl, ⟨d0, d1, d2, d3, d4⟩, z3, z4, hls', _⟩ := (HM.out.arcs.below hbw).at hks
          rw [hls] at hls'
          injection hls' with hls'
          subst hls'
          have i1 : (0 : Int) ≤ (k : Int) := by omega
          have i2 : (k : Int) < (an2 : Int) := by omega
          clear hbw hls
          go_wp2_with fail
          go_quiet (fail)
          clear i1 i2
          go_wp2_with fail
          go_roundw
          case rel => exact ⟨k + 1, by go_num, hks, Hb.out.trans ⟨rfl, rfl, rfl, Nat.le_refl _, fun _ _ => rfl⟩⟩
          case measure => simp [intOf]; omega
        · obtain ⟨w2, rfl⟩ : ∃ w2 : World, w2 = wr := ⟨_, rfl⟩
          go_wp2_with fail
          go_loopw [7] (fun i wr => ∃ (k : Nat), i = .int .i64 k ∧ k ≤ en2 ∧ Below w1.heap.size w1 wr) (fun i _ => en2 - (intOf i).toNat)
          case atStart => exact ⟨0, rfl, Nat.zero_le _, Hb.out⟩
          case round =>
            clear Hb c0 c2 c3 c4 c5 c6 hks
            obtain ⟨k, rfl, hk, hb⟩ := hrel
            obtain ⟨c0, c2, c3, c4, c5, c6⟩ := Hcells.out wr hb
            have Hb := Sp.hid hb
            clear hb
            by_cases hks : k < en2
            · have hbw := B01.out.trans (Hb.out.mono B01.out.size)
              obtain ⟨b, off, s, rfl, ⟨a0, a1⟩, hls, _⟩ := (HN.out.ends.below hbw).at hks
              obtain ⟨b', off', s', rfl, ⟨d0, d1⟩, hls', _⟩ := (HM.out.ends.below hbw).at hks
              rw [hls] at hls'
              injection hls' with hls'
              subst hls'
              have i1 : (0 : Int) ≤ (k : Int) := by omega
              have i2 : (k : Int) < (en2 : Int) := by omega
              clear hbw hls
              go_wp2_with fail
              go_quiet (fail)
              clear i1 i2
              go_wp2_with fail
              go_roundw
              case rel => exact ⟨k + 1, by go_num, hks, Hb.out.trans ⟨rfl, rfl, rfl, Nat.le_refl _, fun _ _ => rfl⟩⟩
              case measure => simp [intOf]; omega
            · go_wp2_with fail
              go_ret
              exact ⟨rfl, B01.out.trans (Hb.out.mono B01.out.size)⟩
end Go.Proofs.YtpoblcmjfcpiaaaGreat
