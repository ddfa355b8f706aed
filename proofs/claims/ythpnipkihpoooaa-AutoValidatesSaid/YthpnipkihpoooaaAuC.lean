/-
  The walks of back, before, begin.
-/
import Derived.Test.YthpnipkihpoooaaAuB
import Derived.Test.YthpnipkihpoooaaAuGr
set_option linter.unusedVariables false
namespace Go.Proofs.Ythpnipkihpoooaa
open Go.RowKit

theorem Nf.poolType : (Try.prog.info? 128).map (·.size) = some 2 := by kernel_rfl

set_option maxHeartbeats 1000000 in
set_option maxRecDepth 100000 in
theorem back_any (w : World) (gb : Nat) (v : Nf.Gv) (g : Nf.Gr) (ts : List Nf.TabV) (ao : Option Addr) (k cap : Nat) (hG : Nf.GrAt w gb v g)
    (hs : Nf.Seq (Nf.tabVal g.N) w ao k ts) (hk : k ≤ 100) (ht : ∀ t ∈ ts, Nf.TabAt w t.B g.N t.R) (hlt : ∀ t ∈ ts, ∀ p, p < g.N → ∀ q ∈ t.R p, q < g.N) :
    Calls Try.prog 68 #[.pointer (some ⟨gb, 0, none⟩), .slice ao k cap] w (Nf.SetPost g.N (fun q => ∃ p, p ∈ g.ends ∧ Nf.Star (Nf.Rel (ts.map Nf.TabV.R)) p q) w) := by
  obtain ⟨i0, hi, hz0, hz1, hz2⟩ := info_parts Nf.boolInfo
  have hN := hG.small
  have hB := hG.blk
  have c1 : w.cell? ⟨gb, 1, none⟩ = some (.slice (some ⟨v.eb, 0, none⟩) g.N g.N) := Nf.blk_cell (i := 1) hB rfl
  have hgl := Nf.blk_lt hB
  have hgl2 : gb < w.heap.size + 1 := by omega
  have HG := Sp.hid hG
  have Hs := Sp.hid hs
  have Ht := Sp.hid ht
  have Hlt := Sp.hid hlt
  have Hp0 := Sp.hid (Nf.pool_new w g.N (by omega))
  clear hG hB hs ht hlt
  go_enter Try.func68, Try.ntmps68
  go_wp2_with (at_make; refine wpList_make_row _ rfl _ _ 65 rfl 4 i0 (.bool false) Try.underlying65 hi hz0 hz1 rfl _ _ g.N rfl rfl ?c1 ?c2 ?_)
  case c1 => rw [hz2]; omega
  case c2 => omega
  have b0 : Below w.heap.size w ((w.alloc (.cells (madeCells #[.bool false] g.N) 4)).alloc (.cells #[.slice (some ⟨w.heap.size, 0, none⟩) g.N g.N, .slice none 0 0] 128)) := ((Below.refl _ w).alloc (Nat.le_refl _) _).alloc (by simp) _
  obtain ⟨w1, hw1⟩ : ∃ w1, ((w.alloc (.cells (madeCells #[.bool false] g.N) 4)).alloc (.cells #[.slice (some ⟨w.heap.size, 0, none⟩) g.N g.N, .slice none 0 0] 128)) = w1 := ⟨_, rfl⟩
  rw [hw1] at b0 Hp0 ⊢
  have B0 := Sp.hid b0
  clear hw1 b0
  go_loopw [6, 7, 20] (fun _ _ i wr => ∃ (q : Nat) (L : List Nat), i = .int .i64 q ∧ q ≤ g.N ∧ Nf.PoolAt wr w.heap.size (w.heap.size + 1) g.N L ∧ Nf.PF w.heap.size w1 wr ∧ ∀ x, x ∈ L ↔ x ∈ g.ends ∧ x < q) (fun _ _ i _ => g.N - (intOf i).toNat)
  case atStart => exact ⟨0, [], rfl, Nat.zero_le _, Hp0.out, Nf.PF.refl _ _, fun x => by simp⟩
  case round =>
    obtain ⟨q, L, rfl, hq, hpool, hpf, hL⟩ := hrel
    have Hpool := Sp.hid hpool
    have Hpf := Sp.hid hpf
    have HL := Sp.hid hL
    have Hbel := Sp.hid (B0.out.trans hpf.below)
    have hsz := Hbel.out.size
    clear hpool hpf hL
    by_cases hqn : q < g.N
    · have hc := (HG.out.below Hbel.out).ends q hqn
      by_cases hqe : q ∈ g.ends
      · rw [Nf.bl_true hqe] at hc
        have HA := Sp.hid (add_any w.heap.size (w.heap.size + 1) g.N q L wr Hpool.out hqn (by omega))
        have Hqe := Sp.hid hqe
        clear hqe
        go_wp2_with fail
        refine HA.out.mono ?_
        rintro e w5 ⟨rfl, hpool5, hpf5⟩
        have Hpool5 := Sp.hid hpool5
        have Hpf5 := Sp.hid hpf5
        clear hpool5 hpf5
        go_wp2_with fail
        go_roundw
        case rel =>
          refine ⟨q + 1, _, by go_num, hqn, Hpool5.out, Hpf.out.trans Hpf5.out, fun x => ?_⟩
          rw [Nf.mem_ins, HL.out]
          constructor
          · rintro (⟨h1, h2⟩ | rfl)
            · exact ⟨h1, by omega⟩
            · exact ⟨Hqe.out, by omega⟩
          · rintro ⟨h1, h2⟩
            by_cases e : x = q
            · exact .inr e
            · exact .inl ⟨h1, by omega⟩
        case measure => simp [intOf]; omega
      · rw [Nf.bl_false hqe] at hc
        have Hqe := Sp.hid hqe
        clear hqe
        go_wp2_with fail
        go_roundw
        case rel =>
          refine ⟨q + 1, L, by go_num, hqn, Hpool.out, Hpf.out, fun x => ?_⟩
          rw [HL.out]
          constructor
          · rintro ⟨h1, h2⟩; exact ⟨h1, by omega⟩
          · rintro ⟨h1, h2⟩
            by_cases e : x = q
            · exact absurd (e ▸ h1) Hqe.out
            · exact ⟨h1, by omega⟩
        case measure => simp [intOf]; omega
    · have hsafe : ∀ a, ao = some a → 0 < k → Nf.Safe w.heap.size wr a.block := fun a ha hk0 => .inl (by
        obtain ⟨b, off, e, hcc⟩ := Hs.out.2.2 hk0
        rw [e] at ha; cases ha
        have hl := Hs.out.1
        exact World.block_lt_of_cell? w _ (hcc 0 (ts[0]'(by omega)) (by simp)))
      have HF := Sp.hid (follow_any w wr (w.heap.size + 1) g.N L ts ao k cap Hbel.out Hpool.out (Hs.out.below Hbel.out) hsafe hk Ht.out Hlt.out)
      clear hsafe
      have hqN : q = g.N := by omega
      have HqN := Sp.hid hqN
      clear hqN
      go_wp2_with fail
      refine HF.out.mono ?_
      rintro e w5 ⟨rfl, hpf5, L5, hpool5, hfol5⟩
      have Hfol5 := Sp.hid hfol5
      have Hbel5 := Sp.hid (Hbel.out.trans hpf5.below)
      obtain ⟨_, _, _, hb5, lv5, _, hP5, hv5, _⟩ := hpool5
      have c5 : w5.cell? ⟨w.heap.size + 1, 0, none⟩ = some (.slice (some ⟨hb5, 0, none⟩) g.N g.N) := Nf.blk_cell (i := 0) hP5 rfl
      have Hv5 := Sp.hid hv5
      clear hfol5 hpf5 hP5 hv5
      go_wp2_with fail
      go_ret
      refine ⟨hb5, rfl, Nf.BoolsT.of Hv5.out fun x hx => ?_, Hbel5.out⟩
      rw [Hv5.out.cell hx, Nf.bl_decide]
      congr 2
      apply Nf.bl_congr
      rw [Hfol5.out.mem (Nat.le_refl _) x]
      constructor
      · rintro ⟨p, hp, hs⟩; exact ⟨p, ((HL.out p).1 hp).1, hs⟩
      · rintro ⟨p, hp, hs⟩; exact ⟨p, (HL.out p).2 ⟨hp, by rw [HqN.out]; exact HG.out.ok.end_ p hp⟩, hs⟩


theorem Nf.rel_be {w : World} {gb : Nat} {v : Nf.Gv} {g : Nf.Gr} (hG : Nf.GrAt w gb v g) {p q : Nat} : Nf.Star (Nf.Rel [v.Be]) p q ↔ Nf.Star (Nf.E g) q p :=
  ⟨fun h => h.rev (fun a b ⟨R, hR, hb⟩ => by simp at hR; subst hR; exact (hG.be_iff a b).1 hb), fun h => h.rev (fun a b hab => ⟨v.Be, by simp, (hG.be_iff b a).2 hab⟩)⟩
theorem Nf.rel_em {w : World} {gb : Nat} {v : Nf.Gv} {g : Nf.Gr} (hG : Nf.GrAt w gb v g) {p q : Nat} : Nf.Star (Nf.Rel [v.Em]) p q ↔ Nf.Star (Nf.E g) p q :=
  ⟨fun h => h.mono (fun a b ⟨R, hR, hb⟩ => by simp at hR; subst hR; exact (hG.em_iff a b).1 hb), fun h => h.mono (fun a b hab => ⟨v.Em, by simp, (hG.em_iff a b).2 hab⟩)⟩
theorem Nf.rel_any {w : World} {gb : Nat} {v : Nf.Gv} {g : Nf.Gr} (hG : Nf.GrAt w gb v g) {p q : Nat} : Nf.Star (Nf.Rel [v.Be, v.Bm]) p q ↔ Nf.Star (Nf.Any g) q p := by
  constructor
  · intro h
    refine h.rev (fun a b ⟨R, hR, hb⟩ => ?_)
    simp at hR
    rcases hR with rfl | rfl
    · exact ⟨Nf.eps, (hG.be_iff a b).1 hb⟩
    · obtain ⟨s, _, hs⟩ := (hG.bm_iff a b).1 hb
      exact ⟨s, hs⟩
  · intro h
    refine h.rev (fun a b ⟨s, hs⟩ => ?_)
    by_cases e : s = Nf.eps
    · subst e; exact ⟨v.Be, by simp, (hG.be_iff b a).2 hs⟩
    · exact ⟨v.Bm, by simp, (hG.bm_iff b a).2 ⟨s, e, hs⟩⟩

set_option maxHeartbeats 1000000 in
set_option maxRecDepth 100000 in
theorem before_any (w : World) (gb mb : Nat) (v : Nf.Gv) (g : Nf.Gr) (S : Nat → Prop) (hG : Nf.GrAt w gb v g) (hM : Nf.BoolsAt w mb g.N S) :
    Calls Try.prog 73 #[.pointer (some ⟨gb, 0, none⟩), .slice (some ⟨mb, 0, none⟩) g.N g.N] w (Nf.SetPost g.N (Nf.Before g S) w) := by
  obtain ⟨i0, hi, hz0, hz1, hz2⟩ := info_parts Nf.boolInfo
  have hN := hG.small
  have HG := Sp.hid hG
  have HM := Sp.hid hM
  have Hp0 := Sp.hid (Nf.pool_new w g.N (by omega))
  clear hG hM
  go_enter Try.func73, Try.ntmps73
  go_wp2_with (at_make; refine wpList_make_row _ rfl _ _ 65 rfl 4 i0 (.bool false) Try.underlying65 hi hz0 hz1 rfl _ _ g.N rfl rfl ?c1 ?c2 ?_)
  case c1 => rw [hz2]; omega
  case c2 => omega
  have b0 : Below w.heap.size w ((w.alloc (.cells (madeCells #[.bool false] g.N) 4)).alloc (.cells #[.slice (some ⟨w.heap.size, 0, none⟩) g.N g.N, .slice none 0 0] 128)) := ((Below.refl _ w).alloc (Nat.le_refl _) _).alloc (by simp) _
  obtain ⟨w1, hw1⟩ : ∃ w1, ((w.alloc (.cells (madeCells #[.bool false] g.N) 4)).alloc (.cells #[.slice (some ⟨w.heap.size, 0, none⟩) g.N g.N, .slice none 0 0] 128)) = w1 := ⟨_, rfl⟩
  rw [hw1] at b0 Hp0 ⊢
  have B0 := Sp.hid b0
  clear hw1 b0
  go_loopw [6, 7, 9, 16] (fun _ _ _ i wr => ∃ (q : Nat) (L : List Nat), i = .int .i64 q ∧ q ≤ g.N ∧ Nf.PoolAt wr w.heap.size (w.heap.size + 1) g.N L ∧ Nf.PF w.heap.size w1 wr ∧ ∀ x, x ∈ L ↔ ∃ r, r < q ∧ S r ∧ x ∈ v.Bm r) (fun _ _ _ i _ => g.N - (intOf i).toNat)
  case atStart => exact ⟨0, [], rfl, Nat.zero_le _, Hp0.out, Nf.PF.refl _ _, fun x => by simp⟩
  case round =>
    obtain ⟨q, L, rfl, hq, hpool, hpf, hL⟩ := hrel
    have Hpool := Sp.hid hpool
    have Hpf := Sp.hid hpf
    have HL := Sp.hid hL
    have Hbel := Sp.hid (B0.out.trans hpf.below)
    have hsz := Hbel.out.size
    clear hpool hpf hL
    by_cases hqn : q < g.N
    · have hc := (HM.out.below Hbel.out) q hqn
      by_cases hqe : S q
      · rw [Nf.bl_true hqe] at hc
        have hG2 := HG.out.below Hbel.out
        have c4 : wr.cell? ⟨gb, 4, none⟩ = some (.slice (some ⟨v.yb, 0, none⟩) g.N g.N) := Nf.blk_cell (i := 4) hG2.blk rfl
        obtain ⟨ro, rn, rcap, hcr0, hrow, hrn⟩ := HG.out.bmv q hqn
        have hcr : wr.cell? ⟨v.yb, q, none⟩ = some (.slice ro rn rcap) := by rw [Hbel.out.cell (World.block_lt_of_cell? w _ hcr0)]; exact hcr0
        have Hrow := Sp.hid hrow
        have hrl := Sp.hid hrow.1
        have Hqe := Sp.hid hqe
        obtain ⟨wo, rfl⟩ : ∃ wo : World, wo = wr := ⟨_, rfl⟩
        clear hqe hG2 hcr0 hrow
        go_wp2_with fail
        go_loopw [30] (fun x wr => ∃ (m : Nat) (L3 : List Nat), x = .int .i64 m ∧ m ≤ rn ∧ Nf.PoolAt wr w.heap.size (w.heap.size + 1) g.N L3 ∧ Nf.PF w.heap.size w1 wr ∧ ∀ x, x ∈ L3 ↔ x ∈ L ∨ x ∈ (v.Bm q).take m) (fun x _ => rn - (intOf x).toNat)
        case atStart => exact ⟨0, L, rfl, Nat.zero_le _, Hpool.out, Hpf.out, fun x => by simp⟩
        case round =>
          obtain ⟨m, L3, rfl, hmr, hpool3, hpf3, hL3⟩ := hrel
          have Hpool3 := Sp.hid hpool3
          have Hpf3 := Sp.hid hpf3
          have HL3 := Sp.hid hL3
          have Hbel3 := Sp.hid (B0.out.trans hpf3.below)
          have hsz3 := Hbel3.out.size
          clear hpool3 hpf3 hL3
          by_cases hmn : m < rn
          · obtain ⟨rb, rof, y, rfl, hcq, hy, hty⟩ := (Hrow.out.below Hbel3.out).at hmn
            have hyn : y < g.N := HG.out.bm_lt q hqn y (List.mem_of_getElem? hy)
            have HA := Sp.hid (add_any w.heap.size (w.heap.size + 1) g.N y L3 wr Hpool3.out hyn (by omega))
            have Hty := Sp.hid hty
            simp only [Nf.num] at hcq
            clear hy hty
            go_wp2_with fail
            refine HA.out.mono ?_
            rintro e w5 ⟨rfl, hpool5, hpf5⟩
            have Hpool5 := Sp.hid hpool5
            have Hpf5 := Sp.hid hpf5
            clear hpool5 hpf5
            go_wp2_with fail
            go_roundw
            case rel => exact ⟨m + 1, _, by go_num, hmn, Hpool5.out, Hpf3.out.trans Hpf5.out, fun x => by rw [Nf.mem_ins, HL3.out, Hty.out, List.mem_append, List.mem_singleton, or_assoc]⟩
            case measure => simp [intOf]; omega
          · have hmr' := Sp.hid (show (v.Bm q).take m = v.Bm q from List.take_of_length_le (by have := hrl.out; omega))
            go_wp2_with fail
            go_roundw
            case rel =>
              refine ⟨q + 1, L3, by go_num, hqn, Hpool3.out, Hpf3.out, fun x => ?_⟩
              rw [HL3.out, HL.out, hmr'.out]
              constructor
              · rintro (⟨r, h1, h2⟩ | h)
                · exact ⟨r, by omega, h2⟩
                · exact ⟨q, by omega, Hqe.out, h⟩
              · rintro ⟨r, h1, h2, h3⟩
                by_cases e : r = q
                · subst e; exact .inr h3
                · exact .inl ⟨r, by omega, h2, h3⟩
            case measure => simp [intOf]; omega
      · rw [Nf.bl_false hqe] at hc
        have Hqe := Sp.hid hqe
        clear hqe
        go_wp2_with fail
        go_roundw
        case rel =>
          refine ⟨q + 1, L, by go_num, hqn, Hpool.out, Hpf.out, fun x => ?_⟩
          rw [HL.out]
          constructor
          · rintro ⟨r, h1, h2⟩; exact ⟨r, by omega, h2⟩
          · rintro ⟨r, h1, h2, h3⟩
            by_cases e : r = q
            · exact absurd (e ▸ h2) Hqe.out
            · exact ⟨r, by omega, h2, h3⟩
        case measure => simp [intOf]; omega
    · have hqN : q = g.N := by omega
      have HqN := Sp.hid hqN
      have hG2 := HG.out.below Hbel.out
      have c5 : wr.cell? ⟨gb, 5, none⟩ = some (.slice (some ⟨v.zb, 0, none⟩) g.N g.N) := Nf.blk_cell (i := 5) hG2.blk rfl
      have hpl : Nf.PoolAt (wr.alloc (.cells #[.slice (some ⟨v.zb, 0, none⟩) g.N g.N] 67)) w.heap.size (w.heap.size + 1) g.N L := Hpool.out.alloc _
      have hbl : Below w.heap.size w (wr.alloc (.cells #[.slice (some ⟨v.zb, 0, none⟩) g.N g.N] 67)) := Hbel.out.alloc hsz _
      have hsq : Nf.Seq (Nf.tabVal g.N) (wr.alloc (.cells #[.slice (some ⟨v.zb, 0, none⟩) g.N g.N] 67)) (some ⟨wr.heap.size, 0, none⟩) 1 [⟨v.zb, v.Be⟩] := Nf.seq_one (Nf.tabVal g.N) wr ⟨v.zb, v.Be⟩ 67
      have hsafe : ∀ a, some (⟨wr.heap.size, 0, none⟩ : Addr) = some a → 0 < 1 → Nf.Safe w.heap.size (wr.alloc (.cells #[.slice (some ⟨v.zb, 0, none⟩) g.N g.N] 67)) a.block := fun a ha _ => by
        cases ha
        exact .inr ⟨_, _, _, Nf.Below.heap_new _ _, by unfold Nf.Kind; decide⟩
      have HF := Sp.hid (follow_any w _ (w.heap.size + 1) g.N L [⟨v.zb, v.Be⟩] (some ⟨wr.heap.size, 0, none⟩) 1 1 hbl hpl hsq hsafe (by omega) (by intro t ht; simp at ht; subst ht; exact HG.out.bem) (by intro t ht; simp at ht; subst ht; exact HG.out.be_lt))
      have HB := Sp.hid hbl
      clear hsafe hqN hG2 hpl hbl hsq
      go_wp2_with fail
      refine HF.out.mono ?_
      rintro e w5 ⟨rfl, hpf5, L5, hpool5, hfol5⟩
      have Hfol5 := Sp.hid hfol5
      have Hbel5 := Sp.hid (HB.out.trans hpf5.below)
      obtain ⟨_, _, _, hb5, lv5, _, hP5, hv5, _⟩ := hpool5
      have c6 : w5.cell? ⟨w.heap.size + 1, 0, none⟩ = some (.slice (some ⟨hb5, 0, none⟩) g.N g.N) := Nf.blk_cell (i := 0) hP5 rfl
      have Hv5 := Sp.hid hv5
      clear hfol5 hpf5 hP5 hv5
      go_wp2_with fail
      go_ret
      refine ⟨hb5, rfl, Nf.BoolsT.of Hv5.out fun x hx => ?_, Hbel5.out⟩
      rw [Hv5.out.cell hx, Nf.bl_decide]
      congr 2
      apply Nf.bl_congr
      rw [Hfol5.out.mem (Nat.le_refl _) x]
      constructor
      · rintro ⟨p, hp, hs⟩
        obtain ⟨r, _, h2, h3⟩ := (HL.out p).1 hp
        exact ⟨p, r, (Nf.rel_be HG.out).1 hs, (HG.out.bm_iff r p).1 h3, h2⟩
      · rintro ⟨p, r, hs, hm, h2⟩
        obtain ⟨s, hs1, hs2⟩ := hm
        exact ⟨p, (HL.out p).2 ⟨r, by rw [HqN.out]; exact HG.out.ok.to_ _ hs2, h2, (HG.out.bm_iff r p).2 ⟨s, hs1, hs2⟩⟩, (Nf.rel_be HG.out).2 hs⟩

end Go.Proofs.Ythpnipkihpoooaa
