/-
  The walk of the reference's lister: the words of a length that lead on from a set.
-/
import Derived.Test.YtpoblcmjfcpiaaaGreatMgWkPWkM
import Derived.Test.YtpoblcmjfcpiaaaGreatMgReClReSt
import Derived.Test.YtpoblcmjfcpiaaaGreatMgReKpReOw
import Derived.IntWalk
set_option linter.unusedVariables false
set_option linter.unusedSimpArgs false
namespace Go.Proofs.YtpoblcmjfcpiaaaGreat
open Go.RowKit
namespace Nf
theorem RowS.of_own {w : World} {b : Nat} {vo : Option Addr} {vn vc : Nat} {U : List ByteArray} (h : w.ownsRow b 9 1 (.slice vo vn vc) U.length (U.map Value.string)) (hm : U.length ≤ maxLen) (hs : ∀ s ∈ U, s.size ≤ maxLen) : RowS w ⟨vo, vn, vc, U⟩ := by
  obtain ⟨ao, cap, hv, hrow, _⟩ := row_of_own h hm hs
  injection hv with f1 f2 f3
  subst f1; subst f2; subst f3
  refine ⟨hrow, fun hn => ?_⟩
  rcases h.2 with ⟨_, h1⟩ | ⟨g, cap', cur, h0, _, hg, _⟩
  · exact absurd hn (by show ¬ 0 < U.length; omega)
  · injection h0 with g1 _ _
    exact ⟨⟨g, 0, none⟩, cur, g1, hg⟩
end Nf

set_option maxHeartbeats 32000000 in
set_option maxRecDepth 100000 in
theorem lwalk_any (w0 : World) (xb eb db N most cnt tb tcap : Nat) (R : Nat → List (ByteArray × Nat)) (g : Nf.Gr) (hG : Nf.RfAt w0 eb db R g) (hNe : g.N = N) (hmost : most ≤ 1000) (hcnt : cnt ≤ 61) :
    ∀ (k : Nat), k < cnt → ∀ (w : World) (els : List Lst) (lv sv uv : Value) (L : List Nat) (S : Nat → Prop) (U : List ByteArray) (b1 b2 : Nat),
      Nf.LsAt w w0.heap.size xb eb db N (.slice (some ⟨tb, 0, none⟩) cnt tcap) most els lv → Below w0.heap.size w0 w → Nf.ExAt w tb tcap cnt N g → w.ownsRow b1 3 1 sv L.length (L.map Nf.num) → Nf.Pool N L → (∀ q, q ∈ L ↔ S q) →
      w.ownsRow b2 9 1 uv U.length (U.map Value.string) → U.length + k ≤ 100 → (∀ s ∈ U, s.size ≤ maxLen) → els.length ≤ most + 1 →
      Calls Tryz.prog 73 #[.pointer (some ⟨xb, 0, none⟩), sv, uv, .int .i64 (k : Int)] w (Nf.WkPost w0.heap.size xb eb db N most (.slice (some ⟨tb, 0, none⟩) cnt tcap) els ((Nf.Wk g k S).map (U ++ ·)) w) := by
  obtain ⟨i0, hi, hz0, hz1, hz2⟩ := info_parts Nf.rowInfoS
  obtain ⟨j0, hj9, hy0, hy1, hy2⟩ := info_parts Nf.strInfo
  have HG := Sp.hid hG
  have hN := hG.small
  rw [hNe] at hN
  have HNe := Sp.hid hNe
  clear hG hNe
  intro k
  induction k using Nat.strongRecOn with
  | ind k ih =>
  intro hkc w els lv sv uv L S U b1 b2 hLs hB hEx hsv hpl hSm huv hUk hUsz hel
  obtain ⟨Wd, hWd⟩ : ∃ Wd, (Nf.Wk g k S).map (U ++ ·) = Wd := ⟨_, rfl⟩
  rw [hWd]
  have HWd := Sp.hid hWd
  have hp : Nf.WkPost w0.heap.size xb eb db N most (.slice (some ⟨tb, 0, none⟩) cnt tcap) els Wd w = fun e w' => e = .returned (.tuple #[]) ∧ ∃ (els' : List Lst) (lv' : Value), Hid (Nf.LsAt w' w0.heap.size xb eb db N (.slice (some ⟨tb, 0, none⟩) cnt tcap) most els' lv') ∧ Hid (Nf.TL w0.heap.size w w') ∧ Hid (Sp.lists els' = (Sp.lists els ++ Wd).take (most + 1)) := rfl
  rw [hp]
  obtain ⟨mb, mcp, cm, hmb⟩ := hEx.read hkc
  have hLl := hpl.len
  obtain ⟨so, scap, rfl, hseq, _⟩ := Nf.seq_of_own hsv (by unfold maxLen; omega)
  obtain ⟨uo, ucap, rfl, hurow, _⟩ := Nf.row_of_own huv (by unfold maxLen; omega) hUsz
  obtain ⟨lo, lcap, rfl, _, _⟩ := Nf.seq_of_own (en := Lst.val) hLs.lown (by unfold maxLen; omega)
  have x3 : w.cell? ⟨xb, 3, none⟩ = some (.slice (some ⟨tb, 0, none⟩) cnt tcap) := Nf.blk_cell (i := 3) hLs.xblk rfl
  have i1 : (0 : Int) ≤ (k : Int) := by omega
  have i2 : (k : Int) < (cnt : Int) := by omega
  have HKp := Sp.hid (kept_any w so L.length scap L mb N mcp (Nf.Ex g k) hseq hpl.lt hN hmb (by omega))
  have Hih := Sp.hid ih
  have HLs := Sp.hid hLs
  have HB := Sp.hid hB
  have HEx := Sp.hid hEx
  have Hur := Sp.hid hurow
  have Huv := Sp.hid huv
  have HUsz := Sp.hid hUsz
  have HL2 : Hid (Nf.Pool N (Nf.keep (Nf.Ex g k) L) ∧ ∀ q, q ∈ Nf.keep (Nf.Ex g k) L ↔ S q ∧ Nf.Ex g k q) := Sp.hid ⟨⟨List.Pairwise.filter _ hpl.nodup, fun q hq => hpl.lt q (Nf.mem_keep.1 hq).1⟩, fun q => by rw [Nf.mem_keep, hSm q]⟩
  have hlel : (Sp.lists els).length = els.length := by simp [Sp.lists]
  have Hlel := Sp.hid hlel
  clear ih hLs hB hEx hsv hpl hSm huv hUsz hp hmb hseq hurow hWd hlel
  go_enter Tryz.func73, Tryz.ntmps73
  go_wp2_with fail
  refine HKp.out.mono ?_
  rintro e w2 ⟨ko, kk, kc, rfl, hkl, hkown, hb2⟩
  obtain ⟨L2, hL2⟩ : ∃ L2, Nf.keep (Nf.Ex g k) L = L2 := ⟨_, rfl⟩
  rw [hL2] at hkl hkown HL2
  have hkN : kk ≤ N := by rw [← hkl]; exact HL2.out.1.len
  have Hkl := Sp.hid hkl
  have Hkown := Sp.hid hkown
  have HLs2 := Sp.hid (HLs.out.below hb2)
  have Hb2 := Sp.hid hb2
  have x4 : w2.cell? ⟨xb, 4, none⟩ = some (.int .i64 (most : Int)) := Nf.blk_cell (i := 4) HLs2.out.xblk rfl
  have x5 : w2.cell? ⟨xb, 5, none⟩ = some (.slice lo els.length lcap) := Nf.blk_cell (i := 5) HLs2.out.xblk rfl
  clear hkl hkown hb2 hL2 x3 cm HKp HLs
  by_cases hk0 : kk = 0
  · have hb0 : ((kk : Int) == 0) = true := by simp [hk0]
    have HE : Hid (Wd = []) := Sp.hid (by
      rw [← HWd.out, Nf.Wk_none (fun ⟨q, h1, h2⟩ => by
        have := List.length_pos_of_mem ((HL2.out.2 q).2 ⟨h1, h2⟩)
        have := Hkl.out
        omega)]
      rfl)
    clear hk0
    go_wp2_with fail
    go_quiet (fail)
    go_wp2_with fail
    (try simp only [Exit.inBlock, Exit.then])
    refine bodyPost_ret (results_none rfl _ _ _) rfl ?_
    exact ⟨rfl, els, _, Sp.hid (HLs2.out.below (below_drewN (Below.refl _ _) _)), Sp.hid (Nf.TL.of_below (below_drewN Hb2.out _) (by have := HB.out.size; omega)), Sp.hid (by rw [HE.out, List.append_nil, List.take_of_length_le (by rw [Hlel.out]; omega)])⟩
  · have hb0 : ((kk : Int) == 0) = false := by simp [hk0]
    have HkN := Sp.hid hk0
    by_cases hgt : most < els.length
    · have hb1 : decide ((els.length : Int) > (most : Int)) = true := by simp; omega
      have HE : Hid ((Sp.lists els ++ Wd).take (most + 1) = Sp.lists els) := Sp.hid (by
        rw [List.take_append_of_le_length (by rw [Hlel.out]; omega), List.take_of_length_le (by rw [Hlel.out]; omega)])
      clear hk0
      go_wp2_with fail
      go_quiet (fail)
      go_wp2_with fail
      (try simp only [Exit.inBlock, Exit.then])
      refine bodyPost_ret (results_none rfl _ _ _) rfl ?_
      exact ⟨rfl, els, _, Sp.hid (HLs2.out.below (below_drewN (Below.refl _ _) _)), Sp.hid (Nf.TL.of_below (below_drewN Hb2.out _) (by have := HB.out.size; omega)), Sp.hid HE.out.symm⟩
    · have hel2 : els.length ≤ most := by omega
      clear hk0 hel
      go_wp2_with fail
      go_quiet (fail)
      have HLs3 := Sp.hid (HLs2.out.below (below_drewN (Below.refl w2.heap.size w2) nq))
      have Hb3 : Hid (Below w.heap.size w (w2.drewN nq)) := Sp.hid (below_drewN Hb2.out _)
      have Hk3 : Hid ((w2.drewN nq).ownsRow w.heap.size 3 1 (.slice ko kk kc) kk (L2.map Nf.num)) := Sp.hid Hkown.out
      obtain ⟨w3, hw3⟩ : ∃ w3, w2.drewN nq = w3 := ⟨_, rfl⟩
      rw [hw3] at HLs3 Hb3 Hk3 ⊢
      clear hw3 x4 x5 HLs2 Hkown Hb2 hb0 hgt
      have hw03 : w0.heap.size ≤ w.heap.size := HB.out.size
      by_cases hz : k = 0
      · have hb2 : ((k : Int) == 0) = true := by simp [hz]
        have HE : Hid (Wd = [U]) := Sp.hid (by
          have hl := Hkl.out
          have hpos : 0 < L2.length := by have := HkN.out; omega
          obtain ⟨q, hq⟩ := List.exists_mem_of_length_pos hpos
          obtain ⟨h1, h2⟩ := (HL2.out.2 q).1 hq
          rw [← HWd.out, hz]
          rw [hz] at h2
          rw [Nf.Wk_zero ⟨q, h1, h2⟩]
          simp)
        clear hz
        have y5 : w3.cell? ⟨xb, 5, none⟩ = some (.slice lo els.length lcap) := Nf.blk_cell (i := 5) HLs3.out.xblk rfl
        have Hur3 := Sp.hid (Hur.out.below Hb3.out)
        go_wp2_with fail
        refine Open.begin (S := fun w' => w'.cell? ⟨xb, 5, none⟩ = some (.slice lo els.length lcap)) (z := 11) (by kernel_rfl) ?_
        have HS : w3.drew.cell? ⟨xb, 5, none⟩ = some (.slice lo els.length lcap) := y5
        refine Open.take (i := 0) (v := ?_) rfl (by kernel_rfl) (by kernel_rfl) (by kernel_rfl) (by kernel_rfl) (fun _ _ _ h => h) HS (Or.inl ⟨rfl, ?_⟩) ?_
        rotate_left
        · intro w' k1
          go_simp
          try rfl
        simp only [List.getElem_toArray, List.getElem_cons_zero, List.getElem_cons_succ, Act.put, List.setIfInBounds_toArray, List.set_cons_zero, List.set_cons_succ]
        refine Open.take (i := 1) (v := ?_) rfl (by kernel_rfl) (by kernel_rfl) (by kernel_rfl) (by kernel_rfl) (fun _ _ _ h => h) HS (Or.inl ⟨rfl, ?_⟩) ?_
        rotate_left
        · intro w' k1
          go_simp
          try rfl
        simp only [List.getElem_toArray, List.getElem_cons_zero, List.getElem_cons_succ, Act.put, List.setIfInBounds_toArray, List.set_cons_zero, List.set_cons_succ]
        refine Open.take (i := 2) (v := ?_) rfl (by kernel_rfl) (by kernel_rfl) (by kernel_rfl) (by kernel_rfl) (fun _ _ _ h => h) HS (Or.inl ⟨rfl, ?_⟩) ?_
        rotate_left
        · intro w' k1
          go_simp
          try rfl
        simp only [List.getElem_toArray, List.getElem_cons_zero, List.getElem_cons_succ, Act.put, List.setIfInBounds_toArray, List.set_cons_zero, List.set_cons_succ]
        refine Open.take (i := 3) (v := ?_) rfl (by kernel_rfl) (by kernel_rfl) (by kernel_rfl) (by kernel_rfl) (fun _ _ _ h => h) HS (Or.inl ⟨rfl, ?_⟩) ?_
        rotate_left
        · intro w' k1
          go_simp
          try rfl
        simp only [List.getElem_toArray, List.getElem_cons_zero, List.getElem_cons_succ, Act.put, List.setIfInBounds_toArray, List.set_cons_zero, List.set_cons_succ]
        refine Open.take (i := 4) (v := ?_) rfl (by kernel_rfl) (by kernel_rfl) (by kernel_rfl) (by kernel_rfl) (fun _ _ _ h => h) HS (Or.inl ⟨rfl, ?_⟩) ?_
        rotate_left
        · intro w' k1
          go_simp
          try rfl
        simp only [List.getElem_toArray, List.getElem_cons_zero, List.getElem_cons_succ, Act.put, List.setIfInBounds_toArray, List.set_cons_zero, List.set_cons_succ]
        refine Open.take (i := 5) (v := ?_) rfl (by kernel_rfl) (by kernel_rfl) (by kernel_rfl) (by kernel_rfl) (fun _ _ _ h => h) HS (Or.inl ⟨rfl, ?_⟩) ?_
        rotate_left
        · intro w' k1
          go_simp
          try rfl
        simp only [List.getElem_toArray, List.getElem_cons_zero, List.getElem_cons_succ, Act.put, List.setIfInBounds_toArray, List.set_cons_zero, List.set_cons_succ]
        refine Open.one (i := 6) rfl (by kernel_rfl) rfl (fun K hK => ?_)
        refine Nf.wp_app_row uo U.length ucap U (Hur3.out.below (Below.refl _ w3).drew) (by omega) _ _ (by rfl) (by rfl) (by rfl) ?_
        intro vo vn vc w4 hown4 hb4
        have hb34 : Below w3.heap.size w3 w4 := (Below.refl _ w3).drew.trans hb4
        have hL4 := HLs3.out.below hb34
        have m1 : w4.cell? ⟨xb, 5, none⟩ = some (.slice lo els.length lcap) := Nf.blk_cell (i := 5) hL4.xblk rfl
        refine hK _ _ ⟨fun _ => m1, ?_⟩
        clear hK K HS
        have Hx := Sp.hid (Nf.RowS.of_own hown4 (by unfold maxLen; omega) HUsz.out)
        have l1 := Nf.blk_lt hL4.xblk
        have o1 : (Value.slice lo els.length lcap).ownBlock ≠ some xb := Nf.own_ne hL4.lown hL4.xblk (by decide)
        have HL4 := Sp.hid hL4
        have Hrow2 := Sp.hid (show (w4.alloc (.cells #[.slice vo vn vc] 22)).ownsRow w0.heap.size 22 1 (.slice lo els.length lcap) els.length (els.map Lst.val) from hL4.lown.alloc _)
        have hbw := hL4.bw
        have f1 := Nf.blk_free (i := 5) hL4.xblk
        have Hb34 := Sp.hid hb34
        clear hown4 hb4 hL4 hb34
        refine Open.one (i := 7) rfl (by kernel_rfl) rfl (fun K hK => ?_)
        go_simp
        refine hK _ _ ⟨fun _ => ?_, ?_⟩
        · simpa [World.cell?_alloc_past _ _ _ l1] using m1
        clear hK K
        refine Open.one (i := 8) rfl (by kernel_rfl) rfl (fun K hK => ?_)
        refine wp_append_lies _ _ _ 38 (by rfl) w0.heap.size 22 i0 _ 1 24 Tryz.underlying38 hi hz0 hz1 hz2 rfl (by decide) (.slice lo els.length lcap) _ _ (by rfl) Hrow2.out ⟨w4.heap.size, 0, none⟩ 1 1 [.slice vo vn vc] (by rfl) rfl (World.news_of_block (cs := #[.slice vo vn vc]) (t := 22) (fr := (0, 0)) (heap_alloc_new w4 _)) (by simp [Value.oneCell']) (by omega) ?_ ?_ ?_ (w4.heap.size + 1) (by simp) ?_
        · unfold maxLen; omega
        · omega
        · simp; omega
        intro gb cap w5 hown5 hgrow5 hat5 hlt5
        have hl1 : xb < (w4.alloc (.cells #[.slice vo vn vc] 22)).heap.size := by simp; omega
        have m2 : w5.cell? ⟨xb, 5, none⟩ = some (.slice lo els.length lcap) := by rw [hgrow5.cell_far ⟨xb, 5, none⟩ hl1 (Ne.symm o1)]; simpa [World.cell?_alloc_past _ _ _ l1] using m1
        have m3 : w5.frozen? ⟨xb, 5, none⟩ = false := by rw [hgrow5.frozen_far ⟨xb, 5, none⟩ hl1 (Ne.symm o1)]; simpa [World.frozen?_alloc_past _ _ _ l1] using f1
        have hgr : w4.grownBy w5 (Value.slice lo els.length lcap).ownBlock := World.grownBy.trans (World.grownBy_alloc w4 (.cells #[.slice vo vn vc] 22) _) ⟨hgrow5.os, hgrow5.tape, hgrow5.output, hgrow5.size, hgrow5.block⟩
        have hp := HL4.out.push (x := ⟨vo, vn, vc, U⟩) Hx.out hgr hown5
        have Hp := Sp.hid hp.1
        have Ht := Sp.hid ((Nf.TL.of_below (Hb3.out.trans (Hb34.out.mono Hb3.out.size)) hw03).trans hp.2)
        refine hK _ _ ⟨fun _ => m2, ?_⟩
        clear hK K hp hgr hl1 hown5 hgrow5 hat5 hlt5 Hrow2
        have HS : w5.cell? ⟨xb, 5, none⟩ = some (.slice lo els.length lcap) := m2
        refine Open.one (i := 9) rfl (by kernel_rfl) rfl (fun K hK => ?_)
        go_simp
        refine hK _ _ ⟨fun _ => m2, ?_⟩
        clear hK K
        refine Open.take (i := 10) (v := ?_) rfl (by kernel_rfl) (by kernel_rfl) (by kernel_rfl) (by kernel_rfl) (fun _ _ _ h => h) HS (Or.inl ⟨rfl, ?_⟩) ?_
        rotate_left
        · intro w' k1
          go_simp
          try rfl
        simp only [List.getElem_toArray, List.getElem_cons_zero, List.getElem_cons_succ, Act.put, List.setIfInBounds_toArray, List.set_cons_zero, List.set_cons_succ]
        refine Open.one (i := 11) rfl (by kernel_rfl) rfl (fun K hK => ?_)
        go_simp
        refine hK _ _ ⟨fun e => absurd rfl e, ?_⟩
        clear hK K m1 m2 m3 HS
        refine Open.end (by kernel_rfl) ?_
        go_wp2_with fail
        (try simp only [Exit.inBlock, Exit.then])
        refine bodyPost_ret (results_none rfl _ _ _) rfl ?_
        exact ⟨rfl, els ++ [⟨vo, vn, vc, U⟩], _, Hp, Ht, Sp.hid (by rw [HE.out, List.take_of_length_le (by simp [Hlel.out]; omega)]; simp [Sp.lists])⟩
      · obtain ⟨k1, hk1⟩ : ∃ k1, k = k1 + 1 := ⟨k - 1, by omega⟩
        have s1 : IntKind.i64.wrap ((k : Int) - 1) = (k1 : Int) := by rw [IntWalk.i64_in _ (by omega)]; omega
        have hb2 : ((k : Int) == 0) = false := by simp [hz]
        have HIH := Sp.hid (Hih.out k1 (by omega) (by omega))
        have hk1U : U.length + 1 + k1 ≤ 100 := by omega
        have HB3 := Sp.hid (HB.out.trans (Hb3.out.mono HB.out.size))
        have hsq := Nf.seq_of_own (v := .slice ko kk kc) (xs := L2) (by rw [Hkl.out]; exact Hk3.out) (by rw [Hkl.out]; unfold maxLen; omega)
        obtain ⟨_, _, hv0, hsq, _⟩ := hsq
        cases hv0
        have HSq3 := Sp.hid hsq
        have hne : ∃ q, S q ∧ Nf.Ex g (k1 + 1) q := by
          have hl := Hkl.out
          have hpos : 0 < L2.length := by have := HkN.out; omega
          obtain ⟨q, hq⟩ := List.exists_mem_of_length_pos hpos
          rw [← hk1]
          exact ⟨q, (HL2.out.2 q).1 hq⟩
        have HSym : Hid (Calls Tryz.prog 36 #[.agg #[.int .i64 0, .slice (some ⟨eb, 0, none⟩) N N, .slice (some ⟨db, 0, none⟩) N N], .slice ko L2.length kc] w3 (fun e w6 => ∃ (yo : Option Addr) (yl yc : Nat) (T : List ByteArray), e = .returned (.slice yo yl yc) ∧ yl ≤ 3000000000 ∧ T.length = yl ∧ Hid (w6.ownsRow w3.heap.size 9 1 (.slice yo yl yc) T.length (T.map Value.string)) ∧ Hid (Wd = T.flatMap fun s => (Nf.Wk g k1 (Nf.StepTo g (fun q => S q ∧ Nf.Ex g (k1 + 1) q) s)).map fun v => U ++ s :: v) ∧ Hid (∀ s, s ∈ T → s.size ≤ 9223372036854775807) ∧ Hid (Below w3.heap.size w3 w6))) := Sp.hid (by
          have hr := symbols_any w3 eb db R g ko L2.length kc L2 (HG.out.below HB3.out) hsq (by rw [HNe.out]; exact HL2.out.1)
          unfold Nf.rfVal at hr
          rw [HNe.out] at hr
          refine hr.mono ?_
          rintro e w6 ⟨v, T, rfl, hown, hasc, hmem, hlen, hbel⟩
          have hsz : ∀ s, s ∈ T → s.size ≤ 9223372036854775807 := fun s hs => by
            obtain ⟨_, p, _, q, hq⟩ := (hmem s).1 hs
            exact HG.out.len p (s, q) ((HG.out.ed_iff p s q).2 hq)
          obtain ⟨yo, yc, rfl, _, _⟩ := Nf.row_of_own hown (by unfold maxLen; omega) (fun s hs => by unfold maxLen; exact hsz s hs)
          refine ⟨yo, T.length, yc, T, rfl, hlen, rfl, Sp.hid hown, Sp.hid ?_, Sp.hid hsz, Sp.hid hbel⟩
          rw [← HWd.out, hk1, Nf.Wk_syms HG.out.ok hne hasc (fun s => by
            rw [hmem s]
            have e : ∀ p, p ∈ L2 ↔ S p ∧ Nf.Ex g (k1 + 1) p := fun p => by rw [HL2.out.2 p, hk1]
            constructor
            · rintro ⟨h0, p, hp, h1⟩; exact ⟨h0, p, (e p).1 hp, h1⟩
            · rintro ⟨h0, p, hp, h1⟩; exact ⟨h0, p, (e p).2 hp, h1⟩)]
          rw [List.map_flatMap]
          congr 1
          funext s
          rw [List.map_map]
          rfl)
        have HL2m : Hid (∀ q, q ∈ L2 ↔ S q ∧ Nf.Ex g (k1 + 1) q) := Sp.hid (fun q => by rw [HL2.out.2 q, hk1])
        have z0 : w3.cell? ⟨xb, 0, none⟩ = some (.int .i64 0) := Nf.blk_cell (i := 0) HLs3.out.xblk rfl
        have z1 : w3.cell? ⟨xb, 1, none⟩ = some (.slice (some ⟨eb, 0, none⟩) N N) := Nf.blk_cell (i := 1) HLs3.out.xblk rfl
        have z2 : w3.cell? ⟨xb, 2, none⟩ = some (.slice (some ⟨db, 0, none⟩) N N) := Nf.blk_cell (i := 2) HLs3.out.xblk rfl
        clear hz hk1 hsq hne Hih HWd
        go_wp2_with fail
        refine HSym.out.mono ?_
        rintro e w5 ⟨yo, yl, yc, T, rfl, hyl, hTl, HT, HWT, HTsz, Hb5⟩
        have HTl := Sp.hid hTl
        have HLs5 := Sp.hid (HLs3.out.below Hb5.out)
        have hb5w := Hb3.out.trans (Hb5.out.mono Hb3.out.size)
        have HB5 := Sp.hid (HB.out.trans (hb5w.mono HB.out.size))
        have Ht5 := Sp.hid (Nf.TL.of_below hb5w hw03)
        have hg5 : w.grownBy w5 none := ⟨hb5w.os, hb5w.tape, hb5w.output, hb5w.size, fun i hi _ => hb5w.block i hi⟩
        have HU5 : Hid (w5.ownsRow b2 9 1 (.slice uo U.length ucap) U.length (U.map Value.string)) := Sp.hid (Huv.out.kept hg5 (by cases (Value.slice uo U.length ucap).ownBlock <;> simp))
        have HS5 : Hid (w5.ownsRow w.heap.size 3 1 (.slice ko L2.length kc) L2.length (L2.map Nf.num)) := Sp.hid (by
          have h := Hk3.out.kept (w' := w5) (row := none) ⟨Hb5.out.os, Hb5.out.tape, Hb5.out.output, Hb5.out.size, fun i hi _ => Hb5.out.block i hi⟩ (by cases (Value.slice ko L2.length kc).ownBlock <;> simp)
          exact h)
        have HEx5 := Sp.hid (HEx.out.tl Ht5.out)
        clear z0 z1 z2 hb5w hg5 hTl HSym HLs3 Hb5 Hb3 Hk3 HSq3
        go_wp2_with fail
        go_loopw [9] (fun i wr => ∃ (j : Nat) (els' : List Lst) (lv' : Value), i = .int .i64 j ∧ j ≤ yl ∧ Hid (Nf.LsAt wr w0.heap.size xb eb db N (.slice (some ⟨tb, 0, none⟩) cnt tcap) most els' lv') ∧ Hid (Nf.TL w0.heap.size w5 wr) ∧ Hid (Sp.lists els' = (Sp.lists els ++ (T.take j).flatMap fun s => (Nf.Wk g k1 (Nf.StepTo g (fun q => S q ∧ Nf.Ex g (k1 + 1) q) s)).map fun v => U ++ s :: v).take (most + 1))) (fun i _ => yl - (intOf i).toNat)
        case atStart => exact ⟨0, els, _, rfl, Nat.zero_le _, HLs5, Sp.hid (Nf.TL.refl _ _), Sp.hid (by simp; rw [List.take_of_length_le (by rw [Hlel.out]; omega)])⟩
        case round =>
          clear HLs5
          obtain ⟨j, els2, lv2, rfl, hj, HLr, Htr, Hlr⟩ := hrel
          by_cases hjn : j < yl
          · have hTr := Htr.out.own HT.out (by unfold Nf.KindL; decide)
            obtain ⟨_, _, hv1, hrowT, _⟩ := Nf.row_of_own hTr (by unfold maxLen; rw [HTl.out]; omega) (fun s hs => by unfold maxLen; exact HTsz.out s hs)
            cases hv1
            obtain ⟨b9, off9, s, rfl, cs0, hsz9, hs?, htk⟩ := hrowT.at (show j < T.length by rw [HTl.out]; exact hjn)
            have cs : wr.cell? ⟨b9, off9 + j, none⟩ = some (.string s) := cs0
            have hssz := HTsz.out s (List.mem_of_getElem? hs?)
            have i3 : (0 : Int) ≤ (j : Int) := by omega
            have i4 : (j : Int) < (T.length : Int) := by omega
            have c0 : wr.cell? ⟨xb, 0, none⟩ = some (.int .i64 0) := Nf.blk_cell (i := 0) HLr.out.xblk rfl
            have c1 : wr.cell? ⟨xb, 1, none⟩ = some (.slice (some ⟨eb, 0, none⟩) N N) := Nf.blk_cell (i := 1) HLr.out.xblk rfl
            have c2 : wr.cell? ⟨xb, 2, none⟩ = some (.slice (some ⟨db, 0, none⟩) N N) := Nf.blk_cell (i := 2) HLr.out.xblk rfl
            have hel3 : els2.length ≤ most + 1 := by
              have h := congrArg List.length Hlr.out
              rw [List.length_take] at h
              simp only [Sp.lists, List.length_map] at h
              omega
            have hB0r := HB5.out.trans Htr.out.below
            have hUr := Htr.out.own HU5.out (by unfold Nf.KindL; decide)
            obtain ⟨_, _, hv2, hurow, _⟩ := Nf.row_of_own hUr (by unfold maxLen; omega) HUsz.out
            cases hv2
            have hSr := Htr.out.own HS5.out (by unfold Nf.KindL; decide)
            obtain ⟨_, _, hv3, hseqr, _⟩ := Nf.seq_of_own hSr (by unfold maxLen; omega)
            cases hv3
            have hExr := HEx5.out.tl Htr.out
            have Htk := Sp.hid htk
            have HB0r := Sp.hid hB0r
            have Hur := Sp.hid hurow
            have HSr := Sp.hid hseqr
            have HExr := Sp.hid hExr
            have HStep : Hid (∀ w6 : World, Hid (Below wr.heap.size wr w6) → Calls Tryz.prog 38 #[.agg #[.int .i64 0, .slice (some ⟨eb, 0, none⟩) N N, .slice (some ⟨db, 0, none⟩) N N], .slice ko L2.length kc, .string s] w6 (fun e w7 => ∃ (po : Option Addr) (pl pc : Nat) (P : List Nat), e = .returned (.slice po pl pc) ∧ Hid (w7.ownsRow wr.heap.size 3 1 (.slice po pl pc) P.length (P.map Nf.num) ∧ Nf.Pool N P ∧ (∀ q, q ∈ P ↔ Nf.StepTo g (fun q => S q ∧ Nf.Ex g (k1 + 1) q) s q)) ∧ Hid (Below w6.heap.size w6 w7))) := Sp.hid (fun w6 hb6 => by
              have hr := step_any w6 eb db R g ko L2.length kc L2 s (HG.out.below (HB0r.out.trans (hb6.out.mono HB0r.out.size))) (HSr.out.below hb6.out) (by rw [HNe.out]; exact HL2.out.1) hssz
              unfold Nf.rfVal at hr
              rw [HNe.out] at hr
              refine hr.mono ?_
              rintro e w7 ⟨v, P, rfl, hown, hplP, hasc, hmem, hbel⟩
              have hln := hplP.len
              obtain ⟨po, pc, rfl, _, _⟩ := Nf.seq_of_own hown (by unfold maxLen; omega)
              refine ⟨po, P.length, pc, P, rfl, Sp.hid ⟨Nf.own_base hown hb6.out.size, hplP, fun q => ?_⟩, Sp.hid hbel⟩
              rw [hmem q]
              have e : (fun q => q ∈ L2) = fun q => S q ∧ Nf.Ex g (k1 + 1) q := funext fun q => propext (HL2m.out q)
              rw [e])
            have HSel : Hid (∀ (w7 : World) (po : Option Addr) (pl pc vb vc : Nat) (P : List Nat), Hid (Below wr.heap.size wr w7) → Hid (w7.ownsRow wr.heap.size 3 1 (.slice po pl pc) P.length (P.map Nf.num) ∧ Nf.Pool N P ∧ (∀ q, q ∈ P ↔ Nf.StepTo g (fun q => S q ∧ Nf.Ex g (k1 + 1) q) s q)) → Hid (w7.ownsRow wr.heap.size 9 1 (.slice (some ⟨vb, 0, none⟩) (U.length + 1) vc) (U.length + 1) (U.map Value.string ++ [.string s])) →
                Calls Tryz.prog 73 #[.pointer (some ⟨xb, 0, none⟩), .slice po pl pc, .slice (some ⟨vb, 0, none⟩) (U.length + 1) vc, .int .i64 (k1 : Int)] w7 (fun e w8 => e = .returned (.tuple #[]) ∧ ∃ (els9 : List Lst) (lv9 : Value), Hid (Nf.LsAt w8 w0.heap.size xb eb db N (.slice (some ⟨tb, 0, none⟩) cnt tcap) most els9 lv9) ∧ Hid (Nf.TL w0.heap.size w5 w8) ∧ Hid ((fun w' : World => w'.cell? ⟨xb, 0, none⟩ = some (.int .i64 0) ∧ w'.cell? ⟨xb, 1, none⟩ = some (.slice (some ⟨eb, 0, none⟩) N N) ∧ w'.cell? ⟨xb, 2, none⟩ = some (.slice (some ⟨db, 0, none⟩) N N) ∧ w'.cell? ⟨b9, off9 + j, none⟩ = some (.string s)) w8) ∧ Hid (Sp.lists els9 = (Sp.lists els ++ (T.take (j + 1)).flatMap fun s => (Nf.Wk g k1 (Nf.StepTo g (fun q => S q ∧ Nf.Ex g (k1 + 1) q) s)).map fun v => U ++ s :: v).take (most + 1)))) := Sp.hid (fun w7 po pl pc vb vc P hb7 hP hV => by
              have ht7 : Nf.TL w0.heap.size wr w7 := Nf.TL.of_below hb7.out HLr.out.bw
              have e1 : (U ++ [s]).length = U.length + 1 := by simp
              refine (HIH.out w7 els2 lv2 (.slice po pl pc) (.slice (some ⟨vb, 0, none⟩) (U.length + 1) vc) P (Nf.StepTo g (fun q => S q ∧ Nf.Ex g (k1 + 1) q) s) (U ++ [s]) wr.heap.size wr.heap.size (HLr.out.below hb7.out) (HB0r.out.trans (hb7.out.mono HB0r.out.size)) (HExr.out.tl ht7) hP.out.1 hP.out.2.1 hP.out.2.2 (by rw [e1, List.map_append]; exact hV.out) (by rw [e1]; omega) (fun t ht => by
                rcases List.mem_append.1 ht with ht | ht
                · exact HUsz.out t ht
                · simp at ht; subst ht; unfold maxLen; exact hssz) hel3).mono ?_
              rintro e w8 ⟨rfl, els9, lv9, h1, h2, h3⟩
              have hT8 := ((Htr.out.trans ht7).trans h2.out).own HT.out (by unfold Nf.KindL; decide)
              obtain ⟨_, _, hv9, hrow9, _⟩ := Nf.row_of_own hT8 (by unfold maxLen; omega) (fun s hs => by unfold maxLen; exact HTsz.out s hs)
              cases hv9
              obtain ⟨b8, off8, s8, hbo, cs8, _, hs8, _⟩ := hrow9.at hjn
              cases hbo
              have e8 : s8 = s := by rw [hs?] at hs8; exact (Option.some.inj hs8).symm
              subst e8
              refine ⟨rfl, els9, lv9, h1, Sp.hid ((Htr.out.trans ht7).trans h2.out), Sp.hid ⟨Nf.blk_cell (i := 0) h1.out.xblk rfl, Nf.blk_cell (i := 1) h1.out.xblk rfl, Nf.blk_cell (i := 2) h1.out.xblk rfl, cs8⟩, Sp.hid ?_⟩
              rw [h3.out, Hlr.out, Nf.take_app, List.append_assoc, Htk.out, List.flatMap_append]
              simp)
            clear hs? htk hsz9 cs0 hTr hrowT hB0r hUr hSr hurow hseqr hExr
            go_wp2_with fail
            refine Open.begin (S := fun w' => w'.cell? ⟨xb, 0, none⟩ = some (.int .i64 0) ∧ w'.cell? ⟨xb, 1, none⟩ = some (.slice (some ⟨eb, 0, none⟩) N N) ∧ w'.cell? ⟨xb, 2, none⟩ = some (.slice (some ⟨db, 0, none⟩) N N) ∧ w'.cell? ⟨b9, off9 + j, none⟩ = some (.string s)) (z := 22) (by kernel_rfl) ?_
            have HS : wr.drew.cell? ⟨xb, 0, none⟩ = some (.int .i64 0) ∧ wr.drew.cell? ⟨xb, 1, none⟩ = some (.slice (some ⟨eb, 0, none⟩) N N) ∧ wr.drew.cell? ⟨xb, 2, none⟩ = some (.slice (some ⟨db, 0, none⟩) N N) ∧ wr.drew.cell? ⟨b9, off9 + j, none⟩ = some (.string s) := ⟨c0, c1, c2, cs⟩
            refine Open.takeN (i := 0) (v := ?_) rfl (by kernel_rfl) (by kernel_rfl) (by kernel_rfl) (Nat.le_refl _) (fun _ _ _ h => h) HS (Or.inl ⟨rfl, ?_⟩) ?_
            rotate_left
            · rintro w' ⟨k1, k2, k3, k4⟩
              go_simp
              try rfl
            simp only [List.getElem_toArray, List.getElem_cons_zero, List.getElem_cons_succ, Act.put, List.setIfInBounds_toArray, List.set_cons_zero, List.set_cons_succ]
            refine Open.takeN (i := 1) (v := ?_) rfl (by kernel_rfl) (by kernel_rfl) (by kernel_rfl) (Nat.le_refl _) (fun _ _ _ h => h) HS (Or.inl ⟨rfl, ?_⟩) ?_
            rotate_left
            · rintro w' ⟨k1, k2, k3, k4⟩
              go_simp
              try rfl
            simp only [List.getElem_toArray, List.getElem_cons_zero, List.getElem_cons_succ, Act.put, List.setIfInBounds_toArray, List.set_cons_zero, List.set_cons_succ]
            refine Open.takeN (i := 2) (v := ?_) rfl (by kernel_rfl) (by kernel_rfl) (by kernel_rfl) (Nat.le_refl _) (fun _ _ _ h => h) HS (Or.inl ⟨rfl, ?_⟩) ?_
            rotate_left
            · rintro w' ⟨k1, k2, k3, k4⟩
              go_simp
              try rfl
            simp only [List.getElem_toArray, List.getElem_cons_zero, List.getElem_cons_succ, Act.put, List.setIfInBounds_toArray, List.set_cons_zero, List.set_cons_succ]
            refine Open.takeN (i := 3) (v := ?_) rfl (by kernel_rfl) (by kernel_rfl) (by kernel_rfl) (Nat.le_refl _) (fun _ _ _ h => h) HS (Or.inl ⟨rfl, ?_⟩) ?_
            rotate_left
            · rintro w' ⟨k1, k2, k3, k4⟩
              go_simp
              try rfl
            simp only [List.getElem_toArray, List.getElem_cons_zero, List.getElem_cons_succ, Act.put, List.setIfInBounds_toArray, List.set_cons_zero, List.set_cons_succ]
            refine Open.takeN (i := 4) (v := ?_) rfl (by kernel_rfl) (by kernel_rfl) (by kernel_rfl) (Nat.le_refl _) (fun _ _ _ h => h) HS (Or.inl ⟨rfl, ?_⟩) ?_
            rotate_left
            · rintro w' ⟨k1, k2, k3, k4⟩
              go_simp
              try rfl
            simp only [List.getElem_toArray, List.getElem_cons_zero, List.getElem_cons_succ, Act.put, List.setIfInBounds_toArray, List.set_cons_zero, List.set_cons_succ]
            refine Open.takeN (i := 5) (v := ?_) rfl (by kernel_rfl) (by kernel_rfl) (by kernel_rfl) (Nat.le_refl _) (fun _ _ _ h => h) HS (Or.inl ⟨rfl, ?_⟩) ?_
            rotate_left
            · rintro w' ⟨k1, k2, k3, k4⟩
              go_simp
              try rfl
            simp only [List.getElem_toArray, List.getElem_cons_zero, List.getElem_cons_succ, Act.put, List.setIfInBounds_toArray, List.set_cons_zero, List.set_cons_succ]
            refine Open.takeN (i := 6) (v := ?_) rfl (by kernel_rfl) (by kernel_rfl) (by kernel_rfl) (Nat.le_refl _) (fun _ _ _ h => h) HS (Or.inl ⟨rfl, ?_⟩) ?_
            rotate_left
            · rintro w' ⟨k1, k2, k3, k4⟩
              go_simp
              try rfl
            simp only [List.getElem_toArray, List.getElem_cons_zero, List.getElem_cons_succ, Act.put, List.setIfInBounds_toArray, List.set_cons_zero, List.set_cons_succ]
            refine Open.takeN (i := 7) (v := ?_) rfl (by kernel_rfl) (by kernel_rfl) (by kernel_rfl) (Nat.le_refl _) (fun _ _ _ h => h) HS (Or.inl ⟨rfl, ?_⟩) ?_
            rotate_left
            · rintro w' ⟨k1, k2, k3, k4⟩
              go_simp
              try rfl
            simp only [List.getElem_toArray, List.getElem_cons_zero, List.getElem_cons_succ, Act.put, List.setIfInBounds_toArray, List.set_cons_zero, List.set_cons_succ]
            refine Open.takeN (i := 8) (v := ?_) rfl (by kernel_rfl) (by kernel_rfl) (by kernel_rfl) (Nat.le_refl _) (fun _ _ _ h => h) HS (Or.inl ⟨rfl, ?_⟩) ?_
            rotate_left
            · rintro w' ⟨k1, k2, k3, k4⟩
              go_simp
              try rfl
            simp only [List.getElem_toArray, List.getElem_cons_zero, List.getElem_cons_succ, Act.put, List.setIfInBounds_toArray, List.set_cons_zero, List.set_cons_succ]
            refine Open.takeN (i := 9) (v := ?_) rfl (by kernel_rfl) (by kernel_rfl) (by kernel_rfl) (Nat.le_refl _) (fun _ _ _ h => h) HS (Or.inl ⟨rfl, ?_⟩) ?_
            rotate_left
            · rintro w' ⟨k1, k2, k3, k4⟩
              go_simp
              try rfl
            simp only [List.getElem_toArray, List.getElem_cons_zero, List.getElem_cons_succ, Act.put, List.setIfInBounds_toArray, List.set_cons_zero, List.set_cons_succ]
            refine Open.takeN (i := 11) (v := ?_) rfl (by kernel_rfl) (by kernel_rfl) (by kernel_rfl) (Nat.le_refl _) (fun _ _ _ h => h) HS (Or.inl ⟨rfl, ?_⟩) ?_
            rotate_left
            · rintro w' ⟨k1, k2, k3, k4⟩
              go_simp
              try rfl
            simp only [List.getElem_toArray, List.getElem_cons_zero, List.getElem_cons_succ, Act.put, List.setIfInBounds_toArray, List.set_cons_zero, List.set_cons_succ]
            refine Open.takeN (i := 13) (v := ?_) rfl (by kernel_rfl) (by kernel_rfl) (by kernel_rfl) (Nat.le_refl _) (fun _ _ _ h => h) HS (Or.inl ⟨rfl, ?_⟩) ?_
            rotate_left
            · rintro w' ⟨k1, k2, k3, k4⟩
              go_simp
              try rfl
            simp only [List.getElem_toArray, List.getElem_cons_zero, List.getElem_cons_succ, Act.put, List.setIfInBounds_toArray, List.set_cons_zero, List.set_cons_succ]
            refine Open.takeN (i := 14) (v := ?_) rfl (by kernel_rfl) (by kernel_rfl) (by kernel_rfl) (Nat.le_refl _) (fun _ _ _ h => h) HS (Or.inl ⟨rfl, ?_⟩) ?_
            rotate_left
            · rintro w' ⟨k1, k2, k3, k4⟩
              go_simp
              try rfl
            simp only [List.getElem_toArray, List.getElem_cons_zero, List.getElem_cons_succ, Act.put, List.setIfInBounds_toArray, List.set_cons_zero, List.set_cons_succ]
            refine Open.takeN (i := 15) (v := ?_) rfl (by kernel_rfl) (by kernel_rfl) (by kernel_rfl) (Nat.le_refl _) (fun _ _ _ h => h) HS (Or.inl ⟨rfl, ?_⟩) ?_
            rotate_left
            · rintro w' ⟨k1, k2, k3, k4⟩
              go_simp
              try rfl
            simp only [List.getElem_toArray, List.getElem_cons_zero, List.getElem_cons_succ, Act.put, List.setIfInBounds_toArray, List.set_cons_zero, List.set_cons_succ]
            refine Open.takeN (i := 16) (v := ?_) rfl (by kernel_rfl) (by kernel_rfl) (by kernel_rfl) (Nat.le_refl _) (fun _ _ _ h => h) HS (Or.inl ⟨rfl, ?_⟩) ?_
            rotate_left
            · rintro w' ⟨k1, k2, k3, k4⟩
              go_simp
              try rfl
            simp only [List.getElem_toArray, List.getElem_cons_zero, List.getElem_cons_succ, Act.put, List.setIfInBounds_toArray, List.set_cons_zero, List.set_cons_succ]
            refine Open.takeN (i := 19) (v := ?_) rfl (by kernel_rfl) (by kernel_rfl) (by kernel_rfl) (Nat.le_refl _) (fun _ _ _ h => h) HS (Or.inl ⟨rfl, ?_⟩) ?_
            rotate_left
            · rintro w' ⟨k1, k2, k3, k4⟩
              go_simp
              try rfl
            simp only [List.getElem_toArray, List.getElem_cons_zero, List.getElem_cons_succ, Act.put, List.setIfInBounds_toArray, List.set_cons_zero, List.set_cons_succ]
            refine Open.takeN (i := 20) (v := ?_) rfl (by kernel_rfl) (by kernel_rfl) (by kernel_rfl) (Nat.le_refl _) (fun _ _ _ h => h) HS (Or.inl ⟨rfl, ?_⟩) ?_
            rotate_left
            · rintro w' ⟨k1, k2, k3, k4⟩
              go_simp
              try rfl
            simp only [List.getElem_toArray, List.getElem_cons_zero, List.getElem_cons_succ, Act.put, List.setIfInBounds_toArray, List.set_cons_zero, List.set_cons_succ]
            have HSof : Hid (∀ w', Below wr.heap.size wr w' → (fun w' : World => w'.cell? ⟨xb, 0, none⟩ = some (.int .i64 0) ∧ w'.cell? ⟨xb, 1, none⟩ = some (.slice (some ⟨eb, 0, none⟩) N N) ∧ w'.cell? ⟨xb, 2, none⟩ = some (.slice (some ⟨db, 0, none⟩) N N) ∧ w'.cell? ⟨b9, off9 + j, none⟩ = some (.string s)) w') := Sp.hid (fun w' hb => ⟨by rw [hb.cell (World.block_lt_of_cell? wr _ c0)]; exact c0, by rw [hb.cell (World.block_lt_of_cell? wr _ c1)]; exact c1, by rw [hb.cell (World.block_lt_of_cell? wr _ c2)]; exact c2, by rw [hb.cell (World.block_lt_of_cell? wr _ cs)]; exact cs⟩)
            have HA0 : Hid (Below wr.heap.size wr wr.drew) := Sp.hid (Below.refl _ wr).drew
            obtain ⟨wa0, hwa0⟩ : ∃ wa0, wr.drew = wa0 := ⟨_, rfl⟩
            rw [hwa0] at HA0 ⊢
            clear hwa0 HS c0 c1 c2 cs
            refine Open.pick [10, 17] (by kernel_rfl) (by simp) ?_
            intro i hi
            simp only [List.mem_cons, List.not_mem_nil, or_false] at hi
            rcases hi with rfl | rfl
            · intro K hK
              refine ⟨_, rfl, rfl, ?_⟩
              go_simp
              refine (HStep.out wa0 HA0).mono ?_
              rintro e wa1 ⟨po, pl, pc, P, rfl, HP, HC⟩
              have HA1 : Hid (Below wr.heap.size wr wa1) := Sp.hid (HA0.out.trans (HC.out.mono HA0.out.size))
              refine hK _ _ ⟨fun _ => HSof.out _ HA1.out, ?_⟩
              clear hK K
              refine Open.pick [12, 17] (by kernel_rfl) (by simp) ?_
              intro i hi
              simp only [List.mem_cons, List.not_mem_nil, or_false] at hi
              rcases hi with rfl | rfl
              · intro K hK
                refine ⟨_, rfl, rfl, ?_⟩
                refine Nf.wp_app_row uo U.length ucap U (Hur.out.below HA1.out) (by omega) _ _ (by rfl) (by rfl) (by rfl) ?_
                intro vo vn vc wa2 hown hbb
                have HC : Hid (Below wa1.heap.size wa1 wa2) := Sp.hid hbb
                have HU : Hid (wa2.ownsRow wr.heap.size 9 1 (.slice vo vn vc) U.length (U.map Value.string)) := Sp.hid (Nf.own_base hown HA1.out.size)
                have HA2 : Hid (Below wr.heap.size wr wa2) := Sp.hid (HA1.out.trans (hbb.mono HA1.out.size))
                clear hown hbb
                refine hK _ _ ⟨fun _ => HSof.out _ HA2.out, ?_⟩
                clear hK K
                have HP : Hid (wa2.ownsRow wr.heap.size 3 1 (.slice po pl pc) P.length (P.map Nf.num) ∧ Nf.Pool N P ∧ (∀ q, q ∈ P ↔ Nf.StepTo g (fun q => S q ∧ Nf.Ex g (k1 + 1) q) s q)) := Sp.hid ⟨HP.out.1.kept (row := none) ⟨HC.out.os, HC.out.tape, HC.out.output, HC.out.size, fun i hi _ => HC.out.block i hi⟩ (by cases (Value.slice po pl pc).ownBlock <;> simp), HP.out.2⟩
                refine Open.one (i := 17) rfl (by kernel_rfl) rfl (fun K hK => ?_)
                go_simp
                have HC0 : Hid (Below wa2.heap.size wa2 (wa2.alloc (.cells #[.string s] 9))) := Sp.hid ((Below.refl _ _).alloc (Nat.le_refl _) _)
                have hsb0 := Nf.Below.heap_new wa2 (.cells #[.string s] 9)
                obtain ⟨sb, hsb⟩ : ∃ sb, wa2.heap.size = sb := ⟨_, rfl⟩
                obtain ⟨wa3, hwa⟩ : ∃ w', wa2.alloc (.cells #[.string s] 9) = w' := ⟨_, rfl⟩
                rw [hwa] at HC0 hsb0
                rw [hsb] at hsb0
                rw [hwa, hsb]
                have HB9 : Hid (wa3.heap[sb]? = some (.cells #[.string s] 9 (0, 0))) := Sp.hid hsb0
                have HC := HC0
                have HA3 : Hid (Below wr.heap.size wr wa3) := Sp.hid (HA2.out.trans (HC.out.mono HA2.out.size))
                clear hsb hwa hsb0 HC0
                refine hK _ _ ⟨fun _ => HSof.out _ HA3.out, ?_⟩
                clear hK K
                have HP : Hid (wa3.ownsRow wr.heap.size 3 1 (.slice po pl pc) P.length (P.map Nf.num) ∧ Nf.Pool N P ∧ (∀ q, q ∈ P ↔ Nf.StepTo g (fun q => S q ∧ Nf.Ex g (k1 + 1) q) s q)) := Sp.hid ⟨HP.out.1.kept (row := none) ⟨HC.out.os, HC.out.tape, HC.out.output, HC.out.size, fun i hi _ => HC.out.block i hi⟩ (by cases (Value.slice po pl pc).ownBlock <;> simp), HP.out.2⟩
                have HU := Sp.hid (HU.out.kept (w' := wa3) (row := none) ⟨HC.out.os, HC.out.tape, HC.out.output, HC.out.size, fun i hi _ => HC.out.block i hi⟩ (by cases (Value.slice vo vn vc).ownBlock <;> simp))
                refine Open.one (i := 18) rfl (by kernel_rfl) rfl (fun K hK => ?_)
                have hab := HA3.out.size
                refine wp_append_lies _ _ _ 22 (by rfl) wr.heap.size 9 j0 _ 1 16 Tryz.underlying22 hj9 hy0 hy1 hy2 rfl (by decide) (.slice vo vn vc) _ _ (by rfl) HU.out ⟨sb, 0, none⟩ 1 1 [.string s] (by rfl) rfl (World.news_of_block (cs := #[.string s]) (t := 9) (fr := (0, 0)) HB9.out) (by simp [Value.oneCell']) (by omega) ?_ ?_ ?_ wa3.heap.size rfl ?_
                · unfold maxLen; omega
                · omega
                · exact hab
                intro vb vcp wa4 hown hgrow hat hlt
                have HG9 : Hid (wa3.grownBy wa4 (Value.slice vo vn vc).ownBlock) := Sp.hid ⟨hgrow.os, hgrow.tape, hgrow.output, hgrow.size, hgrow.block⟩
                have HV : Hid (wa4.ownsRow wr.heap.size 9 1 (.slice (some ⟨vb, 0, none⟩) (U.length + 1) vcp) (U.length + 1) (U.map Value.string ++ [.string s])) := Sp.hid hown
                have HA4 : Hid (Below wr.heap.size wr wa4) := Sp.hid (HA3.out.grown HG9.out hab (fun k hk => (HU.out.lt k hk).1))
                clear hown hgrow hat hlt hab
                refine hK _ _ ⟨fun _ => HSof.out _ HA4.out, ?_⟩
                clear hK K
                have HP : Hid (wa4.ownsRow wr.heap.size 3 1 (.slice po pl pc) P.length (P.map Nf.num) ∧ Nf.Pool N P ∧ (∀ q, q ∈ P ↔ Nf.StepTo g (fun q => S q ∧ Nf.Ex g (k1 + 1) q) s q)) := Sp.hid ⟨HP.out.1.kept HG9.out (Nf.own_own_ne HP.out.1 HU.out (by decide)), HP.out.2⟩
                refine Open.one (i := 21) rfl (by kernel_rfl) rfl (fun K hK => ?_)
                go_simp
                refine (HSel.out wa4 po pl pc vb vcp P HA4 HP HV).mono ?_
                rintro e w8 ⟨rfl, els9, lv9, HL9, HT9, HS9, Hl9⟩
                refine hK _ _ ⟨fun _ => HS9.out, ?_⟩
                clear hK K
                refine Open.end (by kernel_rfl) ?_
                go_wp2_with fail
                go_roundw
                case rel => exact ⟨j + 1, els9, lv9, by go_num, hjn, HL9, HT9, Hl9⟩
                case measure => simp [intOf]; omega
              · intro K hK
                refine ⟨_, rfl, rfl, ?_⟩
                go_simp
                have HC0 : Hid (Below wa1.heap.size wa1 (wa1.alloc (.cells #[.string s] 9))) := Sp.hid ((Below.refl _ _).alloc (Nat.le_refl _) _)
                have hsb0 := Nf.Below.heap_new wa1 (.cells #[.string s] 9)
                obtain ⟨sb, hsb⟩ : ∃ sb, wa1.heap.size = sb := ⟨_, rfl⟩
                obtain ⟨wa2, hwa⟩ : ∃ w', wa1.alloc (.cells #[.string s] 9) = w' := ⟨_, rfl⟩
                rw [hwa] at HC0 hsb0
                rw [hsb] at hsb0
                rw [hwa, hsb]
                have HB9 : Hid (wa2.heap[sb]? = some (.cells #[.string s] 9 (0, 0))) := Sp.hid hsb0
                have HC := HC0
                have HA2 : Hid (Below wr.heap.size wr wa2) := Sp.hid (HA1.out.trans (HC.out.mono HA1.out.size))
                clear hsb hwa hsb0 HC0
                refine hK _ _ ⟨fun _ => HSof.out _ HA2.out, ?_⟩
                clear hK K
                have HP : Hid (wa2.ownsRow wr.heap.size 3 1 (.slice po pl pc) P.length (P.map Nf.num) ∧ Nf.Pool N P ∧ (∀ q, q ∈ P ↔ Nf.StepTo g (fun q => S q ∧ Nf.Ex g (k1 + 1) q) s q)) := Sp.hid ⟨HP.out.1.kept (row := none) ⟨HC.out.os, HC.out.tape, HC.out.output, HC.out.size, fun i hi _ => HC.out.block i hi⟩ (by cases (Value.slice po pl pc).ownBlock <;> simp), HP.out.2⟩
                refine Open.one (i := 12) rfl (by kernel_rfl) rfl (fun K hK => ?_)
                refine Nf.wp_app_row uo U.length ucap U (Hur.out.below HA2.out) (by omega) _ _ (by rfl) (by rfl) (by rfl) ?_
                intro vo vn vc wa3 hown hbb
                have HC : Hid (Below wa2.heap.size wa2 wa3) := Sp.hid hbb
                have HU : Hid (wa3.ownsRow wr.heap.size 9 1 (.slice vo vn vc) U.length (U.map Value.string)) := Sp.hid (Nf.own_base hown HA2.out.size)
                have HA3 : Hid (Below wr.heap.size wr wa3) := Sp.hid (HA2.out.trans (hbb.mono HA2.out.size))
                clear hown hbb
                refine hK _ _ ⟨fun _ => HSof.out _ HA3.out, ?_⟩
                clear hK K
                have HP : Hid (wa3.ownsRow wr.heap.size 3 1 (.slice po pl pc) P.length (P.map Nf.num) ∧ Nf.Pool N P ∧ (∀ q, q ∈ P ↔ Nf.StepTo g (fun q => S q ∧ Nf.Ex g (k1 + 1) q) s q)) := Sp.hid ⟨HP.out.1.kept (row := none) ⟨HC.out.os, HC.out.tape, HC.out.output, HC.out.size, fun i hi _ => HC.out.block i hi⟩ (by cases (Value.slice po pl pc).ownBlock <;> simp), HP.out.2⟩
                have HB9 := Sp.hid (Nf.blk_below HB9.out HC.out (Nf.blk_lt HB9.out))
                refine Open.one (i := 18) rfl (by kernel_rfl) rfl (fun K hK => ?_)
                have hab := HA3.out.size
                refine wp_append_lies _ _ _ 22 (by rfl) wr.heap.size 9 j0 _ 1 16 Tryz.underlying22 hj9 hy0 hy1 hy2 rfl (by decide) (.slice vo vn vc) _ _ (by rfl) HU.out ⟨sb, 0, none⟩ 1 1 [.string s] (by rfl) rfl (World.news_of_block (cs := #[.string s]) (t := 9) (fr := (0, 0)) HB9.out) (by simp [Value.oneCell']) (by omega) ?_ ?_ ?_ wa3.heap.size rfl ?_
                · unfold maxLen; omega
                · omega
                · exact hab
                intro vb vcp wa4 hown hgrow hat hlt
                have HG9 : Hid (wa3.grownBy wa4 (Value.slice vo vn vc).ownBlock) := Sp.hid ⟨hgrow.os, hgrow.tape, hgrow.output, hgrow.size, hgrow.block⟩
                have HV : Hid (wa4.ownsRow wr.heap.size 9 1 (.slice (some ⟨vb, 0, none⟩) (U.length + 1) vcp) (U.length + 1) (U.map Value.string ++ [.string s])) := Sp.hid hown
                have HA4 : Hid (Below wr.heap.size wr wa4) := Sp.hid (HA3.out.grown HG9.out hab (fun k hk => (HU.out.lt k hk).1))
                clear hown hgrow hat hlt hab
                refine hK _ _ ⟨fun _ => HSof.out _ HA4.out, ?_⟩
                clear hK K
                have HP : Hid (wa4.ownsRow wr.heap.size 3 1 (.slice po pl pc) P.length (P.map Nf.num) ∧ Nf.Pool N P ∧ (∀ q, q ∈ P ↔ Nf.StepTo g (fun q => S q ∧ Nf.Ex g (k1 + 1) q) s q)) := Sp.hid ⟨HP.out.1.kept HG9.out (Nf.own_own_ne HP.out.1 HU.out (by decide)), HP.out.2⟩
                refine Open.one (i := 21) rfl (by kernel_rfl) rfl (fun K hK => ?_)
                go_simp
                refine (HSel.out wa4 po pl pc vb vcp P HA4 HP HV).mono ?_
                rintro e w8 ⟨rfl, els9, lv9, HL9, HT9, HS9, Hl9⟩
                refine hK _ _ ⟨fun _ => HS9.out, ?_⟩
                clear hK K
                refine Open.end (by kernel_rfl) ?_
                go_wp2_with fail
                go_roundw
                case rel => exact ⟨j + 1, els9, lv9, by go_num, hjn, HL9, HT9, Hl9⟩
                case measure => simp [intOf]; omega
            · intro K hK
              refine ⟨_, rfl, rfl, ?_⟩
              go_simp
              have HC0 : Hid (Below wa0.heap.size wa0 (wa0.alloc (.cells #[.string s] 9))) := Sp.hid ((Below.refl _ _).alloc (Nat.le_refl _) _)
              have hsb0 := Nf.Below.heap_new wa0 (.cells #[.string s] 9)
              obtain ⟨sb, hsb⟩ : ∃ sb, wa0.heap.size = sb := ⟨_, rfl⟩
              obtain ⟨wa1, hwa⟩ : ∃ w', wa0.alloc (.cells #[.string s] 9) = w' := ⟨_, rfl⟩
              rw [hwa] at HC0 hsb0
              rw [hsb] at hsb0
              rw [hwa, hsb]
              have HB9 : Hid (wa1.heap[sb]? = some (.cells #[.string s] 9 (0, 0))) := Sp.hid hsb0
              have HC := HC0
              have HA1 : Hid (Below wr.heap.size wr wa1) := Sp.hid (HA0.out.trans (HC.out.mono HA0.out.size))
              clear hsb hwa hsb0 HC0
              refine hK _ _ ⟨fun _ => HSof.out _ HA1.out, ?_⟩
              clear hK K
              refine Open.one (i := 10) rfl (by kernel_rfl) rfl (fun K hK => ?_)
              go_simp
              refine (HStep.out wa1 HA1).mono ?_
              rintro e wa2 ⟨po, pl, pc, P, rfl, HP, HC⟩
              have HA2 : Hid (Below wr.heap.size wr wa2) := Sp.hid (HA1.out.trans (HC.out.mono HA1.out.size))
              refine hK _ _ ⟨fun _ => HSof.out _ HA2.out, ?_⟩
              clear hK K
              have HB9 := Sp.hid (Nf.blk_below HB9.out HC.out (Nf.blk_lt HB9.out))
              refine Open.one (i := 12) rfl (by kernel_rfl) rfl (fun K hK => ?_)
              refine Nf.wp_app_row uo U.length ucap U (Hur.out.below HA2.out) (by omega) _ _ (by rfl) (by rfl) (by rfl) ?_
              intro vo vn vc wa3 hown hbb
              have HC : Hid (Below wa2.heap.size wa2 wa3) := Sp.hid hbb
              have HU : Hid (wa3.ownsRow wr.heap.size 9 1 (.slice vo vn vc) U.length (U.map Value.string)) := Sp.hid (Nf.own_base hown HA2.out.size)
              have HA3 : Hid (Below wr.heap.size wr wa3) := Sp.hid (HA2.out.trans (hbb.mono HA2.out.size))
              clear hown hbb
              refine hK _ _ ⟨fun _ => HSof.out _ HA3.out, ?_⟩
              clear hK K
              have HP : Hid (wa3.ownsRow wr.heap.size 3 1 (.slice po pl pc) P.length (P.map Nf.num) ∧ Nf.Pool N P ∧ (∀ q, q ∈ P ↔ Nf.StepTo g (fun q => S q ∧ Nf.Ex g (k1 + 1) q) s q)) := Sp.hid ⟨HP.out.1.kept (row := none) ⟨HC.out.os, HC.out.tape, HC.out.output, HC.out.size, fun i hi _ => HC.out.block i hi⟩ (by cases (Value.slice po pl pc).ownBlock <;> simp), HP.out.2⟩
              have HB9 := Sp.hid (Nf.blk_below HB9.out HC.out (Nf.blk_lt HB9.out))
              refine Open.one (i := 18) rfl (by kernel_rfl) rfl (fun K hK => ?_)
              have hab := HA3.out.size
              refine wp_append_lies _ _ _ 22 (by rfl) wr.heap.size 9 j0 _ 1 16 Tryz.underlying22 hj9 hy0 hy1 hy2 rfl (by decide) (.slice vo vn vc) _ _ (by rfl) HU.out ⟨sb, 0, none⟩ 1 1 [.string s] (by rfl) rfl (World.news_of_block (cs := #[.string s]) (t := 9) (fr := (0, 0)) HB9.out) (by simp [Value.oneCell']) (by omega) ?_ ?_ ?_ wa3.heap.size rfl ?_
              · unfold maxLen; omega
              · omega
              · exact hab
              intro vb vcp wa4 hown hgrow hat hlt
              have HG9 : Hid (wa3.grownBy wa4 (Value.slice vo vn vc).ownBlock) := Sp.hid ⟨hgrow.os, hgrow.tape, hgrow.output, hgrow.size, hgrow.block⟩
              have HV : Hid (wa4.ownsRow wr.heap.size 9 1 (.slice (some ⟨vb, 0, none⟩) (U.length + 1) vcp) (U.length + 1) (U.map Value.string ++ [.string s])) := Sp.hid hown
              have HA4 : Hid (Below wr.heap.size wr wa4) := Sp.hid (HA3.out.grown HG9.out hab (fun k hk => (HU.out.lt k hk).1))
              clear hown hgrow hat hlt hab
              refine hK _ _ ⟨fun _ => HSof.out _ HA4.out, ?_⟩
              clear hK K
              have HP : Hid (wa4.ownsRow wr.heap.size 3 1 (.slice po pl pc) P.length (P.map Nf.num) ∧ Nf.Pool N P ∧ (∀ q, q ∈ P ↔ Nf.StepTo g (fun q => S q ∧ Nf.Ex g (k1 + 1) q) s q)) := Sp.hid ⟨HP.out.1.kept HG9.out (Nf.own_own_ne HP.out.1 HU.out (by decide)), HP.out.2⟩
              refine Open.one (i := 21) rfl (by kernel_rfl) rfl (fun K hK => ?_)
              go_simp
              refine (HSel.out wa4 po pl pc vb vcp P HA4 HP HV).mono ?_
              rintro e w8 ⟨rfl, els9, lv9, HL9, HT9, HS9, Hl9⟩
              refine hK _ _ ⟨fun _ => HS9.out, ?_⟩
              clear hK K
              refine Open.end (by kernel_rfl) ?_
              go_wp2_with fail
              go_roundw
              case rel => exact ⟨j + 1, els9, lv9, by go_num, hjn, HL9, HT9, Hl9⟩
              case measure => simp [intOf]; omega
          · have HE : Hid (Sp.lists els2 = (Sp.lists els ++ Wd).take (most + 1)) := Sp.hid (by
              have e : T.take j = T := List.take_of_length_le (by rw [HTl.out]; omega)
              rw [Hlr.out, e, ← HWT.out])
            go_wp2_with fail
            go_end0
            exact ⟨rfl, els2, lv2, HLr, Sp.hid (Ht5.out.trans Htr.out), HE⟩
end Go.Proofs.YtpoblcmjfcpiaaaGreat
