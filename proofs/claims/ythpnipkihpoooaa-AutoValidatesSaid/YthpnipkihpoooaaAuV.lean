/-
  The walk of what takes a word.
-/
import Derived.Test.YthpnipkihpoooaaAuCl
set_option linter.unusedVariables false
set_option linter.unusedSimpArgs false
namespace Go.Proofs.Ythpnipkihpoooaa
open Go.RowKit
namespace Nf
def TakePost (base cl cw gw len most : Nat) (els : List Lst) (u : List ByteArray) (w : World) (e : Ending) (w' : World) : Prop :=
  ∃ (x : Lst) (lv' : Value), e = .returned (.bool (decide (els.length + 1 ≤ most))) ∧ x.l = u ∧ LW w' base cl cw gw len (els ++ [x]) lv' u ∧ TF base w w'
end Nf

set_option maxHeartbeats 2000000 in
set_option maxRecDepth 100000 in
theorem take_any (w : World) (base cl cw gw len cm most : Nat) (els : List Lst) (lv : Value) (u : List ByteArray) (h : Nf.LW w base cl cw gw len els lv u) (hm : w.heap[cm]? = some (.cells #[.int .i64 (most : Int)] 3 (0, 0))) (hlen : len ≤ 60) (hel : els.length ≤ most) (hmost : most ≤ 1000) :
    Calls Try.prog 71 #[.slice (some ⟨gw, 0, none⟩) u.length len, .pointer (some ⟨cl, 0, none⟩), .pointer (some ⟨cm, 0, none⟩)] w (Nf.TakePost base cl cw gw len most els u w) := by
  obtain ⟨i0, hi, hz0, hz1, hz2⟩ := info_parts Nf.rowInfoS
  have hul : u.length ≤ len := h.wrow.choose_spec.2.2.1
  have HC := Sp.hid (Nf.cloneT_any (some ⟨gw, 0, none⟩) u.length len u w.drew (h.row (by unfold maxLen; omega)) (by omega))
  have k1 : w.cell? ⟨cl, 0, none⟩ = some lv := Nf.blk_cell (i := 0) h.lvar rfl
  have Hh := Sp.hid h
  have Hm := Sp.hid hm
  clear h hm
  go_enter Try.func71, Try.ntmps71
  go_wp2_with fail
  refine Open.begin (S := fun w' => w'.cell? ⟨cl, 0, none⟩ = some lv) (z := 5) (by kernel_rfl) ?_
  have HS : w.drew.cell? ⟨cl, 0, none⟩ = some lv := k1
  refine Open.take (i := 0) (v := ?_) rfl (by kernel_rfl) (by kernel_rfl) (by kernel_rfl) (by kernel_rfl) (fun _ _ _ h => h) HS (Or.inl ⟨rfl, ?_⟩) ?_
  rotate_left
  · intro w' k1
    go_simp
    try rfl
  simp only [Act.put, List.setIfInBounds_toArray, List.set_cons_zero, List.set_cons_succ]
  refine Open.take (i := 1) (v := ?_) rfl (by kernel_rfl) (by kernel_rfl) (by kernel_rfl) (by kernel_rfl) (fun _ _ _ h => h) HS (Or.inl ⟨rfl, ?_⟩) ?_
  rotate_left
  · intro w' k1
    go_simp
    try rfl
  simp only [Act.put, List.setIfInBounds_toArray, List.set_cons_zero, List.set_cons_succ]
  refine Open.one (i := 2) rfl (by kernel_rfl) rfl (fun K hK => ?_)
  go_simp
  refine HC.out.mono ?_
  rintro e w2 ⟨v, rfl, x, rfl, hxl, hxr, hxt, hb2⟩
  have hb : Below w.heap.size w w2 := (Below.refl _ w).drew.trans hb2
  have Hb := Sp.hid hb
  have hL2 := Hh.out.below hb
  have m1 : w2.cell? ⟨cl, 0, none⟩ = some lv := Nf.blk_cell (i := 0) hL2.lvar rfl
  refine hK _ _ ⟨fun _ => m1, ?_⟩
  clear hK K HS HC
  have Hxt := Sp.hid hxt
  have Hxr := Sp.hid hxr
  have Hxl := Sp.hid hxl
  have l1 := Nf.blk_lt hL2.lvar
  have o1 : lv.ownBlock ≠ some cl := Nf.own_ne hL2.lown hL2.lvar (by decide)
  have HL2 := Sp.hid hL2
  have hrow2 : ((w2.alloc (.cells #[x.val] 22))).ownsRow base 22 1 lv els.length (els.map Lst.val) := hL2.lown.alloc _
  have Hrow2 := Sp.hid hrow2
  have hbw := hL2.bw
  have f1 := Nf.blk_free (i := 0) hL2.lvar
  obtain ⟨xo, xn, xc, xl⟩ := x
  simp only at Hxt Hxr Hxl
  clear hxt hxr hxl hL2 hrow2 hb hb2
  refine Open.one (i := 3) rfl (by kernel_rfl) rfl (fun K hK => ?_)
  go_simp
  refine hK _ _ ⟨fun _ => ?_, ?_⟩
  · simpa [World.cell?_alloc_past _ _ _ l1] using m1
  clear hK K
  refine Open.one (i := 4) rfl (by kernel_rfl) rfl (fun K hK => ?_)
  refine wp_append_lies _ _ _ 41 (by rfl) base 22 i0 _ 1 24 Try.underlying41 hi hz0 hz1 hz2 rfl (by decide) lv _ _ (by rfl) Hrow2.out ⟨w2.heap.size, 0, none⟩ 1 1 [.slice xo xn xc] (by rfl) rfl (World.news_of_block (cs := #[.slice xo xn xc]) (t := 22) (fr := (0, 0)) (heap_alloc_new w2 _)) (by simp [Value.oneCell']) (by omega) ?_ ?_ ?_ (w2.heap.size + 1) (by simp) ?_
  · unfold maxLen; omega
  · omega
  · simp; omega
  intro g cap w3 hown3 hgrow3 hat3 hlt3
  have hl1 : cl < ((w2.alloc (.cells #[.slice xo xn xc] 22))).heap.size := by simp; omega
  have m2 : w3.cell? ⟨cl, 0, none⟩ = some lv := by rw [hgrow3.cell_far ⟨cl, 0, none⟩ hl1 (Ne.symm o1)]; simpa [World.cell?_alloc_past _ _ _ l1] using m1
  have m3 : w3.frozen? ⟨cl, 0, none⟩ = false := by rw [hgrow3.frozen_far ⟨cl, 0, none⟩ hl1 (Ne.symm o1)]; simpa [World.frozen?_alloc_past _ _ _ l1] using f1
  have hgr : w2.grownBy w3 lv.ownBlock := World.grownBy.trans (World.grownBy_alloc w2 (.cells #[.slice xo xn xc] 22) _) ⟨hgrow3.os, hgrow3.tape, hgrow3.output, hgrow3.size, hgrow3.block⟩
  have hat4 : lv.ownBlock = (Value.slice (some ⟨g, 0, none⟩) (els.length + 1) cap).ownBlock ∨ ∃ g', (Value.slice (some ⟨g, 0, none⟩) (els.length + 1) cap).ownBlock = some g' ∧ w2.heap.size ≤ g' := by
    rcases hat3 with h3 | h3
    · exact .inl h3
    · exact .inr ⟨g, rfl, by omega⟩
  have hgwl := Nf.blk_lt Hh.out.wrow.choose_spec.1
  have hxT : Nf.RowT w2 gw ⟨xo, xn, xc, xl⟩ := ⟨Hxr.out, fun h0 => by
    obtain ⟨a, cs, ha, hb, hc⟩ := Hxt.out h0
    have hc : w.heap.size ≤ a.block := hc
    exact ⟨a, cs, ha, hb, by omega⟩⟩
  have hp := HL2.out.push (x := ⟨xo, xn, xc, xl⟩) hxT hgr hown3 hat4
  have Hp := Sp.hid hp.1
  have Ht := Sp.hid ((Nf.TF.of_below Hb.out Hh.out.bw).trans hp.2)
  refine hK _ _ ⟨fun _ => m2, ?_⟩
  clear hK K hp hxT hat4 hgr hl1 hown3 hgrow3 hat3 hlt3 Hrow2
  have HS : w3.cell? ⟨cl, 0, none⟩ = some lv := m2
  refine Open.one (i := 5) rfl (by kernel_rfl) rfl (fun K hK => ?_)
  go_simp
  refine hK _ _ ⟨fun e => absurd rfl e, ?_⟩
  clear hK K HS m1 m2 m3
  refine Open.end (by kernel_rfl) ?_
  obtain ⟨w4, hw4⟩ : ∃ w4, w3.setCell ⟨cl, 0, none⟩ (.slice (some ⟨g, 0, none⟩) (els.length + 1) cap) = w4 := ⟨_, rfl⟩
  rw [hw4] at Hp Ht ⊢
  have q1 : w4.cell? ⟨cl, 0, none⟩ = some (.slice (some ⟨g, 0, none⟩) (els.length + 1) cap) := Nf.blk_cell (i := 0) Hp.out.lvar rfl
  have q2 : w4.cell? ⟨cm, 0, none⟩ = some (.int .i64 most) := Nf.blk_cell (i := 0) (Ht.out.keep cm _ _ _ Hm.out (by unfold Nf.KindW; decide)) rfl
  clear hw4
  go_wp2_with fail
  go_ret
  refine ⟨⟨xo, xn, xc, xl⟩, _, ?_, Hxl.out, Hp.out, Ht.out⟩
  congr 2
  simp
  omega

end Go.Proofs.Ythpnipkihpoooaa
