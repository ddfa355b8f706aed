/-
  The walk of stepper.
-/
import Derived.Test.YteggofjldgjfiaaGreatMgAuT
set_option linter.unusedVariables false
set_option linter.unusedSimpArgs false
namespace Go.Proofs.YteggofjldgjfiaaGreat
open Go.RowKit
namespace Nf
def StepperPost (gb : Nat) (v : Gv) (g : Gr) (w : World) (e : Ending) (w' : World) : Prop :=
  ∃ bg bs sb sr, e = .returned (.func (.func 111) #[] #[.pointer (some ⟨bg, 0, none⟩), .pointer (some ⟨bs, 0, none⟩)]) ∧ w'.heap[bg]? = some (.cells #[.pointer (some ⟨gb, 0, none⟩)] 55 (0, 0)) ∧
    SeenAt w' bs sb sr v.sn g.N (fun _ _ => false) ∧ (∀ x, x < v.sn → w.heap.size ≤ sr x) ∧ Below w.heap.size w w' ∧ w.heap.size ≤ bg ∧ w.heap.size ≤ bs ∧ w.heap.size ≤ sb
/-- The first x rows are made. -/
structure SeenPart (w0 w : World) (gb bg bs sb k N x : Nat) (sr : Nat → Nat) : Prop where
  bgb : w.heap[bg]? = some (.cells #[.pointer (some ⟨gb, 0, none⟩)] 55 (0, 0))
  var : w.heap[bs]? = some (.cells #[.slice (some ⟨sb, 0, none⟩) k k] 112 (0, 0))
  tab : Vec id w sb 59 k k (fun y => if y < x then .slice (some ⟨sr y, 0, none⟩) N N else .slice none 0 0)
  row : ∀ y, y < x → Vec Value.bool w (sr y) 4 N N (fun _ => false)
  inj : ∀ y z, y < x → z < x → sr y = sr z → y = z
  base : ∀ y, y < x → w0.heap.size ≤ sr y
  below : Below w0.heap.size w0 w
  sbb : w0.heap.size ≤ sb
theorem SeenPart.next {w0 w : World} {gb bg bs sb k N x : Nat} {sr : Nat → Nat} (h : SeenPart w0 w gb bg bs sb k N x sr) (hx : x < k) (hN : N ≤ 3000) :
    SeenPart w0 ((w.alloc (.cells (madeCells #[.bool false] N) 4)).setCell ⟨sb, x, none⟩ (.slice (some ⟨w.heap.size, 0, none⟩) N N)) gb bg bs sb k N (x + 1) (fun y => if y = x then w.heap.size else sr y) := by
  have htab := Vec.alloc_ h.tab (.cells (madeCells #[.bool false] N) 4)
  obtain ⟨ct, hct⟩ := Vec.blk htab
  have key : ∀ {b : Nat} {c : Array Value} {t : TypeId} {f : Nat × Nat}, (w.alloc (.cells (madeCells #[.bool false] N) 4)).heap[b]? = some (.cells c t f) → t ≠ 59 → ((w.alloc (.cells (madeCells #[.bool false] N) 4)).setCell ⟨sb, x, none⟩ (.slice (some ⟨w.heap.size, 0, none⟩) N N)).heap[b]? = some (.cells c t f) := fun hb hne =>
    blk_far hb (a := ⟨sb, x, none⟩) (fun e => blk_ne hb hct hne e) _
  have hlt : ∀ y, y < x → sr y < w.heap.size := fun y hy => (h.row y hy).lt
  refine ⟨key (blk_alloc h.bgb _) (by decide), key (blk_alloc h.var _) (by decide), ?_, fun y hy => ?_, fun y z hy hz he => ?_, fun y hy => ?_, (h.below.alloc h.below.size _).setCell (p := ⟨sb, x, none⟩) h.sbb _, h.sbb⟩
  · refine (htab.set (i := x) (.slice (some ⟨w.heap.size, 0, none⟩) N N)).congr fun y hy => ?_
    show (if y = x then _ else _) = _
    by_cases e : y = x
    · simp [e]
    · by_cases e2 : y < x
      · simp [e, e2, show y < x + 1 by omega]
      · simp [e, e2, show ¬ y < x + 1 by omega]
  · by_cases e : y = x
    · subst e
      simp only [if_true]
      obtain ⟨c, h1, h2⟩ := vec_made_bool (Below.heap_new w (.cells (madeCells #[.bool false] N) 4)) hN
      exact ⟨c, key h1 (by decide), h2⟩
    · simp only [e, if_false]
      obtain ⟨c, h1, h2⟩ := h.row y (by omega)
      exact ⟨c, key (blk_alloc h1 _) (by decide), h2⟩
  · by_cases e : y = x
    · by_cases e2 : z = x
      · omega
      · simp only [e, e2, if_true, if_false] at he
        have := hlt z (by omega); omega
    · by_cases e2 : z = x
      · simp only [e, e2, if_true, if_false] at he
        have := hlt y (by omega); omega
      · simp only [e, e2, if_false] at he
        exact h.inj y z (by omega) (by omega) he
  · by_cases e : y = x
    · simp only [e, if_true]; exact h.below.size
    · simp only [e, if_false]; exact h.base y (by omega)
theorem boolRowInfo : (Tryz.prog.info? 59).map (fun i => (i.zero, i.size, i.bytes)) = some (some (.slice none 0 0), 1, 24) := by kernel_rfl
end Nf

set_option maxHeartbeats 2000000 in
set_option maxRecDepth 100000 in
theorem stepper_any (w : World) (gb : Nat) (v : Nf.Gv) (g : Nf.Gr) (hG : Nf.GrAt w gb v g) :
    Calls Tryz.prog 94 #[.pointer (some ⟨gb, 0, none⟩)] w (Nf.StepperPost gb v g w) := by
  obtain ⟨i0, hi, hz0, hz1, hz2⟩ := info_parts Nf.boolRowInfo
  have hN := hG.small
  have hk40 := hG.sn
  have HG := Sp.hid hG
  have gblt := Nf.blk_lt hG.blk
  have c0 : w.cell? ⟨gb, 0, none⟩ = some (.slice v.so v.sn v.scap) := Nf.blk_cell (i := 0) hG.blk rfl
  clear hG
  go_enter Tryz.func94, Tryz.ntmps94
  go_wp2_with (at_make; refine wpList_make_row _ rfl _ _ 112 rfl 59 i0 (.slice none 0 0) Tryz.underlying112 hi hz0 hz1 rfl _ _ v.sn rfl rfl ?c1 ?c2 ?_)
  case c1 => rw [hz2]; omega
  case c2 => omega
  have hp : Nf.SeenPart w (((w.alloc (.cells #[.pointer (some ⟨gb, 0, none⟩)] 55)).alloc (.cells (madeCells #[.slice none 0 0] v.sn) 59)).alloc (.cells #[.slice (some ⟨w.heap.size + 1, 0, none⟩) v.sn v.sn] 112)) gb w.heap.size (w.heap.size + 1 + 1) (w.heap.size + 1) v.sn g.N 0 (fun _ => 0) := by
    have h3 := Nf.Below.heap_new ((w.alloc (.cells #[.pointer (some ⟨gb, 0, none⟩)] 55)).alloc (.cells (madeCells #[.slice none 0 0] v.sn) 59)) (.cells #[.slice (some ⟨w.heap.size + 1, 0, none⟩) v.sn v.sn] 112)
    have h4 : ((w.alloc (.cells #[.pointer (some ⟨gb, 0, none⟩)] 55)).alloc (.cells (madeCells #[.slice none 0 0] v.sn) 59)).heap.size = w.heap.size + 1 + 1 := by simp
    rw [h4] at h3
    refine ⟨Nf.blk_alloc (Nf.blk_alloc (Nf.Below.heap_new w _) _) _, h3, ?_, fun y hy => absurd hy (by omega), fun y z hy => absurd hy (by omega), fun y hy => absurd hy (by omega), (((Below.refl _ w).alloc (Nat.le_refl _) _).alloc (by simp) _).alloc (by simp; omega) _, by omega⟩
    exact (Nf.Vec.alloc_ (Nf.vec_made (heap_alloc2_new w _ _) (by omega)) _).congr fun y _ => by simp
  obtain ⟨w1, hw1⟩ : ∃ w1, (((w.alloc (.cells #[.pointer (some ⟨gb, 0, none⟩)] 55)).alloc (.cells (madeCells #[.slice none 0 0] v.sn) 59)).alloc (.cells #[.slice (some ⟨w.heap.size + 1, 0, none⟩) v.sn v.sn] 112)) = w1 := ⟨_, rfl⟩
  rw [hw1] at hp ⊢
  have Hp := Sp.hid hp
  clear hw1 hp
  obtain ⟨sb, hsb⟩ : ∃ sb, w.heap.size + 1 = sb := ⟨_, rfl⟩
  have Hsb := Sp.hid hsb
  rw [hsb] at Hp ⊢
  obtain ⟨bs, hbs⟩ : ∃ bs, sb + 1 = bs := ⟨_, rfl⟩
  have Hbs := Sp.hid hbs
  rw [hbs] at Hp ⊢
  obtain ⟨bg, hbg⟩ : ∃ bg, w.heap.size = bg := ⟨_, rfl⟩
  have Hbg := Sp.hid hbg
  clear hsb hbs hbg
  rw [show (⟨w.heap.size, 0, none⟩ : Addr) = ⟨bg, 0, none⟩ by rw [Hbg.out]]
  have Hp2 := Sp.hid (show Nf.SeenPart w w1 gb bg bs sb v.sn g.N 0 (fun _ => 0) by rw [← Hbg.out]; exact Hp.out)
  have d0 : w1.cell? ⟨bs, 0, none⟩ = some (.slice (some ⟨sb, 0, none⟩) v.sn v.sn) := Nf.blk_cell (i := 0) Hp2.out.var rfl
  clear Hp c0
  go_wp2_with fail
  go_loopw [4, 13] (fun _ i wr => ∃ (x : Nat) (sr : Nat → Nat), i = .int .i64 x ∧ x ≤ v.sn ∧ Nf.SeenPart w wr gb bg bs sb v.sn g.N x sr) (fun _ i _ => v.sn - (intOf i).toNat)
  case atStart => exact ⟨0, _, rfl, Nat.zero_le _, Hp2.out⟩
  case round =>
    clear d0
    obtain ⟨x, sr, rfl, hxk, hpart⟩ := hrel
    have Hpart := Sp.hid hpart
    by_cases hx : x < v.sn
    · have k1 : wr.cell? ⟨bs, 0, none⟩ = some (.slice (some ⟨sb, 0, none⟩) v.sn v.sn) := Nf.blk_cell (i := 0) hpart.var rfl
      have k2 : wr.cell? ⟨bg, 0, none⟩ = some (.pointer (some ⟨gb, 0, none⟩)) := Nf.blk_cell (i := 0) hpart.bgb rfl
      have k3 : wr.cell? ⟨gb, 1, none⟩ = some (.slice (some ⟨v.eb, 0, none⟩) g.N g.N) := by rw [hpart.below.cell (p := ⟨gb, 1, none⟩) gblt]; exact Nf.blk_cell (i := 1) HG.out.blk rfl
      have kt := hpart.tab.cell hx
      have f3 := hpart.tab.free x
      have l1 := Nf.blk_lt hpart.var
      have l2 := Nf.blk_lt hpart.bgb
      have l3 : gb < wr.heap.size := by have := hpart.below.size; omega
      have l4 := hpart.tab.lt
      have hmk : ∀ w : World, (Instr.makeSlice 59 (.int .i64 (g.N : Int)) (.int .i64 (g.N : Int))).run Tryz.prog w = .ok (.slice (some ⟨w.heap.size, 0, none⟩) g.N g.N) (w.alloc (.cells (madeCells #[.bool false] g.N) 4)) := fun w => run_make_row' _ _ _ 1 Tryz.underlying59 Nf.boolInfo rfl _ _ g.N (by omega) (by omega) w
      simp only [id] at kt
      rw [if_neg (by omega)] at kt
      have hx0 : (0 : Int) ≤ (x : Int) := by omega
      have hxi : (x : Int) < (v.sn : Int) := by omega
      have hnx := Sp.hid (hpart.next hx hN)
      clear hpart
      go_wp2_with fail
      refine Open.begin (S := fun w' => w'.cell? ⟨bs, 0, none⟩ = some (.slice (some ⟨sb, 0, none⟩) v.sn v.sn) ∧ w'.cell? ⟨bg, 0, none⟩ = some (.pointer (some ⟨gb, 0, none⟩)) ∧ w'.cell? ⟨gb, 1, none⟩ = some (.slice (some ⟨v.eb, 0, none⟩) g.N g.N)) (z := 9) (by kernel_rfl) ?_
      have HS : wr.drew.cell? ⟨bs, 0, none⟩ = some (.slice (some ⟨sb, 0, none⟩) v.sn v.sn) ∧ wr.drew.cell? ⟨bg, 0, none⟩ = some (.pointer (some ⟨gb, 0, none⟩)) ∧ wr.drew.cell? ⟨gb, 1, none⟩ = some (.slice (some ⟨v.eb, 0, none⟩) g.N g.N) := ⟨k1, k2, k3⟩
      refine Open.take (i := 0) (v := ?_) rfl (by kernel_rfl) (by kernel_rfl) (by kernel_rfl) (by kernel_rfl) (fun _ _ _ h => h) HS (Or.inl ⟨rfl, ?_⟩) ?_
      rotate_left
      · rintro w' ⟨k1, k2, k3⟩
        go_simp
        try rfl
      simp only [Act.put, List.setIfInBounds_toArray, List.set_cons_zero, List.set_cons_succ]
      refine Open.take (i := 1) (v := ?_) rfl (by kernel_rfl) (by kernel_rfl) (by kernel_rfl) (by kernel_rfl) (fun _ _ _ h => h) HS (Or.inl ⟨rfl, ?_⟩) ?_
      rotate_left
      · rintro w' ⟨k1, k2, k3⟩
        go_simp
        try rfl
      simp only [Act.put, List.setIfInBounds_toArray, List.set_cons_zero, List.set_cons_succ]
      refine Open.take (i := 2) (v := ?_) rfl (by kernel_rfl) (by kernel_rfl) (by kernel_rfl) (by kernel_rfl) (fun _ _ _ h => h) HS (Or.inl ⟨rfl, ?_⟩) ?_
      rotate_left
      · rintro w' ⟨k1, k2, k3⟩
        go_simp
        try rfl
      simp only [Act.put, List.setIfInBounds_toArray, List.set_cons_zero, List.set_cons_succ]
      refine Open.take (i := 3) (v := ?_) rfl (by kernel_rfl) (by kernel_rfl) (by kernel_rfl) (by kernel_rfl) (fun _ _ _ h => h) HS (Or.inl ⟨rfl, ?_⟩) ?_
      rotate_left
      · rintro w' ⟨k1, k2, k3⟩
        go_simp
        try rfl
      simp only [Act.put, List.setIfInBounds_toArray, List.set_cons_zero, List.set_cons_succ]
      refine Open.take (i := 4) (v := ?_) rfl (by kernel_rfl) (by kernel_rfl) (by kernel_rfl) (by kernel_rfl) (fun _ _ _ h => h) HS (Or.inl ⟨rfl, ?_⟩) ?_
      rotate_left
      · rintro w' ⟨k1, k2, k3⟩
        go_simp
        try rfl
      simp only [Act.put, List.setIfInBounds_toArray, List.set_cons_zero, List.set_cons_succ]
      refine Open.take (i := 5) (v := ?_) rfl (by kernel_rfl) (by kernel_rfl) (by kernel_rfl) (by kernel_rfl) (fun _ _ _ h => h) HS (Or.inl ⟨rfl, ?_⟩) ?_
      rotate_left
      · rintro w' ⟨k1, k2, k3⟩
        go_simp
        try rfl
      simp only [Act.put, List.setIfInBounds_toArray, List.set_cons_zero, List.set_cons_succ]
      refine Open.take (i := 6) (v := ?_) rfl (by kernel_rfl) (by kernel_rfl) (by kernel_rfl) (by kernel_rfl) (fun _ _ _ h => h) HS (Or.inl ⟨rfl, ?_⟩) ?_
      rotate_left
      · rintro w' ⟨k1, k2, k3⟩
        go_simp
        try rfl
      simp only [Act.put, List.setIfInBounds_toArray, List.set_cons_zero, List.set_cons_succ]
      refine Open.one (i := 7) rfl (by kernel_rfl) rfl (fun K hK => ?_)
      go_simp
      obtain ⟨w2, hw2⟩ : ∃ w2, wr.alloc (.cells (madeCells #[.bool false] g.N) 4) = w2 := ⟨_, rfl⟩
      have HS : w2.drew.cell? ⟨bs, 0, none⟩ = some (.slice (some ⟨sb, 0, none⟩) v.sn v.sn) ∧ w2.drew.cell? ⟨bg, 0, none⟩ = some (.pointer (some ⟨gb, 0, none⟩)) ∧ w2.drew.cell? ⟨gb, 1, none⟩ = some (.slice (some ⟨v.eb, 0, none⟩) g.N g.N) := by
        rw [← hw2]
        exact ⟨by simpa [World.cell?_alloc_past _ _ _ l1] using k1, by simpa [World.cell?_alloc_past _ _ _ l2] using k2, by simpa [World.cell?_alloc_past _ _ _ l3] using k3⟩
      have kt2 : w2.drew.cell? ⟨sb, x, none⟩ = some (.slice none 0 0) := by rw [← hw2]; simpa [World.cell?_alloc_past _ _ _ l4] using kt
      have f32 : w2.drew.frozen? ⟨sb, x, none⟩ = false := by rw [← hw2]; simpa [World.frozen?_alloc_past _ _ _ l4] using f3
      rw [hw2] at hnx ⊢
      clear hw2
      refine hK _ _ ⟨fun _ => HS, ?_⟩
      clear hK K
      refine Open.take (i := 8) (v := ?_) rfl (by kernel_rfl) (by kernel_rfl) (by kernel_rfl) (by kernel_rfl) (fun _ _ _ h => h) HS (Or.inl ⟨rfl, ?_⟩) ?_
      rotate_left
      · rintro w' ⟨k1, k2, k3⟩
        go_simp
        try rfl
      simp only [Act.put, List.setIfInBounds_toArray, List.set_cons_zero, List.set_cons_succ]
      refine Open.one (i := 9) rfl (by kernel_rfl) rfl (fun K hK => ?_)
      go_simp
      refine hK _ _ ⟨fun e => absurd rfl e, ?_⟩
      clear hK K HS k1 k2 k3 kt f3 kt2 f32 l1 l2 l3 l4 hmk
      refine Open.end (by kernel_rfl) ?_
      go_wp2_with fail
      go_roundw
      case rel => exact ⟨x + 1, _, by go_num, hx, ⟨hnx.out.bgb, hnx.out.var, hnx.out.tab, hnx.out.row, hnx.out.inj, hnx.out.base, hnx.out.below.drew, hnx.out.sbb⟩⟩
      case measure => simp [intOf]; omega
    · have hxe : x = v.sn := by omega
      have Hxe := Sp.hid hxe
      clear hpart hxe
      go_wp2_with fail
      go_ret
      refine ⟨bg, bs, sb, sr, rfl, Hpart.out.bgb, ⟨Hpart.out.var, Hpart.out.tab.congr fun y hy => by rw [if_pos (by rw [Hxe.out]; exact hy)], fun y hy => Hpart.out.row y (by rw [Hxe.out]; exact hy), fun y z hy hz => Hpart.out.inj y z (by rw [Hxe.out]; exact hy) (by rw [Hxe.out]; exact hz)⟩, fun y hy => Hpart.out.base y (by rw [Hxe.out]; exact hy), Hpart.out.below, ?_, ?_, ?_⟩
      · have := Hbg.out; omega
      · have := Hsb.out; have := Hbs.out; omega
      · have := Hsb.out; omega

end Go.Proofs.YteggofjldgjfiaaGreat
