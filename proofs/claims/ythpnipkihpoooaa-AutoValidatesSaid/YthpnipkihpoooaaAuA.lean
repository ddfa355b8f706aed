/-
  The walks of pools: add.
-/
import Derived.Test.YthpnipkihpoooaaAuMem
import Derived.WalkKit
import Derived.WalkSpells
import Derived.WalkLawsBesides
set_option linter.unusedVariables false
namespace Go.Proofs.Ythpnipkihpoooaa
open Go.RowKit

set_option maxHeartbeats 400000 in
theorem add_old (base P N q : Nat) (L : List Nat) (w : World) (h : Nf.PoolAt w base P N L) (hq : q < N) (hm : q ∈ L) :
    Calls Try.prog 93 #[.pointer (some ⟨P, 0, none⟩), .int .i64 q] w fun e w' => e = .returned (.tuple #[]) ∧ w = w' := by
  obtain ⟨hp, hN, hbP, hb, lv, hb1, hP, hv, how⟩ := h
  have c0 : w.cell? ⟨P, 0, none⟩ = some (.slice (some ⟨hb, 0, none⟩) N N) := Nf.blk_cell (i := 0) hP rfl
  have d1 := hv.cell hq
  rw [decide_eq_true hm] at d1
  clear hm hP
  go_enter Try.func93, Try.ntmps93
  go_wp2_with fail
  go_end0
  exact ⟨rfl, rfl⟩

set_option maxHeartbeats 400000 in
set_option maxRecDepth 100000 in
theorem add_new (base P N q : Nat) (L : List Nat) (w : World) (h : Nf.PoolAt w base P N L) (hq : q < N) (hm : q ∉ L) (hB : base ≤ w.heap.size) :
    Calls Try.prog 93 #[.pointer (some ⟨P, 0, none⟩), .int .i64 q] w fun e w' => e = .returned (.tuple #[]) ∧ Nf.PoolAt w' base P N (L ++ [q]) ∧ Nf.PF base w w' := by
  obtain ⟨hp, hN, hbP, hb, lv, hb1, hP, hv, how⟩ := h
  have hpl := Sp.hid hp
  have hlen := hp.len
  have c0 : w.cell? ⟨P, 0, none⟩ = some (.slice (some ⟨hb, 0, none⟩) N N) := Nf.blk_cell (i := 0) hP rfl
  have c1 : w.cell? ⟨P, 1, none⟩ = some lv := Nf.blk_cell (i := 1) hP rfl
  have d1 := hv.cell hq
  rw [decide_eq_false hm] at d1
  have f1 := hv.free q
  have hbl := hv.lt
  have hPl := Nf.blk_lt hP
  obtain ⟨cur, hcur⟩ := Nf.Vec.blk hv
  have hne : hb ≠ P := Nf.blk_ne hcur hP (by decide)
  have hn1 : lv.ownBlock ≠ some hb := Nf.own_ne how hcur (by decide)
  have hn2 : lv.ownBlock ≠ some P := Nf.own_ne how hP (by decide)
  have how1 : ((w.setCell ⟨hb, q, none⟩ (.bool true)).alloc (.cells #[.int .i64 q] 3)).ownsRow base 3 1 lv L.length (L.map Nf.num) := (Nf.own_far how (a := ⟨hb, q, none⟩) hn1).alloc _
  have hP1 : ((w.setCell ⟨hb, q, none⟩ (.bool true)).alloc (.cells #[.int .i64 q] 3)).heap[P]? = _ := Nf.blk_alloc (Nf.blk_far hP (a := ⟨hb, q, none⟩) (fun e => hne e.symm) (.bool true)) _
  have hv1 : Vec Value.bool ((w.setCell ⟨hb, q, none⟩ (.bool true)).alloc (.cells #[.int .i64 q] 3)) hb 4 N N (fun i => decide (i ∈ L ++ [q])) := by
    refine (Nf.Vec.alloc_ (hv.set (i := q) true) _).congr fun i hi => ?_
    show (if i = q then true else decide (i ∈ L)) = _
    by_cases e : i = q
    · simp [e]
    · simp [e]
  have b1 : Below base w ((w.setCell ⟨hb, q, none⟩ (.bool true)).alloc (.cells #[.int .i64 q] 3)) := ((Below.refl _ _).setCell (p := ⟨hb, q, none⟩) hb1 _).alloc (by simpa [World.setCell] using hB) _
  have hpool := Sp.hid (show Nf.Pool N (L ++ [q]) by have := hp.ins hq; rwa [Nf.ins_new hm] at this)
  have Hcur := Sp.hid hcur
  have HP := Sp.hid hP
  have HP1 := Sp.hid hP1
  have Hv1 := Sp.hid hv1
  have B1 := Sp.hid b1
  have Hown := Sp.hid how.lt
  have Hown0 := Sp.hid how
  clear hm hcur hP hP1 hv1 b1 hp
  go_enter Try.func93, Try.ntmps93
  go_wp2_with (at_builtin; refine Nf.push_num rfl _ _ rfl base lv L rfl how1 q ⟨w.heap.size, 0, none⟩ 1 rfl ?c1 ?c2 ?c3 ?_)
  case c1 => simp [go_sem]
  case c2 => omega
  case c3 => exact Nat.le_trans hB B1.out.size
  intro v2 w2 hown2 hgrow2 hat2
  obtain ⟨g2, cap2, rfl⟩ := Nf.own_form hown2 (by simp)
  have hP2 := Nf.blk_grown HP1.out hgrow2 hn2
  have c2 : w2.cell? ⟨P, 1, none⟩ = some lv := Nf.blk_cell (i := 1) hP2 rfl
  have f2 := Nf.blk_free (i := 1) hP2
  have hv2 := Hv1.out.grown hgrow2 (fun e => hn1 e.symm)
  have k2 : ∀ (k : Nat) (cs : Array Value) (t : TypeId) (fr : Nat × Nat), w.heap[k]? = some (Obj.cells cs t fr) → ¬ Nf.Kind t → w2.heap[k]? = some (Obj.cells cs t fr) := fun k cs t fr hk hn => by
    have h1 : hb ≠ k := fun e => by subst e; have := Nf.blk_ne Hcur.out hk (fun e => hn (by subst e; exact .inr (.inl rfl))); exact this rfl
    refine Nf.blk_grown (Nf.blk_alloc (Nf.blk_far hk (a := ⟨hb, q, none⟩) (fun e => h1 e.symm) (.bool true)) _) hgrow2 ?_
    exact Nf.own_ne Hown0.out hk (fun e => hn (by subst e; exact .inr (.inr rfl)))
  have K2 := Sp.hid k2
  clear k2
  have b2 : Below base w w2 := B1.out.grown hgrow2 (by simp; omega) (fun k hk => (Hown.out k hk).1)
  have Hat2 := Sp.hid hat2
  have HP2 := Sp.hid hP2
  have Hv2 := Sp.hid hv2
  have B2 := Sp.hid b2
  have Hown2 := Sp.hid hown2
  clear hat2 hP2 hgrow2 hv2 b2 hown2
  go_wp2_with fail
  go_end0
  obtain ⟨cur2, hcur2⟩ := Nf.Vec.blk Hv2.out
  have hn3 := Nf.own_ne Hown2.out HP2.out (by decide)
  have hpf : ∀ (k : Nat) (cs : Array Value) (t : TypeId) (fr : Nat × Nat), w.heap[k]? = some (Obj.cells cs t fr) → ¬ Nf.Kind t → (w2.setCell ⟨P, 1, none⟩ (.slice (some ⟨g2, 0, none⟩) (L.length + 1) cap2)).heap[k]? = some (Obj.cells cs t fr) := fun k cs t fr hk hn => by
    refine Nf.blk_far (K2.out k cs t fr hk hn) (fun e => ?_) _
    have e : k = P := e
    subst e
    exact Nf.blk_ne HP.out hk (fun e => hn (by subst e; exact .inl rfl)) rfl
  refine ⟨rfl, ⟨hpool.out, hN, hbP, hb, _, hb1, ?_, Nf.Vec.far Hv2.out (a := ⟨P, 1, none⟩) hne _, by simpa using Nf.own_far Hown2.out (a := ⟨P, 1, none⟩) hn3⟩, B2.out.setCell (p := ⟨P, 1, none⟩) hbP _, hpf⟩
  exact Nf.blk_set HP2.out _

theorem add_any (base P N q : Nat) (L : List Nat) (w : World) (h : Nf.PoolAt w base P N L) (hq : q < N) (hB : base ≤ w.heap.size) :
    Calls Try.prog 93 #[.pointer (some ⟨P, 0, none⟩), .int .i64 q] w fun e w' => e = .returned (.tuple #[]) ∧ Nf.PoolAt w' base P N (Nf.ins L q) ∧ Nf.PF base w w' := by
  by_cases hm : q ∈ L
  · rw [Nf.ins_old hm]
    exact (add_old base P N q L w h hq hm).mono fun e w' ⟨he, hw⟩ => ⟨he, hw ▸ h, hw ▸ Nf.PF.refl _ _⟩
  · rw [Nf.ins_new hm]
    exact add_new base P N q L w h hq hm hB

end Go.Proofs.Ythpnipkihpoooaa
