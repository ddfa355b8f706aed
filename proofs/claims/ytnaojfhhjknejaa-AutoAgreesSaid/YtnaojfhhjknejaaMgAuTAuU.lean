/-
  The walk of one step: the next set for each symbol.
-/
import Derived.Test.YtnaojfhhjknejaaMgAuSpAuS
import Derived.Test.YtnaojfhhjknejaaMgAuAAuBAuCAuD
set_option linter.unusedVariables false
set_option linter.unusedSimpArgs false
namespace Go.Proofs.Ytnaojfhhjknejaa
open Go.RowKit
namespace Nf

def RS (g : Gr) (S : Nat → Prop) (a b : Nat) : Prop := E g a b ∧ S b
/-- What a set leads to by symbol number x: first, and closed. -/
def T1 (v : Gv) (S : Nat → Prop) (l : List Nat) (x y : Nat) : Prop := S y ∧ ∃ q, q ∈ l ∧ (x, y) ∈ v.Mv q
def T2 (g : Gr) (v : Gv) (S : Nat → Prop) (l : List Nat) (x y : Nat) : Prop := ∃ z, T1 v S l x z ∧ Star (RS g S) z y
def StepInv (v : Gv) (S : Nat → Prop) (k N : Nat) (l : List Nat) (F : Nat → Nat → Bool) (L : Nat → List Nat) : Prop :=
  ∀ x, x < k → Pool N (L x) ∧ (∀ y, y ∈ L x ↔ T1 v S l x y) ∧ ∀ y, F x y = decide (y ∈ L x)
def StepMid (v : Gv) (S : Nat → Prop) (k N : Nat) (l : List Nat) (q m : Nat) (F : Nat → Nat → Bool) (L : Nat → List Nat) : Prop :=
  ∀ x, x < k → Pool N (L x) ∧ (∀ y, y ∈ L x ↔ T1 v S l x y ∨ (S y ∧ (x, y) ∈ (v.Mv q).take m)) ∧ ∀ y, F x y = decide (y ∈ L x)
theorem StepInv.mid {v : Gv} {S : Nat → Prop} {k N : Nat} {l : List Nat} {F : Nat → Nat → Bool} {L : Nat → List Nat} (h : StepInv v S k N l F L) (q : Nat) : StepMid v S k N l q 0 F L := fun x hx => ⟨(h x hx).1, fun y => by rw [(h x hx).2.1 y]; simp, (h x hx).2.2⟩
theorem StepMid.inv {v : Gv} {S : Nat → Prop} {k N : Nat} {l : List Nat} {q m : Nat} {F : Nat → Nat → Bool} {L : Nat → List Nat} (h : StepMid v S k N l q m F L) (hm : (v.Mv q).length ≤ m) : StepInv v S k N (l ++ [q]) F L := fun x hx => ⟨(h x hx).1, fun y => by
  rw [(h x hx).2.1 y, List.take_of_length_le hm]
  unfold T1
  constructor
  · rintro (⟨h1, r, h2, h3⟩ | ⟨h1, h2⟩)
    · exact ⟨h1, r, by simp [h2], h3⟩
    · exact ⟨h1, q, by simp, h2⟩
  · rintro ⟨h1, r, h2, h3⟩
    rcases List.mem_append.1 h2 with h2 | h2
    · exact .inl ⟨h1, r, h2, h3⟩
    · simp at h2; subst h2; exact .inr ⟨h1, h3⟩, (h x hx).2.2⟩
theorem mv_take {v : Gv} {q m : Nat} {a : Nat × Nat} (hm : (v.Mv q)[m]? = some a) : (v.Mv q).take (m + 1) = (v.Mv q).take m ++ [a] := by
  obtain ⟨h1, h2⟩ := List.getElem?_eq_some_iff.1 hm
  rw [List.take_succ_eq_append_getElem h1, h2]
theorem StepMid.skip {v : Gv} {S : Nat → Prop} {k N : Nat} {l : List Nat} {q m x0 y0 : Nat} {F : Nat → Nat → Bool} {L : Nat → List Nat} (h : StepMid v S k N l q m F L) (hm : (v.Mv q)[m]? = some (x0, y0)) (hx0 : x0 < k) (hno : ¬ S y0 ∨ F x0 y0 = true) : StepMid v S k N l q (m + 1) F L := fun x hx => ⟨(h x hx).1, fun y => by
  rw [(h x hx).2.1 y, mv_take hm]
  constructor
  · rintro (h1 | ⟨h1, h2⟩)
    · exact .inl h1
    · exact .inr ⟨h1, by simp [h2]⟩
  · rintro (h1 | ⟨h1, h2⟩)
    · exact .inl h1
    · rcases List.mem_append.1 h2 with h2 | h2
      · exact .inr ⟨h1, h2⟩
      · simp at h2
        obtain ⟨rfl, rfl⟩ := h2
        have hf := hno.resolve_left (fun h => h h1)
        rw [(h x hx).2.2] at hf
        exact ((h x hx).2.1 y).1 (by simpa using hf), (h x hx).2.2⟩
theorem StepMid.add {v : Gv} {S : Nat → Prop} {k N : Nat} {l : List Nat} {q m x0 y0 : Nat} {F : Nat → Nat → Bool} {L : Nat → List Nat} (h : StepMid v S k N l q m F L) (hm : (v.Mv q)[m]? = some (x0, y0)) (hx0 : x0 < k) (hy0 : y0 < N) (hs : S y0) (hf : F x0 y0 = false) :
    StepMid v S k N l q (m + 1) (fun y r => if y = x0 ∧ r = y0 then true else F y r) (fun y => if y = x0 then L x0 ++ [y0] else L y) := by
  have hn : y0 ∉ L x0 := by have := (h x0 hx0).2.2 y0; rw [hf] at this; simpa using this.symm
  intro x hx
  by_cases e : x = x0
  · subst e
    simp only [if_true, true_and]
    refine ⟨by have := (h x hx).1.ins hy0; rwa [ins_new hn] at this, fun y => ?_, fun y => ?_⟩
    · rw [List.mem_append, (h x hx).2.1 y, mv_take hm, List.mem_append]
      simp only [List.mem_singleton, Prod.mk.injEq, true_and]
      constructor
      · rintro ((h1 | ⟨h1, h2⟩) | rfl)
        · exact .inl h1
        · exact .inr ⟨h1, .inl h2⟩
        · exact .inr ⟨hs, .inr rfl⟩
      · rintro (h1 | ⟨h1, h2 | rfl⟩)
        · exact .inl (.inl h1)
        · exact .inl (.inr ⟨h1, h2⟩)
        · exact .inr rfl
    · by_cases e2 : y = y0
      · simp [e2]
      · simp [e2, (h x hx).2.2 y]
  · simp only [e, if_false, false_and]
    refine ⟨(h x hx).1, fun y => ?_, (h x hx).2.2⟩
    rw [(h x hx).2.1 y, mv_take hm, List.mem_append]
    have : ((x, y) : Nat × Nat) ∉ [(x0, y0)] := by simp [e]
    constructor
    · rintro (h1 | ⟨h1, h2⟩)
      · exact .inl h1
      · exact .inr ⟨h1, .inl h2⟩
    · rintro (h1 | ⟨h1, h2 | h2⟩)
      · exact .inl h1
      · exact .inr ⟨h1, h2⟩
      · exact absurd h2 this

/-- While the rows are closed, one behind the other. -/
def StepFin (g : Gr) (v : Gv) (S : Nat → Prop) (k N : Nat) (l : List Nat) (x : Nat) (F : Nat → Nat → Bool) (L : Nat → List Nat) : Prop :=
  ∀ z, z < k → Pool N (L z) ∧ (z < x → (∀ y, y ∈ L z ↔ T2 g v S l z y) ∧ ∀ y, F z y = false) ∧ (x ≤ z → (∀ y, y ∈ L z ↔ T1 v S l z y) ∧ ∀ y, F z y = decide (y ∈ L z))
theorem StepInv.fin {g : Gr} {v : Gv} {S : Nat → Prop} {k N : Nat} {l : List Nat} {F : Nat → Nat → Bool} {L : Nat → List Nat} (h : StepInv v S k N l F L) : StepFin g v S k N l 0 F L := fun z hz => ⟨(h z hz).1, fun h0 => absurd h0 (by omega), fun _ => (h z hz).2⟩

theorem StepSt.start {w : World} {bs sb mb : Nat} {sr : Nat → Nat} {k N : Nat} {F : Nat → Nat → Bool} (h : SeenAt w bs sb sr k N F) (hk : k ≤ 3000) :
    StepSt w (((w.alloc (.cells #[.slice (some ⟨mb, 0, none⟩) N N] 47)).alloc (.cells (madeCells #[.slice none 0 0] k) 67)).alloc (.cells #[.slice (some ⟨w.heap.size + 1, 0, none⟩) k k] 64)) bs sb (w.heap.size + 1 + 1) (w.heap.size + 1) w.heap.size mb sr k N F (fun _ => .slice none 0 0) (fun _ => []) := by
  have a1 : ∀ {b : Nat} {o : Obj}, w.heap[b]? = some o → (((w.alloc (.cells #[.slice (some ⟨mb, 0, none⟩) N N] 47)).alloc (.cells (madeCells #[.slice none 0 0] k) 67)).alloc (.cells #[.slice (some ⟨w.heap.size + 1, 0, none⟩) k k] 64)).heap[b]? = some o := fun hb => blk_alloc (blk_alloc (blk_alloc hb _) _) _
  refine ⟨⟨a1 h.var, ?_, fun x hx => ?_, h.inj⟩, ⟨fun t ht => ?_, fun t ht => ?_, fun t t' ht ht' _ => by subst ht; subst ht'; rfl, fun t i ht hi => World.ownsRow_nil _ _ _ _, fun _ _ _ _ _ _ _ _ _ => .inl rfl⟩, ?_, ?_, fun b hb _ => ?_, by omega, Nat.le_refl _, rfl, rfl, rfl, by simp; omega⟩
  · obtain ⟨c, hc1, hc2⟩ := h.tab; exact ⟨c, a1 hc1, hc2⟩
  · obtain ⟨c, hc1, hc2⟩ := h.row x hx; exact ⟨c, a1 hc1, hc2⟩
  · subst ht
    exact Vec.alloc_ (vec_made (heap_alloc2_new w _ _) hk) _
  · show w.heap.size ≤ w.heap.size + 1; omega
  · have h3 := Below.heap_new ((w.alloc (.cells #[.slice (some ⟨mb, 0, none⟩) N N] 47)).alloc (.cells (madeCells #[.slice none 0 0] k) 67)) (.cells #[.slice (some ⟨w.heap.size + 1, 0, none⟩) k k] 64)
    have h4 : ((w.alloc (.cells #[.slice (some ⟨mb, 0, none⟩) N N] 47)).alloc (.cells (madeCells #[.slice none 0 0] k) 67)).heap.size = w.heap.size + 1 + 1 := by simp
    rw [h4] at h3
    exact h3
  · exact blk_alloc (blk_alloc (Below.heap_new w _) _) _
  · exact (Below.heap_alloc _ _ b (by simp; omega)).trans ((Below.heap_alloc _ _ b (by simp; omega)).trans (Below.heap_alloc _ _ b hb))

def StepPost (g : Gr) (v : Gv) (S : Nat → Prop) (l : List Nat) (k : Nat) (w : World) (e : Ending) (w' : World) : Prop :=
  ∃ nb V L, e = .returned (.slice (some ⟨nb, 0, none⟩) k k) ∧ NextAt w' w.heap.size k nb V L ∧ (∀ x, x < k → Pool g.N (L x) ∧ ∀ y, y ∈ L x ↔ T2 g v S l x y) ∧ Below w.heap.size w w'
end Nf

set_option maxHeartbeats 4000000 in
set_option maxRecDepth 100000 in
theorem stepS_any (wS w : World) (gb : Nat) (v : Nf.Gv) (g : Nf.Gr) (hG : Nf.GrAt wS gb v g) (hwS : Below wS.heap.size wS w) (bg bs sb : Nat) (sr : Nat → Nat) (hbg : w.heap[bg]? = some (.cells #[.pointer (some ⟨gb, 0, none⟩)] 48 (0, 0)))
    (hseen : Nf.SeenAt w bs sb sr v.sn g.N (fun _ _ => false)) (hsr : ∀ x, x < v.sn → wS.heap.size ≤ sr x) (mb : Nat) (S : Nat → Prop) (hM : Nf.BoolsAt w mb g.N S) (hmb : ∀ x, x < v.sn → mb ≠ sr x) (ao : Option Addr) (n acap : Nat) (l : List Nat) (hat : Nf.Seq Nf.num w ao n l) (hpool : Nf.Pool g.N l) :
    Calls Try.prog 55 #[.slice ao n acap, .slice (some ⟨mb, 0, none⟩) g.N g.N, .pointer (some ⟨bg, 0, none⟩), .pointer (some ⟨bs, 0, none⟩)] w (Nf.StepPost g v S l v.sn w) := by
  obtain ⟨i0, hi, hz0, hz1, hz2⟩ := info_parts Nf.rowsInfo
  have hN := hG.small
  have hk40 := hG.sn
  have hlen := hpool.len
  rw [hat.1] at hlen
  have HG := Sp.hid hG
  have HwS := Sp.hid hwS
  have HM := Sp.hid hM
  have Hat := Sp.hid hat
  have Hlen := Sp.hid hat.1
  have Hpool := Sp.hid hpool
  have Hseen := Sp.hid hseen
  have Hbg := Sp.hid hbg
  have hsig : g.sig.length = v.sn := hG.sig.1
  have Hsig := Sp.hid hsig
  have Hst0 := Sp.hid (Nf.StepSt.start (mb := mb) hseen (by omega))
  have gblt := Nf.blk_lt hG.blk
  have hwsz := hwS.size
  have bglt := Nf.blk_lt hbg
  -- what was there before the step is there while it runs
  have hold : ∀ (wr : World) (bn nb bm : Nat) (F : Nat → Nat → Bool) (V : Nat → Value) (L : Nat → List Nat), Nf.StepSt w wr bs sb bn nb bm mb sr v.sn g.N F V L → ∀ p : Addr, p.block < wS.heap.size → wr.cell? p = wS.cell? p := fun wr bn nb bm F V L h p hp => by
    have h1 : wr.heap[p.block]? = w.heap[p.block]? := h.keep p.block (by omega) (fun x hx e => by have := hsr x hx; omega)
    exact (World.cell?_of_block h1).trans (World.cell?_of_block (HwS.out.block p.block hp))
  have hbgc : ∀ (wr : World) (bn nb bm : Nat) (F : Nat → Nat → Bool) (V : Nat → Value) (L : Nat → List Nat), Nf.StepSt w wr bs sb bn nb bm mb sr v.sn g.N F V L → wr.cell? ⟨bg, 0, none⟩ = some (.pointer (some ⟨gb, 0, none⟩)) := fun wr bn nb bm F V L h => by
    have h1 : wr.heap[bg]? = w.heap[bg]? := h.keep bg bglt (fun x hx e => by
      obtain ⟨c, hc⟩ := Nf.Vec.blk (Hseen.out.row x hx)
      exact Nf.blk_ne Hbg.out hc (by decide) e)
    rw [Hbg.out] at h1
    exact Nf.blk_cell (i := 0) h1 rfl
  have hatc : ∀ (wr : World) (bn nb bm : Nat) (F : Nat → Nat → Bool) (V : Nat → Value) (L : Nat → List Nat), Nf.StepSt w wr bs sb bn nb bm mb sr v.sn g.N F V L → Nf.Seq Nf.num wr ao n l := fun wr bn nb bm F V L h => by
    obtain ⟨h1, h2, h3⟩ := Hat.out
    refine ⟨h1, h2, fun hn => ?_⟩
    obtain ⟨b, off, e, hc⟩ := h3 hn
    refine ⟨b, off, e, fun i x hx => ?_⟩
    have hci := hc i x hx
    refine (World.cell?_of_block (a := ⟨b, off + i, none⟩) (h.keep b (World.block_lt_of_cell? w _ hci) (fun y hy e2 => ?_))).trans hci
    subst e2
    obtain ⟨c, hcc⟩ := Nf.Vec.only (Hseen.out.row y hy) hci
    cases hcc
  have hmks : ∀ (wr : World) (bn nb bm : Nat) (F : Nat → Nat → Bool) (V : Nat → Value) (L : Nat → List Nat), Nf.StepSt w wr bs sb bn nb bm mb sr v.sn g.N F V L → Nf.BoolsAt wr mb g.N S := fun wr bn nb bm F V L h r hr =>
    (World.cell?_of_block (a := ⟨mb, r, none⟩) (h.keep mb (World.block_lt_of_cell? w _ (HM.out r hr)) (fun x hx => hmb x hx))).trans (HM.out r hr)
  have Hmks := Sp.hid hmks
  have Hold := Sp.hid hold
  have Hbgc := Sp.hid hbgc
  have Hatc := Sp.hid hatc
  have hB0 : w.cell? ⟨bg, 0, none⟩ = some (.pointer (some ⟨gb, 0, none⟩)) := Nf.blk_cell (i := 0) hbg rfl
  have hB1 : w.cell? ⟨gb, 0, none⟩ = some (.slice v.so v.sn v.scap) := by rw [hwS.cell (p := ⟨gb, 0, none⟩) gblt]; exact Nf.blk_cell (i := 0) hG.blk rfl
  have gblt2 : gb < w.heap.size := by omega
  clear hG hwS hM hat hpool hseen hbg hsig hold hbgc hatc hsr hmks hmb
  go_enter Try.func55, Try.ntmps55
  go_wp2_with (at_make; refine wpList_make_row _ rfl _ _ 64 rfl 67 i0 (.slice none 0 0) Try.underlying64 hi hz0 hz1 rfl _ _ v.sn rfl rfl ?c1 ?c2 ?_)
  case c1 => rw [hz2]; omega
  case c2 => omega
  obtain ⟨w1, hw1⟩ : ∃ w1, (((w.alloc (.cells #[.slice (some ⟨mb, 0, none⟩) g.N g.N] 47)).alloc (.cells (madeCells #[.slice none 0 0] v.sn) 67)).alloc (.cells #[.slice (some ⟨w.heap.size + 1, 0, none⟩) v.sn v.sn] 64)) = w1 := ⟨_, rfl⟩
  rw [hw1] at Hst0 ⊢
  clear hw1 hB0 hB1
  obtain ⟨nb, hnb⟩ : ∃ nb, w.heap.size + 1 = nb := ⟨_, rfl⟩
  have Hnb := Sp.hid hnb
  rw [hnb] at Hst0 ⊢
  obtain ⟨bn, hbn⟩ : ∃ bn, nb + 1 = bn := ⟨_, rfl⟩
  rw [hbn] at Hst0 ⊢
  obtain ⟨bm, hbm⟩ : ∃ bm, w.heap.size = bm := ⟨_, rfl⟩
  have Hbm := Sp.hid hbm
  clear hnb hbn hbm
  rw [Hbm.out] at Hst0
  rw [show (⟨w.heap.size, 0, none⟩ : Addr) = ⟨bm, 0, none⟩ by rw [Hbm.out]]
  go_loopw [10, 12, 28] (fun _ _ i wr => ∃ (j : Nat) (F : Nat → Nat → Bool) (V : Nat → Value) (L : Nat → List Nat), i = .int .i64 j ∧ j ≤ n ∧ Nf.StepSt w wr bs sb bn nb bm mb sr v.sn g.N F V L ∧ Nf.StepInv v S v.sn g.N (l.take j) F L) (fun _ _ i _ => n - (intOf i).toNat)
  case atStart => exact ⟨0, _, _, _, rfl, Nat.zero_le _, Hst0.out, fun x hx => ⟨Nf.Pool.nil _, fun y => by simp [Nf.T1], fun y => by simp⟩⟩
  case round =>
    obtain ⟨j, F, V, L, rfl, hjn, hst, hinv⟩ := hrel
    have Hst := Sp.hid hst
    have Hinv := Sp.hid hinv
    clear hst hinv
    by_cases hj : j < n
    · obtain ⟨b, off, q, rfl, hcq, hq, htk⟩ := (Hatc.out _ _ _ _ _ _ _ Hst.out).at hj
      have hqN : q < g.N := Hpool.out.lt q (List.mem_of_getElem? hq)
      have hbgc := Hbgc.out _ _ _ _ _ _ _ Hst.out
      have hg2 : wr.cell? ⟨gb, 2, none⟩ = some (.slice (some ⟨v.mb, 0, none⟩) g.N g.N) := by rw [Hold.out _ _ _ _ _ _ _ Hst.out ⟨gb, 2, none⟩ gblt]; exact Nf.blk_cell (i := 2) HG.out.blk rfl
      obtain ⟨mo, mcap, hm1, hm2, hm3⟩ := HG.out.mov q hqN
      have hmv : wr.cell? ⟨v.mb, q, none⟩ = some (.slice mo (v.Mv q).length mcap) := by rw [Hold.out _ _ _ _ _ _ _ Hst.out ⟨v.mb, q, none⟩ (World.block_lt_of_cell? wS _ hm1)]; exact hm1
      have Hm3 := Sp.hid hm3
      have Htk := Sp.hid htk
      simp only [Nf.num] at hcq
      obtain ⟨mn, hmn⟩ : ∃ mn, (v.Mv q).length = mn := ⟨_, rfl⟩
      have Hmn := Sp.hid hmn
      rw [hmn] at hmv hm2 Hm3
      clear hm1 hm3 htk hq hmn
      obtain ⟨wo, rfl⟩ : ∃ wo : World, wo = wr := ⟨_, rfl⟩
      go_wp2_with fail
      go_loopw [12, 40] (fun _ x wr => ∃ (m : Nat) (F : Nat → Nat → Bool) (V : Nat → Value) (L : Nat → List Nat), x = .int .i64 m ∧ m ≤ mn ∧ Nf.StepSt w wr bs sb bn nb bm mb sr v.sn g.N F V L ∧ Nf.StepMid v S v.sn g.N (l.take j) q m F L) (fun _ x _ => mn - (intOf x).toNat)
      case atStart => exact ⟨0, F, V, L, rfl, Nat.zero_le _, Hst.out, Hinv.out.mid q⟩
      case round =>
        obtain ⟨m, F2, V2, L2, rfl, hmm, hst2, hmid⟩ := hrel
        have Hst2 := Sp.hid hst2
        have Hmid := Sp.hid hmid
        clear hst2 hmid
        by_cases hml : m < mn
        · obtain ⟨rb, rof, rfl, hcc⟩ := Hm3.out (by omega)
          have hget : (v.Mv q)[m]? = some ((v.Mv q)[m]'(by rw [Hmn.out]; exact hml)) := List.getElem?_eq_getElem _
          obtain ⟨x0, y0, hxy⟩ : ∃ x0 y0, (v.Mv q)[m]'(by rw [Hmn.out]; exact hml) = (x0, y0) := ⟨_, _, rfl⟩
          rw [hxy] at hget
          have hcm := hcc m _ hget
          have hc0 : wr.cell? ⟨rb, rof + m * 2, none⟩ = some (.int .i64 x0) := by rw [Hold.out _ _ _ _ _ _ _ Hst2.out ⟨rb, rof + m * 2, none⟩ (World.block_lt_of_cell? wS _ hcm.1)]; exact hcm.1
          have hc1 : wr.cell? ⟨rb, rof + m * 2 + 1, none⟩ = some (.int .i64 y0) := by rw [Hold.out _ _ _ _ _ _ _ Hst2.out ⟨rb, rof + m * 2 + 1, none⟩ (World.block_lt_of_cell? wS _ hcm.2)]; exact hcm.2
          obtain ⟨s, hs1, hs2⟩ := (HG.out.mv_iff q x0 y0).1 (List.mem_of_getElem? hget)
          have hx0 : x0 < v.sn := by have := (List.getElem?_eq_some_iff.1 hs1).1; rw [Hsig.out] at this; exact this
          have hy0 : y0 < g.N := HG.out.ok.to_ _ hs2
          have Hget := Sp.hid hget
          have hst3 := Hst2.out.alloc (.cells #[.int .i64 x0, .int .i64 y0] 72)
          have hM3 : Nf.BoolsAt (wr.alloc (.cells #[.int .i64 x0, .int .i64 y0] 72)) mb g.N S := Hmks.out _ _ _ _ _ _ _ hst3
          have hll : (L2 x0).length ≤ g.N := (Hmid.out x0 hx0).1.len
          by_cases hno : ¬ S y0 ∨ F2 x0 y0 = true
          · have HA := Sp.hid (addS_no w _ bs sb bn nb bm mb sr v.sn g.N F2 V2 L2 S x0 y0 hst3 hM3 hx0 hy0 hk40 hN hno)
            have Hno := Sp.hid hno
            have Hst3 := Sp.hid hst3
            clear hcc hget hxy hcm hs1 hs2 hst3 hM3 hno
            go_wp2_with fail
            refine HA.out.mono ?_
            rintro e w5 ⟨rfl, rfl⟩
            go_wp2_with fail
            go_roundw
            case rel => exact ⟨m + 1, F2, V2, L2, by go_num, hml, Hst3.out, Hmid.out.skip Hget.out hx0 Hno.out⟩
            case measure => simp [intOf]; omega
          · have hs : S y0 := Classical.byContradiction fun h => hno (.inl h)
            have hf : F2 x0 y0 = false := by cases hh : F2 x0 y0 with | false => rfl | true => exact absurd (.inr hh) hno
            have HA := Sp.hid (addS_yes w _ bs sb bn nb bm mb sr v.sn g.N F2 V2 L2 S x0 y0 hst3 hM3 hx0 hy0 hk40 hN hs hf hll)
            have Hs := Sp.hid hs
            have Hf := Sp.hid hf
            clear hcc hget hxy hcm hs1 hs2 hst3 hM3 hno hs hf
            go_wp2_with fail
            refine HA.out.mono ?_
            rintro e w5 ⟨rfl, V5, hst5⟩
            have Hst5 := Sp.hid hst5
            clear hst5
            go_wp2_with fail
            go_roundw
            case rel => exact ⟨m + 1, _, V5, _, by go_num, hml, Hst5.out, Hmid.out.add Hget.out hx0 hy0 Hs.out Hf.out⟩
            case measure => simp [intOf]; omega
        · have Hinv2 := Sp.hid (show Nf.StepInv v S v.sn g.N (l.take (j + 1)) F2 L2 by rw [Htk.out]; exact Hmid.out.inv (by rw [Hmn.out]; omega))
          go_wp2_with fail
          go_roundw
          case rel => exact ⟨j + 1, F2, V2, L2, by go_num, hj, Hst2.out, Hinv2.out⟩
          case measure => simp [intOf]; omega
    · have hl : l.take j = l := List.take_of_length_le (by rw [Hlen.out]; omega)
      have Hfin := Sp.hid (show Nf.StepFin g v S v.sn g.N l 0 F L by have h := Hinv.out; rw [hl] at h; exact h.fin)
      have c7 : wr.cell? ⟨bn, 0, none⟩ = some (.slice (some ⟨nb, 0, none⟩) v.sn v.sn) := Nf.blk_cell (i := 0) Hst.out.nvar rfl
      clear hl Hinv
      obtain ⟨wo, rfl⟩ : ∃ wo : World, wo = wr := ⟨_, rfl⟩
      go_wp2_with fail
      go_loopw [13, 14, 16, 18, 54] (fun _ _ _ _ i wr => ∃ (x : Nat) (F : Nat → Nat → Bool) (V : Nat → Value) (L : Nat → List Nat), i = .int .i64 x ∧ x ≤ v.sn ∧ Nf.StepSt w wr bs sb bn nb bm mb sr v.sn g.N F V L ∧ Nf.StepFin g v S v.sn g.N l x F L) (fun _ _ _ _ i _ => v.sn - (intOf i).toNat)
      case atStart => exact ⟨0, F, V, L, rfl, Nat.zero_le _, Hst.out, Hfin.out⟩
      case round =>
        clear c7 Hst Hfin
        obtain ⟨x, F, V, L, rfl, hxk, hst, hfin⟩ := hrel
        have Hst := Sp.hid hst
        have Hfin := Sp.hid hfin
        clear hst hfin
        by_cases hx : x < v.sn
        · have hfx := Hfin.out x hx
          have Hf3 := Sp.hid (hfx.2.2 (Nat.le_refl _))
          have Hstart := Sp.hid (Nf.Bf.start (R := Nf.RS g S) hfx.1)
          clear hfx
          obtain ⟨wo, rfl⟩ : ∃ wo : World, wo = wr := ⟨_, rfl⟩
          go_wp2_with fail
          go_loopw [14, 16] (fun i _ wr => ∃ (a : Nat) (F' : Nat → Nat → Bool) (V' : Nat → Value) (L' : Nat → List Nat), i = .int .i64 a ∧ Nf.StepSt w wr bs sb bn nb bm mb sr v.sn g.N F' V' L' ∧ Nf.Bf (Nf.RS g S) g.N (L x) a (L' x) ∧ (∀ y, F' x y = decide (y ∈ L' x)) ∧ ∀ z, z ≠ x → L' z = L z ∧ ∀ y, F' z y = F z y) (fun i _ _ => g.N - (intOf i).toNat)
          case atStart => exact ⟨0, F, V, L, rfl, Hst.out, Hstart.out, Hf3.out.2, fun z _ => ⟨rfl, fun _ => rfl⟩⟩
          case round =>
            obtain ⟨a, F', V', L', rfl, hst', hbf, hF', hoth⟩ := hrel
            have Hst' := Sp.hid hst'
            have Hbf := Sp.hid hbf
            have HF' := Sp.hid hF'
            have Hoth := Sp.hid hoth
            have hLN := hbf.pool.len
            have hale := hbf.le
            have c7 : wr.cell? ⟨bn, 0, none⟩ = some (.slice (some ⟨nb, 0, none⟩) v.sn v.sn) := Nf.blk_cell (i := 0) hst'.nvar rfl
            have c8 := hst'.next.tab.cell hx
            simp only [id] at c8
            obtain ⟨vo, vcap, hvx, hseq, hvc⟩ := Nf.seq_of_own (hst'.next.row hx) (by unfold maxLen; omega)
            rw [hvx] at c8
            have Hvx := Sp.hid hvx
            obtain ⟨ln, hln⟩ : ∃ ln, (L' x).length = ln := ⟨_, rfl⟩
            rw [hln] at c8 hseq hvc hLN hale
            have Hln := Sp.hid hln
            have Hseq := Sp.hid hseq
            clear hst' hbf hF' hoth hvx hseq hln
            by_cases hal : a < ln
            · obtain ⟨pb, po, p, rfl, hcp, hp, _⟩ := Hseq.out.at hal
              have hpN : p < g.N := Hbf.out.pool.lt p (List.mem_of_getElem? hp)
              have Hin := Sp.hid (Hbf.out.at_ (S := S) (E := v.Em p) hp)
              have hbgc := Hbgc.out _ _ _ _ _ _ _ Hst'.out
              have hg3 : wr.cell? ⟨gb, 3, none⟩ = some (.slice (some ⟨v.xb, 0, none⟩) g.N g.N) := by rw [Hold.out _ _ _ _ _ _ _ Hst'.out ⟨gb, 3, none⟩ gblt]; exact Nf.blk_cell (i := 3) HG.out.blk rfl
              obtain ⟨ro, rn, rcap, hr1, hrow, hrn⟩ := HG.out.emp p hpN
              have hcr : wr.cell? ⟨v.xb, p, none⟩ = some (.slice ro rn rcap) := by rw [Hold.out _ _ _ _ _ _ _ Hst'.out ⟨v.xb, p, none⟩ (World.block_lt_of_cell? wS _ hr1)]; exact hr1
              have Hrow := Sp.hid hrow
              have Hrl := Sp.hid hrow.1
              simp only [Nf.num] at hcp
              have i1 : (0 : Int) ≤ (x : Int) := by omega
              have i2 : (x : Int) < (v.sn : Int) := by omega
              have i3 : (0 : Int) ≤ (a : Int) := by omega
              have i4 : (a : Int) < (ln : Int) := by omega
              have i5 : (0 : Int) ≤ (p : Int) := by omega
              have i6 : (p : Int) < (g.N : Int) := by omega
              clear hr1 hrow hp
              obtain ⟨wo, rfl⟩ : ∃ wo : World, wo = wr := ⟨_, rfl⟩
              go_wp2_with fail
              go_quiet (fail)
              clear i1 i2 i3 i4 i5 i6
              go_wp2_with fail
              go_loopw [16, 80] (fun _ i wr => ∃ (m : Nat) (F2 : Nat → Nat → Bool) (V2 : Nat → Value) (L2 : Nat → List Nat), i = .int .i64 m ∧ m ≤ rn ∧ Nf.StepSt w wr bs sb bn nb bm mb sr v.sn g.N F2 V2 L2 ∧ Nf.BfIn (Nf.RS g S) S g.N (L x) a p (v.Em p) m (L2 x) ∧ (∀ y, F2 x y = decide (y ∈ L2 x)) ∧ ∀ z, z ≠ x → L2 z = L z ∧ ∀ y, F2 z y = F z y) (fun _ i _ => rn - (intOf i).toNat)
              case atStart => exact ⟨0, F', V', L', rfl, Nat.zero_le _, Hst'.out.drewN _, Hin.out, HF'.out, Hoth.out⟩
              case round =>
                obtain ⟨m, F2, V2, L2, rfl, hmr, hst2, hin2, hF2, hoth2⟩ := hrel
                have Hst2 := Sp.hid hst2
                have Hin2 := Sp.hid hin2
                have HF2 := Sp.hid hF2
                have Hoth2 := Sp.hid hoth2
                have hL2 := hin2.bf.pool.len
                clear hst2 hin2 hF2 hoth2
                by_cases hmn : m < rn
                · obtain ⟨qb, qo, y, rfl, hcy0, hy, _⟩ := Hrow.out.at hmn
                  have hcy : wr.cell? ⟨qb, qo + m, none⟩ = some (.int .i64 y) := by rw [Hold.out _ _ _ _ _ _ _ Hst2.out ⟨qb, qo + m, none⟩ (World.block_lt_of_cell? wS _ hcy0)]; exact hcy0
                  have hyN : y < g.N := HG.out.em_lt p hpN y (List.mem_of_getElem? hy)
                  have hE : Nf.E g p y := (HG.out.em_iff p y).1 (List.mem_of_getElem? hy)
                  have Hy := Sp.hid hy
                  have HE := Sp.hid hE
                  have hM3 : Nf.BoolsAt wr mb g.N S := Hmks.out _ _ _ _ _ _ _ Hst2.out
                  by_cases hno : ¬ S y ∨ F2 x y = true
                  · have HA := Sp.hid (addS_no w _ bs sb bn nb bm mb sr v.sn g.N F2 V2 L2 S x y Hst2.out hM3 hx hyN hk40 hN hno)
                    have Hin3 := Sp.hid (show Nf.BfIn (Nf.RS g S) S g.N (L x) a p (v.Em p) (m + 1) (L2 x) by
                      by_cases hs : S y
                      · have hf := hno.resolve_left (fun h => h hs)
                        rw [HF2.out] at hf
                        have := Hin2.out.add Hy.out ⟨HE.out, hs⟩ hyN
                        rwa [Nf.ins_old (by simpa using hf)] at this
                      · exact Hin2.out.skip Hy.out hs)
                    clear hcy0 hy hE hM3 hno
                    go_wp2_with fail
                    refine HA.out.mono ?_
                    rintro e w5 ⟨rfl, rfl⟩
                    go_wp2_with fail
                    go_roundw
                    case rel => exact ⟨m + 1, F2, V2, L2, by go_num, hmn, Hst2.out, Hin3.out, HF2.out, Hoth2.out⟩
                    case measure => simp [intOf]; omega
                  · have hs : S y := Classical.byContradiction fun h => hno (.inl h)
                    have hf : F2 x y = false := by cases hh : F2 x y with | false => rfl | true => exact absurd (.inr hh) hno
                    have HA := Sp.hid (addS_yes w _ bs sb bn nb bm mb sr v.sn g.N F2 V2 L2 S x y Hst2.out hM3 hx hyN hk40 hN hs hf hL2)
                    have hny : y ∉ L2 x := by have := HF2.out y; rw [hf] at this; simpa using this.symm
                    have Hin3 := Sp.hid (show Nf.BfIn (Nf.RS g S) S g.N (L x) a p (v.Em p) (m + 1) (L2 x ++ [y]) by
                      have := Hin2.out.add Hy.out ⟨HE.out, hs⟩ hyN
                      rwa [Nf.ins_new hny] at this)
                    clear hcy0 hy hE hM3 hno hs hf hny
                    go_wp2_with fail
                    refine HA.out.mono ?_
                    rintro e w5 ⟨rfl, V5, hst5⟩
                    have Hst5 := Sp.hid hst5
                    clear hst5
                    go_wp2_with fail
                    go_roundw
                    case rel =>
                      refine ⟨m + 1, _, V5, _, by go_num, hmn, Hst5.out, by simpa using Hin3.out, fun r => ?_, fun z hz => ?_⟩
                      · by_cases e : r = y
                        · simp [e]
                        · simp [e, HF2.out r]
                      · simpa [hz] using Hoth2.out z hz
                    case measure => simp [intOf]; omega
                · have Hbf2 := Sp.hid (Hin2.out.round (by have := Hrl.out; omega) (fun q hq => ⟨(HG.out.em_iff p q).2 hq.1, hq.2⟩))
                  go_wp2_with fail
                  go_roundw
                  case rel => exact ⟨a + 1, F2, V2, L2, by go_num, Hst2.out, Hbf2.out, HF2.out, Hoth2.out⟩
                  case measure => simp [intOf]; omega
            · have hae : a = ln := by omega
              have Hae := Sp.hid hae
              obtain ⟨wo, rfl⟩ : ∃ wo : World, wo = wr := ⟨_, rfl⟩
              clear hae
              go_wp2_with fail
              go_loopw [18, 94] (fun _ i wr => ∃ (b : Nat) (F3 : Nat → Nat → Bool), i = .int .i64 b ∧ b ≤ ln ∧ Nf.StepSt w wr bs sb bn nb bm mb sr v.sn g.N F3 V' L' ∧ (∀ y, F3 x y = decide (y ∈ (L' x).drop b)) ∧ ∀ z, z ≠ x → ∀ y, F3 z y = F z y) (fun _ i _ => ln - (intOf i).toNat)
              case atStart => exact ⟨0, F', rfl, Nat.zero_le _, Hst'.out, HF'.out, fun z hz => (Hoth.out z hz).2⟩
              case round =>
                obtain ⟨b, F3, rfl, hbl, hst3, hF3, hoth3⟩ := hrel
                have Hst3 := Sp.hid hst3
                have HF3 := Sp.hid hF3
                have Hoth3 := Sp.hid hoth3
                by_cases hb : b < ln
                · obtain ⟨vo2, vcap2, hvx2, hseq2, _⟩ := Nf.seq_of_own (hst3.next.row hx) (by unfold maxLen; have := Hln.out; omega)
                  have hvo : vo2 = vo := by
                    have h := Hvx.out
                    rw [hvx2] at h
                    injection h
                  subst hvo
                  rw [Hln.out] at hseq2
                  obtain ⟨pb, po, y, rfl, hcy, hy, _⟩ := hseq2.at hb
                  have hyN : y < g.N := Hbf.out.pool.lt y (List.mem_of_getElem? hy)
                  have Hy := Sp.hid hy
                  have c2 : wr.cell? ⟨bs, 0, none⟩ = some (.slice (some ⟨sb, 0, none⟩) v.sn v.sn) := Nf.blk_cell (i := 0) hst3.seen.var rfl
                  have c3 := hst3.seen.tab.cell hx
                  simp only [id] at c3
                  have c4 := (hst3.seen.row x hx).cell hyN
                  have f4 := (hst3.seen.row x hx).free y
                  obtain ⟨fv, hfv⟩ : ∃ fv, F3 x y = fv := ⟨_, rfl⟩
                  rw [hfv] at c4
                  have HMk := Sp.hid (hst3.mark (x := x) (q := y) hx false)
                  simp only [Nf.num] at hcy
                  clear hst3 hF3 hoth3 hvx2 hseq2 hy hfv
                  go_wp2_with fail
                  go_roundw
                  case rel =>
                    refine ⟨b + 1, _, by go_num, hb, HMk.out, fun r => ?_, fun z hz r => ?_⟩
                    · have hd : (L' x).drop b = y :: (L' x).drop (b + 1) := by
                        obtain ⟨h1, h2⟩ := List.getElem?_eq_some_iff.1 Hy.out
                        rw [List.drop_eq_getElem_cons h1, h2]
                      have hnd : ((L' x).drop b).Nodup := (List.drop_sublist b (L' x)).nodup Hbf.out.pool.nodup
                      rw [hd, List.nodup_cons] at hnd
                      by_cases e : r = y
                      · subst e; simp [hnd.1]
                      · have := HF3.out r
                        rw [hd] at this
                        simp [e, this]
                    · simpa [hz] using Hoth3.out z hz r
                  case measure => simp [intOf]; omega
                · have hbe : b = ln := by omega
                  have Hfin2 := Sp.hid (show Nf.StepFin g v S v.sn g.N l (x + 1) F3 L' by
                    intro z hz
                    by_cases e : z = x
                    · subst e
                      refine ⟨Hbf.out.pool, fun _ => ⟨fun y => ?_, fun y => ?_⟩, fun h0 => by omega⟩
                      · rw [Hbf.out.mem (by rw [Hln.out, Hae.out]; exact Nat.le_refl _) y]
                        constructor
                        · rintro ⟨p, hp, hs⟩; exact ⟨p, (Hf3.out.1 p).1 hp, hs⟩
                        · rintro ⟨p, hp, hs⟩; exact ⟨p, (Hf3.out.1 p).2 hp, hs⟩
                      · rw [HF3.out y, hbe, ← Hln.out]; simp
                    · have h0 := Hfin.out z hz
                      have h1 := (Hoth.out z e).1
                      refine ⟨by rw [h1]; exact h0.1, fun hzx => ?_, fun hzx => ?_⟩
                      · have h2 := h0.2.1 (by omega)
                        exact ⟨fun y => by rw [h1]; exact h2.1 y, fun y => by rw [Hoth3.out z e y]; exact h2.2 y⟩
                      · have h2 := h0.2.2 (by omega)
                        exact ⟨fun y => by rw [h1]; exact h2.1 y, fun y => by rw [Hoth3.out z e y, h1]; exact h2.2 y⟩)
                  clear hst3 hF3 hoth3 hbe
                  go_wp2_with fail
                  go_roundw
                  case rel => exact ⟨x + 1, F3, V', L', by go_num, hx, Hst3.out, Hfin2.out⟩
                  case measure => simp [intOf]; omega
        · have hxe : x = v.sn := by omega
          have c7 : wr.cell? ⟨bn, 0, none⟩ = some (.slice (some ⟨nb, 0, none⟩) v.sn v.sn) := Nf.blk_cell (i := 0) Hst.out.nvar rfl
          have Hxe := Sp.hid hxe
          clear hxe
          go_wp2_with fail
          go_ret
          have hall : ∀ z, z < v.sn → (∀ y, y ∈ L z ↔ Nf.T2 g v S l z y) ∧ ∀ y, F z y = false := fun z hz => (Hfin.out z hz).2.1 (by rw [Hxe.out]; exact hz)
          refine ⟨nb, V, L, rfl, Hst.out.next, fun z hz => ⟨(Hfin.out z hz).1, (hall z hz).1⟩, Hst.out.back ⟨Hseen.out.var, Hseen.out.tab, fun z hz => (Hseen.out.row z hz).congr fun y _ => ((hall z hz).2 y).symm, Hseen.out.inj⟩⟩

end Go.Proofs.Ytnaojfhhjknejaa

/-
  The walk of stepper.
-/
set_option linter.unusedVariables false
set_option linter.unusedSimpArgs false
namespace Go.Proofs.Ytnaojfhhjknejaa
open Go.RowKit
namespace Nf
def StepperPost (gb : Nat) (v : Gv) (g : Gr) (w : World) (e : Ending) (w' : World) : Prop :=
  ∃ bg bs sb sr, e = .returned (.func (.func 55) #[] #[.pointer (some ⟨bg, 0, none⟩), .pointer (some ⟨bs, 0, none⟩)]) ∧ w'.heap[bg]? = some (.cells #[.pointer (some ⟨gb, 0, none⟩)] 48 (0, 0)) ∧
    SeenAt w' bs sb sr v.sn g.N (fun _ _ => false) ∧ (∀ x, x < v.sn → w.heap.size ≤ sr x) ∧ Below w.heap.size w w' ∧ w.heap.size ≤ bg ∧ w.heap.size ≤ bs ∧ w.heap.size ≤ sb
/-- The first x rows are made. -/
structure SeenPart (w0 w : World) (gb bg bs sb k N x : Nat) (sr : Nat → Nat) : Prop where
  bgb : w.heap[bg]? = some (.cells #[.pointer (some ⟨gb, 0, none⟩)] 48 (0, 0))
  var : w.heap[bs]? = some (.cells #[.slice (some ⟨sb, 0, none⟩) k k] 77 (0, 0))
  tab : Vec id w sb 47 k k (fun y => if y < x then .slice (some ⟨sr y, 0, none⟩) N N else .slice none 0 0)
  row : ∀ y, y < x → Vec Value.bool w (sr y) 4 N N (fun _ => false)
  inj : ∀ y z, y < x → z < x → sr y = sr z → y = z
  base : ∀ y, y < x → w0.heap.size ≤ sr y
  below : Below w0.heap.size w0 w
  sbb : w0.heap.size ≤ sb
theorem SeenPart.next {w0 w : World} {gb bg bs sb k N x : Nat} {sr : Nat → Nat} (h : SeenPart w0 w gb bg bs sb k N x sr) (hx : x < k) (hN : N ≤ 3000) :
    SeenPart w0 ((w.alloc (.cells (madeCells #[.bool false] N) 4)).setCell ⟨sb, x, none⟩ (.slice (some ⟨w.heap.size, 0, none⟩) N N)) gb bg bs sb k N (x + 1) (fun y => if y = x then w.heap.size else sr y) := by
  have htab := Vec.alloc_ h.tab (.cells (madeCells #[.bool false] N) 4)
  obtain ⟨ct, hct⟩ := Vec.blk htab
  have key : ∀ {b : Nat} {c : Array Value} {t : TypeId} {f : Nat × Nat}, (w.alloc (.cells (madeCells #[.bool false] N) 4)).heap[b]? = some (.cells c t f) → t ≠ 47 → ((w.alloc (.cells (madeCells #[.bool false] N) 4)).setCell ⟨sb, x, none⟩ (.slice (some ⟨w.heap.size, 0, none⟩) N N)).heap[b]? = some (.cells c t f) := fun hb hne =>
    blk_far hb (a := ⟨sb, x, none⟩) (fun e => blk_ne hb hct hne e) _
  have hlt : ∀ y, y < x → sr y < w.heap.size := fun y hy => (h.row y hy).lt
  refine ⟨key (blk_alloc h.bgb _) (by decide), key (blk_alloc h.var _) (by decide), ?_, fun y hy => ?_, fun y z hy hz he => ?_, fun y hy => ?_, (h.below.alloc h.below.size _).setCell (p := ⟨sb, x, none⟩) h.sbb _, h.sbb⟩
  · refine (htab.set (i := x) (.slice (some ⟨w.heap.size, 0, none⟩) N N)).congr fun y hy => ?_
    show (if y = x then _ else _) = _
    by_cases e : y = x
    · simp [e]
    · by_cases e2 : y < x
      · simp [e, e2, show y < x + 1 by omega]
      · simp [e, e2, show ¬ y < x + 1 by omega]
  · by_cases e : y = x
    · subst e
      simp only [if_true]
      obtain ⟨c, h1, h2⟩ := vec_made_bool (Below.heap_new w (.cells (madeCells #[.bool false] N) 4)) hN
      exact ⟨c, key h1 (by decide), h2⟩
    · simp only [e, if_false]
      obtain ⟨c, h1, h2⟩ := h.row y (by omega)
      exact ⟨c, key (blk_alloc h1 _) (by decide), h2⟩
  · by_cases e : y = x
    · by_cases e2 : z = x
      · omega
      · simp only [e, e2, if_true, if_false] at he
        have := hlt z (by omega); omega
    · by_cases e2 : z = x
      · simp only [e, e2, if_true, if_false] at he
        have := hlt y (by omega); omega
      · simp only [e, e2, if_false] at he
        exact h.inj y z (by omega) (by omega) he
  · by_cases e : y = x
    · simp only [e, if_true]; exact h.below.size
    · simp only [e, if_false]; exact h.base y (by omega)
theorem boolRowInfo : (Try.prog.info? 47).map (fun i => (i.zero, i.size, i.bytes)) = some (some (.slice none 0 0), 1, 24) := by kernel_rfl
end Nf

set_option maxHeartbeats 2000000 in
set_option maxRecDepth 100000 in
theorem stepper_any (w : World) (gb : Nat) (v : Nf.Gv) (g : Nf.Gr) (hG : Nf.GrAt w gb v g) :
    Calls Try.prog 37 #[.pointer (some ⟨gb, 0, none⟩)] w (Nf.StepperPost gb v g w) := by
  obtain ⟨i0, hi, hz0, hz1, hz2⟩ := info_parts Nf.boolRowInfo
  have hN := hG.small
  have hk40 := hG.sn
  have HG := Sp.hid hG
  have gblt := Nf.blk_lt hG.blk
  have c0 : w.cell? ⟨gb, 0, none⟩ = some (.slice v.so v.sn v.scap) := Nf.blk_cell (i := 0) hG.blk rfl
  clear hG
  go_enter Try.func37, Try.ntmps37
  go_wp2_with (at_make; refine wpList_make_row _ rfl _ _ 77 rfl 47 i0 (.slice none 0 0) Try.underlying77 hi hz0 hz1 rfl _ _ v.sn rfl rfl ?c1 ?c2 ?_)
  case c1 => rw [hz2]; omega
  case c2 => omega
  have hp : Nf.SeenPart w (((w.alloc (.cells #[.pointer (some ⟨gb, 0, none⟩)] 48)).alloc (.cells (madeCells #[.slice none 0 0] v.sn) 47)).alloc (.cells #[.slice (some ⟨w.heap.size + 1, 0, none⟩) v.sn v.sn] 77)) gb w.heap.size (w.heap.size + 1 + 1) (w.heap.size + 1) v.sn g.N 0 (fun _ => 0) := by
    have h3 := Nf.Below.heap_new ((w.alloc (.cells #[.pointer (some ⟨gb, 0, none⟩)] 48)).alloc (.cells (madeCells #[.slice none 0 0] v.sn) 47)) (.cells #[.slice (some ⟨w.heap.size + 1, 0, none⟩) v.sn v.sn] 77)
    have h4 : ((w.alloc (.cells #[.pointer (some ⟨gb, 0, none⟩)] 48)).alloc (.cells (madeCells #[.slice none 0 0] v.sn) 47)).heap.size = w.heap.size + 1 + 1 := by simp
    rw [h4] at h3
    refine ⟨Nf.blk_alloc (Nf.blk_alloc (Nf.Below.heap_new w _) _) _, h3, ?_, fun y hy => absurd hy (by omega), fun y z hy => absurd hy (by omega), fun y hy => absurd hy (by omega), (((Below.refl _ w).alloc (Nat.le_refl _) _).alloc (by simp) _).alloc (by simp; omega) _, by omega⟩
    exact (Nf.Vec.alloc_ (Nf.vec_made (heap_alloc2_new w _ _) (by omega)) _).congr fun y _ => by simp
  obtain ⟨w1, hw1⟩ : ∃ w1, (((w.alloc (.cells #[.pointer (some ⟨gb, 0, none⟩)] 48)).alloc (.cells (madeCells #[.slice none 0 0] v.sn) 47)).alloc (.cells #[.slice (some ⟨w.heap.size + 1, 0, none⟩) v.sn v.sn] 77)) = w1 := ⟨_, rfl⟩
  rw [hw1] at hp ⊢
  have Hp := Sp.hid hp
  clear hw1 hp
  obtain ⟨sb, hsb⟩ : ∃ sb, w.heap.size + 1 = sb := ⟨_, rfl⟩
  have Hsb := Sp.hid hsb
  rw [hsb] at Hp ⊢
  obtain ⟨bs, hbs⟩ : ∃ bs, sb + 1 = bs := ⟨_, rfl⟩
  have Hbs := Sp.hid hbs
  rw [hbs] at Hp ⊢
  obtain ⟨bg, hbg⟩ : ∃ bg, w.heap.size = bg := ⟨_, rfl⟩
  have Hbg := Sp.hid hbg
  clear hsb hbs hbg
  rw [show (⟨w.heap.size, 0, none⟩ : Addr) = ⟨bg, 0, none⟩ by rw [Hbg.out]]
  have Hp2 := Sp.hid (show Nf.SeenPart w w1 gb bg bs sb v.sn g.N 0 (fun _ => 0) by rw [← Hbg.out]; exact Hp.out)
  have d0 : w1.cell? ⟨bs, 0, none⟩ = some (.slice (some ⟨sb, 0, none⟩) v.sn v.sn) := Nf.blk_cell (i := 0) Hp2.out.var rfl
  clear Hp c0
  go_wp2_with fail
  go_loopw [4, 13] (fun _ i wr => ∃ (x : Nat) (sr : Nat → Nat), i = .int .i64 x ∧ x ≤ v.sn ∧ Nf.SeenPart w wr gb bg bs sb v.sn g.N x sr) (fun _ i _ => v.sn - (intOf i).toNat)
  case atStart => exact ⟨0, _, rfl, Nat.zero_le _, Hp2.out⟩
  case round =>
    clear d0
    obtain ⟨x, sr, rfl, hxk, hpart⟩ := hrel
    have Hpart := Sp.hid hpart
    by_cases hx : x < v.sn
    · have k1 : wr.cell? ⟨bs, 0, none⟩ = some (.slice (some ⟨sb, 0, none⟩) v.sn v.sn) := Nf.blk_cell (i := 0) hpart.var rfl
      have k2 : wr.cell? ⟨bg, 0, none⟩ = some (.pointer (some ⟨gb, 0, none⟩)) := Nf.blk_cell (i := 0) hpart.bgb rfl
      have k3 : wr.cell? ⟨gb, 1, none⟩ = some (.slice (some ⟨v.eb, 0, none⟩) g.N g.N) := by rw [hpart.below.cell (p := ⟨gb, 1, none⟩) gblt]; exact Nf.blk_cell (i := 1) HG.out.blk rfl
      have kt := hpart.tab.cell hx
      have f3 := hpart.tab.free x
      have l1 := Nf.blk_lt hpart.var
      have l2 := Nf.blk_lt hpart.bgb
      have l3 : gb < wr.heap.size := by have := hpart.below.size; omega
      have l4 := hpart.tab.lt
      have hmk : ∀ w : World, (Instr.makeSlice 47 (.int .i64 (g.N : Int)) (.int .i64 (g.N : Int))).run Try.prog w = .ok (.slice (some ⟨w.heap.size, 0, none⟩) g.N g.N) (w.alloc (.cells (madeCells #[.bool false] g.N) 4)) := fun w => run_make_row' _ _ _ 1 Try.underlying47 Nf.boolInfo rfl _ _ g.N (by omega) (by omega) w
      simp only [id] at kt
      rw [if_neg (by omega)] at kt
      have hx0 : (0 : Int) ≤ (x : Int) := by omega
      have hxi : (x : Int) < (v.sn : Int) := by omega
      have hnx := Sp.hid (hpart.next hx hN)
      clear hpart
      go_wp2_with fail
      refine Open.begin (S := fun w' => w'.cell? ⟨bs, 0, none⟩ = some (.slice (some ⟨sb, 0, none⟩) v.sn v.sn) ∧ w'.cell? ⟨bg, 0, none⟩ = some (.pointer (some ⟨gb, 0, none⟩)) ∧ w'.cell? ⟨gb, 1, none⟩ = some (.slice (some ⟨v.eb, 0, none⟩) g.N g.N)) (z := 9) (by kernel_rfl) ?_
      have HS : wr.drew.cell? ⟨bs, 0, none⟩ = some (.slice (some ⟨sb, 0, none⟩) v.sn v.sn) ∧ wr.drew.cell? ⟨bg, 0, none⟩ = some (.pointer (some ⟨gb, 0, none⟩)) ∧ wr.drew.cell? ⟨gb, 1, none⟩ = some (.slice (some ⟨v.eb, 0, none⟩) g.N g.N) := ⟨k1, k2, k3⟩
      refine Open.take (i := 0) (v := ?_) rfl (by kernel_rfl) (by kernel_rfl) (by kernel_rfl) (by kernel_rfl) (fun _ _ _ h => h) HS (Or.inl ⟨rfl, ?_⟩) ?_
      rotate_left
      · rintro w' ⟨k1, k2, k3⟩
        go_simp
        try rfl
      simp only [Act.put, List.setIfInBounds_toArray, List.set_cons_zero, List.set_cons_succ]
      refine Open.take (i := 1) (v := ?_) rfl (by kernel_rfl) (by kernel_rfl) (by kernel_rfl) (by kernel_rfl) (fun _ _ _ h => h) HS (Or.inl ⟨rfl, ?_⟩) ?_
      rotate_left
      · rintro w' ⟨k1, k2, k3⟩
        go_simp
        try rfl
      simp only [Act.put, List.setIfInBounds_toArray, List.set_cons_zero, List.set_cons_succ]
      refine Open.take (i := 2) (v := ?_) rfl (by kernel_rfl) (by kernel_rfl) (by kernel_rfl) (by kernel_rfl) (fun _ _ _ h => h) HS (Or.inl ⟨rfl, ?_⟩) ?_
      rotate_left
      · rintro w' ⟨k1, k2, k3⟩
        go_simp
        try rfl
      simp only [Act.put, List.setIfInBounds_toArray, List.set_cons_zero, List.set_cons_succ]
      refine Open.take (i := 3) (v := ?_) rfl (by kernel_rfl) (by kernel_rfl) (by kernel_rfl) (by kernel_rfl) (fun _ _ _ h => h) HS (Or.inl ⟨rfl, ?_⟩) ?_
      rotate_left
      · rintro w' ⟨k1, k2, k3⟩
        go_simp
        try rfl
      simp only [Act.put, List.setIfInBounds_toArray, List.set_cons_zero, List.set_cons_succ]
      refine Open.take (i := 4) (v := ?_) rfl (by kernel_rfl) (by kernel_rfl) (by kernel_rfl) (by kernel_rfl) (fun _ _ _ h => h) HS (Or.inl ⟨rfl, ?_⟩) ?_
      rotate_left
      · rintro w' ⟨k1, k2, k3⟩
        go_simp
        try rfl
      simp only [Act.put, List.setIfInBounds_toArray, List.set_cons_zero, List.set_cons_succ]
      refine Open.take (i := 5) (v := ?_) rfl (by kernel_rfl) (by kernel_rfl) (by kernel_rfl) (by kernel_rfl) (fun _ _ _ h => h) HS (Or.inl ⟨rfl, ?_⟩) ?_
      rotate_left
      · rintro w' ⟨k1, k2, k3⟩
        go_simp
        try rfl
      simp only [Act.put, List.setIfInBounds_toArray, List.set_cons_zero, List.set_cons_succ]
      refine Open.take (i := 6) (v := ?_) rfl (by kernel_rfl) (by kernel_rfl) (by kernel_rfl) (by kernel_rfl) (fun _ _ _ h => h) HS (Or.inl ⟨rfl, ?_⟩) ?_
      rotate_left
      · rintro w' ⟨k1, k2, k3⟩
        go_simp
        try rfl
      simp only [Act.put, List.setIfInBounds_toArray, List.set_cons_zero, List.set_cons_succ]
      refine Open.one (i := 7) rfl (by kernel_rfl) rfl (fun K hK => ?_)
      go_simp
      obtain ⟨w2, hw2⟩ : ∃ w2, wr.alloc (.cells (madeCells #[.bool false] g.N) 4) = w2 := ⟨_, rfl⟩
      have HS : w2.drew.cell? ⟨bs, 0, none⟩ = some (.slice (some ⟨sb, 0, none⟩) v.sn v.sn) ∧ w2.drew.cell? ⟨bg, 0, none⟩ = some (.pointer (some ⟨gb, 0, none⟩)) ∧ w2.drew.cell? ⟨gb, 1, none⟩ = some (.slice (some ⟨v.eb, 0, none⟩) g.N g.N) := by
        rw [← hw2]
        exact ⟨by simpa [World.cell?_alloc_past _ _ _ l1] using k1, by simpa [World.cell?_alloc_past _ _ _ l2] using k2, by simpa [World.cell?_alloc_past _ _ _ l3] using k3⟩
      have kt2 : w2.drew.cell? ⟨sb, x, none⟩ = some (.slice none 0 0) := by rw [← hw2]; simpa [World.cell?_alloc_past _ _ _ l4] using kt
      have f32 : w2.drew.frozen? ⟨sb, x, none⟩ = false := by rw [← hw2]; simpa [World.frozen?_alloc_past _ _ _ l4] using f3
      rw [hw2] at hnx ⊢
      clear hw2
      refine hK _ _ ⟨fun _ => HS, ?_⟩
      clear hK K
      refine Open.take (i := 8) (v := ?_) rfl (by kernel_rfl) (by kernel_rfl) (by kernel_rfl) (by kernel_rfl) (fun _ _ _ h => h) HS (Or.inl ⟨rfl, ?_⟩) ?_
      rotate_left
      · rintro w' ⟨k1, k2, k3⟩
        go_simp
        try rfl
      simp only [Act.put, List.setIfInBounds_toArray, List.set_cons_zero, List.set_cons_succ]
      refine Open.one (i := 9) rfl (by kernel_rfl) rfl (fun K hK => ?_)
      go_simp
      refine hK _ _ ⟨fun e => absurd rfl e, ?_⟩
      clear hK K HS k1 k2 k3 kt f3 kt2 f32 l1 l2 l3 l4 hmk
      refine Open.end (by kernel_rfl) ?_
      go_wp2_with fail
      go_roundw
      case rel => exact ⟨x + 1, _, by go_num, hx, ⟨hnx.out.bgb, hnx.out.var, hnx.out.tab, hnx.out.row, hnx.out.inj, hnx.out.base, hnx.out.below.drew, hnx.out.sbb⟩⟩
      case measure => simp [intOf]; omega
    · have hxe : x = v.sn := by omega
      have Hxe := Sp.hid hxe
      clear hpart hxe
      go_wp2_with fail
      go_ret
      refine ⟨bg, bs, sb, sr, rfl, Hpart.out.bgb, ⟨Hpart.out.var, Hpart.out.tab.congr fun y hy => by rw [if_pos (by rw [Hxe.out]; exact hy)], fun y hy => Hpart.out.row y (by rw [Hxe.out]; exact hy), fun y z hy hz => Hpart.out.inj y z (by rw [Hxe.out]; exact hy) (by rw [Hxe.out]; exact hz)⟩, fun y hy => Hpart.out.base y (by rw [Hxe.out]; exact hy), Hpart.out.below, ?_, ?_, ?_⟩
      · have := Hbg.out; omega
      · have := Hsb.out; have := Hbs.out; omega
      · have := Hsb.out; omega

end Go.Proofs.Ytnaojfhhjknejaa
