/-
  The walk of index.
-/
import Derived.Test.YtnaojfhhjknejaaMgAuIxAuReg
import Derived.Test.YtnaojfhhjknejaaMgAuBs
import Derived.Test.YtnaojfhhjknejaaMgAuF
import Derived.Deep.AppendLies
import Derived.Deep.DeepCutAuto
import Derived.WalkSpells
import Derived.WalkLawsBesides
set_option linter.unusedVariables false
set_option linter.unusedSimpArgs false
namespace Go.Proofs.Ytnaojfhhjknejaa
open Go.RowKit
namespace Nf
theorem rowsInfo : (Try.prog.info? 67).map (fun i => (i.zero, i.size, i.bytes)) = some (some (.slice none 0 0), 1, 24) := by kernel_rfl
theorem movsInfo : (Try.prog.info? 70).map (fun i => (i.zero, i.size, i.bytes)) = some (some (.slice none 0 0), 1, 24) := by kernel_rfl
theorem movInfo : (Try.prog.info? 72).map (fun i => (i.zero, i.size, i.bytes)) = some (some (.agg #[.int .i64 0, .int .i64 0]), 2, 16) := by kernel_rfl

/-- What an arc puts into row i of table t. -/
def Edge (sig : List ByteArray) (t i : Nat) (x : Nat × Nat) (a : ArcV) : Prop :=
  if t = 0 then a.i.size ≠ 0 ∧ a.f = (i : Int) ∧ sig[x.1]? = some a.i ∧ a.t = (x.2 : Int)
  else if t = 1 then a.i.size = 0 ∧ a.f = (i : Int) ∧ a.t = (x.1 : Int) ∧ x.2 = 0
  else if t = 2 then a.i.size ≠ 0 ∧ a.t = (i : Int) ∧ a.f = (x.1 : Int) ∧ x.2 = 0
  else a.i.size = 0 ∧ a.t = (i : Int) ∧ a.f = (x.1 : Int) ∧ x.2 = 0
def RelR (sig : List ByteArray) (arcs : List ArcV) (R : Nat → Nat → List (Nat × Nat)) : Prop := ∀ t i x, t < 4 → (x ∈ R t i ↔ ∃ a, a ∈ arcs ∧ Edge sig t i x a)
theorem relR_nil (sig : List ByteArray) : RelR sig [] (fun _ _ => []) := fun t i x _ => by simp
theorem upd_len {n t i : Nat} {R R' : Nat → Nat → List (Nat × Nat)} {x : Nat × Nat} (h : upd R t i (R t i ++ [x]) = R') (hs : ∀ t i, (R t i).length ≤ n) : ∀ t i, (R' t i).length ≤ n + 1 := by
  intro t' i'
  rw [← h]
  unfold upd
  split
  · have := hs t i; simp; omega
  · have := hs t' i'; omega
theorem relR_push2 {sig : List ByteArray} {arcs : List ArcV} {R R2 R3 : Nat → Nat → List (Nat × Nat)} {a : ArcV} {t1 i1 t2 i2 : Nat} {x1 x2 : Nat × Nat} (h : RelR sig arcs R) (h2 : upd R t1 i1 (R t1 i1 ++ [x1]) = R2) (h3 : upd R2 t2 i2 (R2 t2 i2 ++ [x2]) = R3)
    (he : ∀ t i x, t < 4 → (Edge sig t i x a ↔ (t = t1 ∧ i = i1 ∧ x = x1) ∨ (t = t2 ∧ i = i2 ∧ x = x2))) : RelR sig (arcs ++ [a]) R3 := by
  have key : ∀ (Q : Nat → Nat → List (Nat × Nat)) (t0 i0 : Nat) (x0 : Nat × Nat) (t i : Nat) (x : Nat × Nat), x ∈ upd Q t0 i0 (Q t0 i0 ++ [x0]) t i ↔ x ∈ Q t i ∨ (t = t0 ∧ i = i0 ∧ x = x0) := by
    intro Q t0 i0 x0 t i x
    unfold upd
    split
    · rename_i e; obtain ⟨rfl, rfl⟩ := e; simp
    · rename_i e
      exact ⟨.inl, fun k => k.elim id (fun ⟨e1, e2, _⟩ => absurd ⟨e1, e2⟩ e)⟩
  intro t i x ht
  rw [← h3, key, ← h2, key, h t i x ht]
  constructor
  · rintro ((⟨b, hb, hx⟩ | hx) | hx)
    · exact ⟨b, by simp [hb], hx⟩
    · exact ⟨a, by simp, (he t i x ht).2 (.inl hx)⟩
    · exact ⟨a, by simp, (he t i x ht).2 (.inr hx)⟩
  · rintro ⟨b, hb, hx⟩
    rcases List.mem_append.1 hb with hb | hb
    · exact .inl (.inl ⟨b, hb, hx⟩)
    · simp at hb; subst hb
      rcases (he t i x ht).1 hx with hx | hx
      · exact .inl (.inr hx)
      · exact .inr hx
theorem edge_empty {sig : List ByteArray} {p q : Nat} {xi xo : ByteArray} {xc : Int} (hz : xi.size = 0) (t i : Nat) (x : Nat × Nat) (ht : t < 4) : Edge sig t i x ⟨p, xi, xo, q, xc⟩ ↔ (t = 1 ∧ i = p ∧ x = (q, 0)) ∨ (t = 3 ∧ i = q ∧ x = (p, 0)) := by
  obtain ⟨y, z⟩ := x
  unfold Edge
  have : t = 0 ∨ t = 1 ∨ t = 2 ∨ t = 3 := by omega
  rcases this with rfl | rfl | rfl | rfl <;> simp [hz] <;> omega
theorem edge_sym {sig : List ByteArray} {p q y : Nat} {xi xo : ByteArray} {xc : Int} (hz : xi.size ≠ 0) (hy : sig[y]? = some xi) (hasc : Sp.Asc sig) (t i : Nat) (x : Nat × Nat) (ht : t < 4) : Edge sig t i x ⟨p, xi, xo, q, xc⟩ ↔ (t = 0 ∧ i = p ∧ x = (y, q)) ∨ (t = 2 ∧ i = q ∧ x = (p, 0)) := by
  obtain ⟨u, z⟩ := x
  have hu : sig[u]? = some xi ↔ u = y := by
    constructor
    · intro h
      rcases Nat.lt_trichotomy u y with h1 | h1 | h1
      · have := asc_get hasc h hy h1; rw [Sp.less_irrefl] at this; cases this
      · exact h1
      · have := asc_get hasc hy h h1; rw [Sp.less_irrefl] at this; cases this
    · rintro rfl; exact hy
  unfold Edge
  have : t = 0 ∨ t = 1 ∨ t = 2 ∨ t = 3 := by omega
  rcases this with rfl | rfl | rfl | rfl <;> simp [hz, hu] <;> omega

/-- The graph's block and the net's own, while the tables grow. -/
structure IndAt (w0 w : World) (gb nb eb N : Nat) (gc nc : Array Value) (tb : Nat → Nat) (F : Nat → Bool) (V : Nat → Nat → Value) (R : Nat → Nat → List (Nat × Nat)) : Prop where
  ix : IxAt w (· < 4) w0.heap.size N tb V R
  gblk : w.heap[gb]? = some (.cells gc 66 (0, 0))
  nblk : w.heap[nb]? = some (.cells nc 26 (0, 0))
  eblk : Vec Value.bool w eb 4 N N F
  ebase : w0.heap.size ≤ eb
  below : Below w0.heap.size w0 w
theorem IndAt.alloc {w0 w : World} {gb nb eb N : Nat} {gc nc : Array Value} {tb : Nat → Nat} {F : Nat → Bool} {V : Nat → Nat → Value} {R : Nat → Nat → List (Nat × Nat)} (h : IndAt w0 w gb nb eb N gc nc tb F V R) (o : Obj) : IndAt w0 (w.alloc o) gb nb eb N gc nc tb F V R :=
  ⟨h.ix.below ((Below.refl _ w).alloc (Nat.le_refl _) o), blk_alloc h.gblk o, blk_alloc h.nblk o, Vec.alloc_ h.eblk o, h.ebase, h.below.alloc h.below.size o⟩
theorem IndAt.push {w0 w w1 : World} {gb nb eb N : Nat} {gc nc : Array Value} {tb : Nat → Nat} {F : Nat → Bool} {V : Nat → Nat → Value} {R : Nat → Nat → List (Nat × Nat)} (h : IndAt w0 w gb nb eb N gc nc tb F V R) {t i : Nat} (ht : t < 4) (hi : i < N) {v' : Value} {x : Nat × Nat} (hg : w.grownBy w1 (V t i).ownBlock)
    (hown : w1.ownsRow w0.heap.size (ety t) (szt t) v' ((R t i).length + 1) ((R t i).flatMap (enc t) ++ enc t x)) (hat : (V t i).ownBlock = v'.ownBlock ∨ ∃ g, v'.ownBlock = some g ∧ w.heap.size ≤ g) :
    IndAt w0 (w1.setCell ⟨tb t, i, none⟩ v') gb nb eb N gc nc tb F (upd V t i v') (upd R t i (R t i ++ [x])) := by
  have hr := h.ix.row t i ht hi
  have he1 : ∀ ty, ty ≠ 72 → ty ≠ 3 → ety t ≠ ty := fun ty h1 h2 e => by unfold ety at e; split at e; exact h1 e.symm; exact h2 e.symm
  have he2 : ∀ ty, ty ≠ 70 → ty ≠ 67 → tty t ≠ ty := fun ty h1 h2 e => by unfold tty at e; split at e; exact h1 e.symm; exact h2 e.symm
  obtain ⟨tc, htc⟩ := Vec.blk (h.ix.tab t ht)
  obtain ⟨ec, hec⟩ := Vec.blk h.eblk
  have htc1 := blk_grown htc hg (own_vec_ne hr (h.ix.tab t ht) (ety_tty t t))
  have hg1 := blk_grown h.gblk hg (own_ne hr h.gblk (he1 _ (by decide) (by decide)))
  have hn1 := blk_grown h.nblk hg (own_ne hr h.nblk (he1 _ (by decide) (by decide)))
  have he3 := blk_grown hec hg (own_ne hr hec (he1 _ (by decide) (by decide)))
  refine ⟨h.ix.push ht hi hg hown hat, blk_far hg1 (a := ⟨tb t, i, none⟩) (fun e => blk_ne hg1 htc1 (he2 _ (by decide) (by decide)).symm e) _, blk_far hn1 (a := ⟨tb t, i, none⟩) (fun e => blk_ne hn1 htc1 (he2 _ (by decide) (by decide)).symm e) _, ?_, h.ebase, ?_⟩
  · exact Vec.far (h.eblk.grown hg (fun e => own_ne hr hec (he1 _ (by decide) (by decide)) e.symm)) (a := ⟨tb t, i, none⟩) (fun e => blk_ne he3 htc1 (he2 _ (by decide) (by decide)).symm e) _
  · exact (h.below.grown hg h.below.size (fun k hk => (hr.lt k hk).1)).setCell (p := ⟨tb t, i, none⟩) (h.ix.tbb t ht) _
theorem IndAt.mark {w0 w : World} {gb nb eb N : Nat} {gc nc : Array Value} {tb : Nat → Nat} {F : Nat → Bool} {V : Nat → Nat → Value} {R : Nat → Nat → List (Nat × Nat)} (h : IndAt w0 w gb nb eb N gc nc tb F V R) (i : Nat) :
    IndAt w0 (w.setCell ⟨eb, i, none⟩ (.bool true)) gb nb eb N gc nc tb (fun j => if j = i then true else F j) V R := by
  obtain ⟨ec, hec⟩ := Vec.blk h.eblk
  exact ⟨h.ix.far (a := ⟨eb, i, none⟩) hec (by decide) (by decide) (by decide) (by decide) _, blk_far h.gblk (a := ⟨eb, i, none⟩) (fun e => blk_ne h.gblk hec (by decide) e) _, blk_far h.nblk (a := ⟨eb, i, none⟩) (fun e => blk_ne h.nblk hec (by decide) e) _, h.eblk.set (i := i) true, h.ebase, h.below.setCell (p := ⟨eb, i, none⟩) h.ebase _⟩
end Nf

/-- What index is handed. -/
structure Nf.IndexPre (w : World) (so : Option Addr) (sn : Nat) (sig : List ByteArray) (N : Nat) (ao : Option Addr) (an : Nat) (arcs : List ArcV) (eo : Option Addr) (en : Nat) (ends : List EndV) : Prop where
  hs : Sp.Row w so sn sig
  ha : Nf.ArcsAt w ao an arcs
  he : Nf.EndsAt w eo en ends
  hN : N ≤ 3000
  hpos : 1 ≤ N
  han : an ≤ 60000
  hen : en ≤ 60000
  hf : ∀ a ∈ arcs, 0 ≤ a.f ∧ a.f < N
  ht : ∀ a ∈ arcs, 0 ≤ a.t ∧ a.t < N
  hsy : ∀ a ∈ arcs, a.i.size = 0 ∨ a.i ∈ sig
  hd : ∀ d ∈ ends, 0 ≤ d.s ∧ d.s < N
  hasc : Sp.Asc sig
  hfull : ∀ s ∈ sig, 1 ≤ s.size
  hsn : sn ≤ 40
def Nf.grOf (sig : List ByteArray) (N : Nat) (arcs : List ArcV) (ends : List EndV) : Nf.Gr := { N := N, sig := sig, arcs := arcs.map fun a => (a.f.toNat, a.i, a.t.toNat), ends := ends.map fun d => d.s.toNat }
theorem Nf.size_eps {s : ByteArray} : s.size = 0 ↔ s = Nf.eps := by
  constructor
  · intro h
    cases s with | mk d => simp [ByteArray.size] at h; subst h; rfl
  · rintro rfl; rfl
theorem Nf.grAt_of {w0 wr : World} {so : Option Addr} {sn scap : Nat} {sig : List ByteArray} {N : Nat} {ao : Option Addr} {an : Nat} {arcs : List ArcV} {eo : Option Addr} {en : Nat} {ends : List EndV} (hp : Nf.IndexPre w0 so sn sig N ao an arcs eo en ends)
    {gb nb eb : Nat} {nc : Array Value} {tb : Nat → Nat} {F : Nat → Bool} {V : Nat → Nat → Value} {R : Nat → Nat → List (Nat × Nat)}
    (hI : Nf.IndAt w0 wr gb nb eb N #[.slice so sn scap, .slice (some ⟨eb, 0, none⟩) N N, .slice (some ⟨tb 0, 0, none⟩) N N, .slice (some ⟨tb 1, 0, none⟩) N N, .slice (some ⟨tb 2, 0, none⟩) N N, .slice (some ⟨tb 3, 0, none⟩) N N] nc tb F V R)
    (hR : Nf.RelR sig arcs R) (hF : ∀ q : Nat, F q = true ↔ ∃ d, d ∈ ends ∧ d.s = (q : Int)) (hs : ∀ t i, (R t i).length ≤ 1000000) :
    Nf.GrAt wr gb ⟨so, sn, scap, eb, tb 0, tb 1, tb 2, tb 3, R 0, fun p => (R 1 p).map Prod.fst, fun p => (R 2 p).map Prod.fst, fun p => (R 3 p).map Prod.fst⟩ (Nf.grOf sig N arcs ends) := by
  have hm : ∀ (p q : Nat) (s : ByteArray), (p, s, q) ∈ (Nf.grOf sig N arcs ends).arcs ↔ ∃ a, a ∈ arcs ∧ a.f = (p : Int) ∧ a.i = s ∧ a.t = (q : Int) := by
    intro p q s
    show (p, s, q) ∈ arcs.map _ ↔ _
    rw [List.mem_map]
    constructor
    · rintro ⟨a, ha, he⟩
      simp only [Prod.mk.injEq] at he
      have h1 := (hp.hf a ha).1
      have h2 := (hp.ht a ha).1
      exact ⟨a, ha, by omega, he.2.1, by omega⟩
    · rintro ⟨a, ha, h1, h2, h3⟩
      exact ⟨a, ha, by simp only [Prod.mk.injEq]; exact ⟨by omega, h2, by omega⟩⟩
  have hne : ∀ s ∈ sig, s ≠ Nf.eps := fun s hs e => by have h1 := hp.hfull s hs; rw [e] at h1; exact absurd h1 (by decide)
  refine ⟨⟨by show 0 < N; have := hp.hpos; omega, ?_, ?_, ?_, ?_, (Sp.isSet_iff sig).2 hp.hasc, hne⟩, hp.hN, hI.gblk, hp.hs.below hI.below, hp.hsn, ?_, ?_, ?_, ?_, ?_, ?_, ?_, ?_, ?_⟩
  · intro a ha
    obtain ⟨b, hb, rfl⟩ := List.mem_map.1 ha
    have := hp.hf b hb; show b.f.toNat < N; omega
  · intro a ha
    obtain ⟨b, hb, rfl⟩ := List.mem_map.1 ha
    have := hp.ht b hb; show b.t.toNat < N; omega
  · intro a ha
    obtain ⟨b, hb, rfl⟩ := List.mem_map.1 ha
    rcases hp.hsy b hb with h | h
    · exact .inl (Nf.size_eps.1 h)
    · exact .inr h
  · intro q hq
    obtain ⟨b, hb, rfl⟩ := List.mem_map.1 hq
    have := hp.hd b hb; show b.s.toNat < N; omega
  · intro q hq
    rw [hI.eblk.cell hq]
    congr 2
    have h1 : q ∈ (Nf.grOf sig N arcs ends).ends ↔ F q = true := by
      rw [hF]
      show q ∈ ends.map _ ↔ _
      rw [List.mem_map]
      constructor
      · rintro ⟨d, hd, he⟩; have := (hp.hd d hd).1; exact ⟨d, hd, by omega⟩
      · rintro ⟨d, hd, he⟩; exact ⟨d, hd, by omega⟩
    cases hb : F q with
    | true => exact (Nf.bl_true (h1.2 hb)).symm
    | false => exact (Nf.bl_false (fun h => by rw [h1.1 h] at hb; cases hb)).symm
  · exact hI.ix.movAt (by decide) (fun i => hs 0 i)
  · exact hI.ix.tabAt (t := 1) (by decide) (by decide) (fun i => hs 1 i)
  · exact hI.ix.tabAt (t := 2) (by decide) (by decide) (fun i => hs 2 i)
  · exact hI.ix.tabAt (t := 3) (by decide) (by decide) (fun i => hs 3 i)
  · intro p x q
    show (x, q) ∈ R 0 p ↔ _
    rw [hR 0 p (x, q) (by decide)]
    constructor
    · rintro ⟨a, ha, h1, h2, h3, h4⟩; exact ⟨a.i, h3, (hm p q a.i).2 ⟨a, ha, h2, rfl, h4⟩⟩
    · rintro ⟨s, h1, h2⟩
      obtain ⟨a, ha, h3, h4, h5⟩ := (hm p q s).1 h2
      refine ⟨a, ha, ?_, h3, by rw [h4]; exact h1, h5⟩
      have := hp.hfull s (List.mem_of_getElem? h1)
      rw [h4]; omega
  · intro p q
    show q ∈ (R 1 p).map Prod.fst ↔ (p, Nf.eps, q) ∈ _
    rw [hm, List.mem_map]
    constructor
    · rintro ⟨⟨y, z⟩, hx, rfl⟩
      obtain ⟨a, ha, h1, h2, h3, h4⟩ := (hR 1 p (y, z) (by decide)).1 hx
      exact ⟨a, ha, h2, Nf.size_eps.1 h1, h3⟩
    · rintro ⟨a, ha, h1, h2, h3⟩
      exact ⟨(q, 0), (hR 1 p (q, 0) (by decide)).2 ⟨a, ha, Nf.size_eps.2 h2, h1, h3, rfl⟩, rfl⟩
  · intro p q
    show q ∈ (R 2 p).map Prod.fst ↔ Nf.M _ q p
    rw [List.mem_map]
    constructor
    · rintro ⟨⟨y, z⟩, hx, rfl⟩
      obtain ⟨a, ha, h1, h2, h3, h4⟩ := (hR 2 p (y, z) (by decide)).1 hx
      exact ⟨a.i, fun e => h1 (Nf.size_eps.2 e), (hm y p a.i).2 ⟨a, ha, h3, rfl, h2⟩⟩
    · rintro ⟨s, h1, h2⟩
      obtain ⟨a, ha, h3, h4, h5⟩ := (hm q p s).1 h2
      exact ⟨(q, 0), (hR 2 p (q, 0) (by decide)).2 ⟨a, ha, fun e => h1 (by rw [← h4]; exact Nf.size_eps.1 e), h5, h3, rfl⟩, rfl⟩
  · intro p q
    show q ∈ (R 3 p).map Prod.fst ↔ (q, Nf.eps, p) ∈ _
    rw [hm, List.mem_map]
    constructor
    · rintro ⟨⟨y, z⟩, hx, rfl⟩
      obtain ⟨a, ha, h1, h2, h3, h4⟩ := (hR 3 p (y, z) (by decide)).1 hx
      exact ⟨a, ha, h3, Nf.size_eps.1 h1, h2⟩
    · rintro ⟨a, ha, h1, h2, h3⟩
      exact ⟨(q, 0), (hR 3 p (q, 0) (by decide)).2 ⟨a, ha, Nf.size_eps.2 h2, h3, h1, rfl⟩, rfl⟩

theorem Nf.vec_made {w : World} {b N : Nat} {e : TypeId} {z : Value} (h : w.heap[b]? = some (.cells (madeCells #[z] N) e (0, 0))) (hN : N ≤ 3000) : Vec id w b e N N (fun _ => z) :=
  ⟨_, h, size_madeCells _ _, Nat.le_refl _, by unfold maxLen; omega, fun i hi => by simp [madeCells, hi, Nat.mod_one]⟩
theorem Nf.vec_made_bool {w : World} {b N : Nat} {e : TypeId} (h : w.heap[b]? = some (.cells (madeCells #[.bool false] N) e (0, 0))) (hN : N ≤ 3000) : Vec Value.bool w b e N N (fun _ => false) :=
  ⟨_, h, size_madeCells _ _, Nat.le_refl _, by unfold maxLen; omega, fun i hi => by simp [madeCells, hi, Nat.mod_one]⟩

def Nf.IndexPost (g : Nf.Gr) (w : World) (e : Ending) (w' : World) : Prop := ∃ gb v, e = .returned (.pointer (some ⟨gb, 0, none⟩)) ∧ Nf.GrAt w' gb v g ∧ Below w.heap.size w w'

set_option maxHeartbeats 8000000 in
set_option maxRecDepth 100000 in
theorem index_any (w : World) (so : Option Addr) (sn scap : Nat) (sig : List ByteArray) (N : Nat) (ao : Option Addr) (an acap : Nat) (arcs : List ArcV) (eo : Option Addr) (en ecap : Nat) (ends : List EndV) (hpre : Nf.IndexPre w so sn sig N ao an arcs eo en ends) :
    Calls Try.prog 14 #[.agg #[.slice so sn scap, .int .i64 N, .slice ao an acap, .slice eo en ecap]] w (Nf.IndexPost (Nf.grOf sig N arcs ends) w) := by
  obtain ⟨i0, hi, hiz0, hiz1, hiz2⟩ := info_parts Nf.intInfo
  obtain ⟨j0, hj, hjz0, hjz1, hjz2⟩ := info_parts Nf.movInfo
  have Hpre := Sp.hid hpre
  have hN := hpre.hN
  have han := hpre.han
  have hen := hpre.hen
  have hsn := hpre.hsn
  have Ha := Sp.hid hpre.ha
  have He := Sp.hid hpre.he
  have Hlen := Sp.hid hpre.ha.1
  have HlenE := Sp.hid hpre.he.1
  clear hpre
  go_enter Try.func14, Try.ntmps14
  go_wp2_with fail
  go_cut [3] (fun s3 wx => ∃ gb eb tb, s3 = .pointer (some ⟨gb, 0, none⟩) ∧ Nf.IndAt w wx gb w.heap.size eb N #[.slice so sn scap, .slice (some ⟨eb, 0, none⟩) N N, .slice (some ⟨tb 0, 0, none⟩) N N, .slice (some ⟨tb 1, 0, none⟩) N N, .slice (some ⟨tb 2, 0, none⟩) N N, .slice (some ⟨tb 3, 0, none⟩) N N] #[.slice so sn scap, .int .i64 N, .slice ao an acap, .slice eo en ecap] tb (fun _ => false) (fun _ _ => .slice none 0 0) (fun _ _ => []))
  case first =>
    obtain ⟨w1, hw1⟩ : ∃ w1, w.alloc (.cells #[.slice so sn scap, .int .i64 N, .slice ao an acap, .slice eo en ecap] 26) = w1 := ⟨_, rfl⟩
    have hnb : w1.heap[w.heap.size]? = some (.cells #[.slice so sn scap, .int .i64 N, .slice ao an acap, .slice eo en ecap] 26 (0, 0)) := by rw [← hw1]; exact Nf.Below.heap_new _ _
    have hbw : Below w.heap.size w w1 := by rw [← hw1]; exact (Below.refl _ w).alloc (Nat.le_refl _) _
    rw [hw1]
    have k1 : w1.cell? ⟨w.heap.size, 0, none⟩ = some (.slice so sn scap) := Nf.blk_cell (i := 0) hnb rfl
    have k2 : w1.cell? ⟨w.heap.size, 1, none⟩ = some (.int .i64 N) := Nf.blk_cell (i := 1) hnb rfl
    have Hnb := Sp.hid hnb
    have Hbw := Sp.hid hbw
    clear hw1 hnb hbw
    refine Open.begin (S := fun w' => w'.cell? ⟨w.heap.size, 0, none⟩ = some (.slice so sn scap) ∧ w'.cell? ⟨w.heap.size, 1, none⟩ = some (.int .i64 N)) (z := 19) (by kernel_rfl) ?_
    have HS : w1.drew.cell? ⟨w.heap.size, 0, none⟩ = some (.slice so sn scap) ∧ w1.drew.cell? ⟨w.heap.size, 1, none⟩ = some (.int .i64 N) := ⟨k1, k2⟩
    refine Open.take (i := 0) (v := ?_) rfl (by kernel_rfl) (by kernel_rfl) (by kernel_rfl) (by kernel_rfl) (fun _ _ _ h => h) HS (Or.inl ⟨rfl, ?_⟩) ?_
    rotate_left
    · rintro w' ⟨k1, k2⟩
      go_simp
      try rfl
    simp only [Act.put, List.setIfInBounds_toArray, List.set_cons_zero, List.set_cons_succ]
    refine Open.take (i := 1) (v := ?_) rfl (by kernel_rfl) (by kernel_rfl) (by kernel_rfl) (by kernel_rfl) (fun _ _ _ h => h) HS (Or.inl ⟨rfl, ?_⟩) ?_
    rotate_left
    · rintro w' ⟨k1, k2⟩
      go_simp
      try rfl
    simp only [Act.put, List.setIfInBounds_toArray, List.set_cons_zero, List.set_cons_succ]
    refine Open.take (i := 2) (v := ?_) rfl (by kernel_rfl) (by kernel_rfl) (by kernel_rfl) (by kernel_rfl) (fun _ _ _ h => h) HS (Or.inl ⟨rfl, ?_⟩) ?_
    rotate_left
    · rintro w' ⟨k1, k2⟩
      go_simp
      try rfl
    simp only [Act.put, List.setIfInBounds_toArray, List.set_cons_zero, List.set_cons_succ]
    refine Open.take (i := 3) (v := ?_) rfl (by kernel_rfl) (by kernel_rfl) (by kernel_rfl) (by kernel_rfl) (fun _ _ _ h => h) HS (Or.inl ⟨rfl, ?_⟩) ?_
    rotate_left
    · rintro w' ⟨k1, k2⟩
      go_simp
      try rfl
    simp only [Act.put, List.setIfInBounds_toArray, List.set_cons_zero, List.set_cons_succ]
    refine Open.take (i := 5) (v := ?_) rfl (by kernel_rfl) (by kernel_rfl) (by kernel_rfl) (by kernel_rfl) (fun _ _ _ h => h) HS (Or.inl ⟨rfl, ?_⟩) ?_
    rotate_left
    · rintro w' ⟨k1, k2⟩
      go_simp
      try rfl
    simp only [Act.put, List.setIfInBounds_toArray, List.set_cons_zero, List.set_cons_succ]
    refine Open.take (i := 6) (v := ?_) rfl (by kernel_rfl) (by kernel_rfl) (by kernel_rfl) (by kernel_rfl) (fun _ _ _ h => h) HS (Or.inl ⟨rfl, ?_⟩) ?_
    rotate_left
    · rintro w' ⟨k1, k2⟩
      go_simp
      try rfl
    simp only [Act.put, List.setIfInBounds_toArray, List.set_cons_zero, List.set_cons_succ]
    refine Open.take (i := 8) (v := ?_) rfl (by kernel_rfl) (by kernel_rfl) (by kernel_rfl) (by kernel_rfl) (fun _ _ _ h => h) HS (Or.inl ⟨rfl, ?_⟩) ?_
    rotate_left
    · rintro w' ⟨k1, k2⟩
      go_simp
      try rfl
    simp only [Act.put, List.setIfInBounds_toArray, List.set_cons_zero, List.set_cons_succ]
    refine Open.take (i := 9) (v := ?_) rfl (by kernel_rfl) (by kernel_rfl) (by kernel_rfl) (by kernel_rfl) (fun _ _ _ h => h) HS (Or.inl ⟨rfl, ?_⟩) ?_
    rotate_left
    · rintro w' ⟨k1, k2⟩
      go_simp
      try rfl
    simp only [Act.put, List.setIfInBounds_toArray, List.set_cons_zero, List.set_cons_succ]
    refine Open.take (i := 11) (v := ?_) rfl (by kernel_rfl) (by kernel_rfl) (by kernel_rfl) (by kernel_rfl) (fun _ _ _ h => h) HS (Or.inl ⟨rfl, ?_⟩) ?_
    rotate_left
    · rintro w' ⟨k1, k2⟩
      go_simp
      try rfl
    simp only [Act.put, List.setIfInBounds_toArray, List.set_cons_zero, List.set_cons_succ]
    refine Open.take (i := 12) (v := ?_) rfl (by kernel_rfl) (by kernel_rfl) (by kernel_rfl) (by kernel_rfl) (fun _ _ _ h => h) HS (Or.inl ⟨rfl, ?_⟩) ?_
    rotate_left
    · rintro w' ⟨k1, k2⟩
      go_simp
      try rfl
    simp only [Act.put, List.setIfInBounds_toArray, List.set_cons_zero, List.set_cons_succ]
    refine Open.take (i := 14) (v := ?_) rfl (by kernel_rfl) (by kernel_rfl) (by kernel_rfl) (by kernel_rfl) (fun _ _ _ h => h) HS (Or.inl ⟨rfl, ?_⟩) ?_
    rotate_left
    · rintro w' ⟨k1, k2⟩
      go_simp
      try rfl
    simp only [Act.put, List.setIfInBounds_toArray, List.set_cons_zero, List.set_cons_succ]
    refine Open.take (i := 15) (v := ?_) rfl (by kernel_rfl) (by kernel_rfl) (by kernel_rfl) (by kernel_rfl) (fun _ _ _ h => h) HS (Or.inl ⟨rfl, ?_⟩) ?_
    rotate_left
    · rintro w' ⟨k1, k2⟩
      go_simp
      try rfl
    simp only [Act.put, List.setIfInBounds_toArray, List.set_cons_zero, List.set_cons_succ]
    refine Open.name (fun aa ha => ?_)
    have hp : aa = put5 aa (fun j => [14, 17, 20, 23, 26].getD j 0) (fun j => mkRow N ((fun _ => none : Nat → Option Nat) j)) := by rw [ha]; kernel_rfl
    have e0 : aa.eval (.tmp 13) = .int .i64 N := by rw [ha]; kernel_rfl
    have e1 : aa.eval (.tmp 16) = .int .i64 N := by rw [ha]; kernel_rfl
    have e2 : aa.eval (.tmp 19) = .int .i64 N := by rw [ha]; kernel_rfl
    have e3 : aa.eval (.tmp 22) = .int .i64 N := by rw [ha]; kernel_rfl
    have e4 : aa.eval (.tmp 25) = .int .i64 N := by rw [ha]; kernel_rfl
    refine Open.swap (done' := #[true, true, true, true, false, true, true, false, true, true, false, true, true, false, true, true, false, false, false, false]) (a' := put5 aa (fun j => [14, 17, 20, 23, 26].getD j 0) (fun j => mkRow N ((fun _ => none : Nat → Option Nat) j))) (n' := 3 + 5) (by kernel_rfl) hp rfl ?_
    clear hp
    have hdd : ∀ j k, j < 5 → k < 5 → j ≠ k → ([14, 17, 20, 23, 26].getD j 0 : Nat) ≠ [14, 17, 20, 23, 26].getD k 0 := by
      have h : ∀ j, j < 5 → ∀ k, k < 5 → j ≠ k → ([14, 17, 20, 23, 26].getD j 0 : Nat) ≠ [14, 17, 20, 23, 26].getD k 0 := by decide
      exact fun j k h1 h2 h3 => h j h1 k h2 h3
    refine Open.five (N := N) (w0 := w1) (fun j => [4, 7, 10, 13, 16].getD j 0) (fun j => if j = 0 then 4 else if j = 1 then 70 else 67) (fun j => if j = 0 then .bool false else .slice none 0 0)
      (fun u : Nat → Bool => #[true, true, true, true, u 0, true, true, u 1, true, true, u 2, true, true, u 3, true, true, u 4, false, false, false]) (fun c => put5 aa (fun j => [14, 17, 20, 23, 26].getD j 0) (fun j => mkRow N (c j))) ?hx ?hL ?hr ?hne ?hS ?hw ?hend 5 (fun _ => none) _ (fun _ => false) (by rfl) (fun j _ => rfl) ?h0
    case hx => intro u v h; simp only [h 0 (by omega), h 1 (by omega), h 2 (by omega), h 3 (by omega), h 4 (by omega)]
    case hL =>
      intro u j hj
      have : j = 0 ∨ j = 1 ∨ j = 2 ∨ j = 3 ∨ j = 4 := by omega
      rcases this with rfl | rfl | rfl | rfl | rfl <;> rfl
    case hr =>
      intro u hu
      refine five_ready ?_
      revert hu
      generalize u 0 = b0
      generalize u 1 = b1
      generalize u 2 = b2
      generalize u 3 = b3
      generalize u 4 = b4
      revert b0 b1 b2 b3 b4
      decide +kernel
    case hne =>
      intro u
      generalize u 0 = b0
      generalize u 1 = b1
      generalize u 2 = b2
      generalize u 3 = b3
      generalize u 4 = b4
      revert b0 b1 b2 b3 b4
      decide +kernel
    case hS =>
      rintro w' o ⟨h1, h2⟩
      exact ⟨by rw [World.cell?_alloc_lt _ _ _ (World.block_lt_of_cell? w' _ h1)]; exact h1, by rw [World.cell?_alloc_lt _ _ _ (World.block_lt_of_cell? w' _ h2)]; exact h2⟩
    case hw =>
      intro c j wx K hj hcj hK
      have hput : ∀ b, (put5 aa (fun j => [14, 17, 20, 23, 26].getD j 0) (fun j => mkRow N (c j))).put (some ([14, 17, 20, 23, 26].getD j 0)) (.slice (some ⟨b, 0, none⟩) N N) = put5 aa (fun j => [14, 17, 20, 23, 26].getD j 0) (fun k => mkRow N (up1 c j (some b) k)) := by
        intro b
        rw [put5_put aa (fun j => [14, 17, 20, 23, 26].getD j 0) _ hdd hj]
        congr 1
        funext k
        unfold up1
        by_cases e : k = j
        · simp [e, mkRow]
        · simp [e]
      have hd5 : ∀ l : Nat, l = 13 ∨ l = 16 ∨ l = 19 ∨ l = 22 ∨ l = 25 → ∀ j, j < 5 → ([14, 17, 20, 23, 26].getD j 0 : Nat) ≠ l := by
        rintro l (rfl | rfl | rfl | rfl | rfl) <;> decide
      have : j = 0 ∨ j = 1 ∨ j = 2 ∨ j = 3 ∨ j = 4 := by omega
      rcases this with rfl | rfl | rfl | rfl | rfl
      · exact wpOp_make (i := 4) rfl rfl 47 (.tmp 13) (.tmp 13) 14 rfl rfl 4 (.bool false) 1 Try.underlying47 Nf.boolInfo rfl N ((put5_eval _ _ _ (hd5 13 (by simp))).trans e0) ((put5_eval _ _ _ (hd5 13 (by simp))).trans e0) (by omega) (by omega) (Eq.mpr (congrArg (fun x => K x _) (hput wx.heap.size)) hK)
      · exact wpOp_make (i := 7) rfl rfl 63 (.tmp 16) (.tmp 16) 17 rfl rfl 70 (.slice none 0 0) 24 Try.underlying63 Nf.movsInfo rfl N ((put5_eval _ _ _ (hd5 16 (by simp))).trans e1) ((put5_eval _ _ _ (hd5 16 (by simp))).trans e1) (by omega) (by omega) (Eq.mpr (congrArg (fun x => K x _) (hput wx.heap.size)) hK)
      · exact wpOp_make (i := 10) rfl rfl 64 (.tmp 19) (.tmp 19) 20 rfl rfl 67 (.slice none 0 0) 24 Try.underlying64 Nf.rowsInfo rfl N ((put5_eval _ _ _ (hd5 19 (by simp))).trans e2) ((put5_eval _ _ _ (hd5 19 (by simp))).trans e2) (by omega) (by omega) (Eq.mpr (congrArg (fun x => K x _) (hput wx.heap.size)) hK)
      · exact wpOp_make (i := 13) rfl rfl 64 (.tmp 22) (.tmp 22) 23 rfl rfl 67 (.slice none 0 0) 24 Try.underlying64 Nf.rowsInfo rfl N ((put5_eval _ _ _ (hd5 22 (by simp))).trans e3) ((put5_eval _ _ _ (hd5 22 (by simp))).trans e3) (by omega) (by omega) (Eq.mpr (congrArg (fun x => K x _) (hput wx.heap.size)) hK)
      · exact wpOp_make (i := 16) rfl rfl 64 (.tmp 25) (.tmp 25) 26 rfl rfl 67 (.slice none 0 0) 24 Try.underlying64 Nf.rowsInfo rfl N ((put5_eval _ _ _ (hd5 25 (by simp))).trans e4) ((put5_eval _ _ _ (hd5 25 (by simp))).trans e4) (by omega) (by omega) (Eq.mpr (congrArg (fun x => K x _) (hput wx.heap.size)) hK)
    case h0 => exact ⟨(Below.refl _ w1).drew, HS, (fun j b _ h => by cases h), (fun j k b d _ _ _ h => by cases h)⟩
    case hend =>
      intro c wx hc hF
      obtain ⟨b0, h0⟩ := hc 0 (by omega)
      obtain ⟨b1, h1⟩ := hc 1 (by omega)
      obtain ⟨b2, h2⟩ := hc 2 (by omega)
      obtain ⟨b3, h3⟩ := hc 3 (by omega)
      obtain ⟨b4, h4⟩ := hc 4 (by omega)
      have f0 := hF.at_ 0 b0 (by omega) h0
      have f1 := hF.at_ 1 b1 (by omega) h1
      have f2 := hF.at_ 2 b2 (by omega) h2
      have f3 := hF.at_ 3 b3 (by omega) h3
      have f4 := hF.at_ 4 b4 (by omega) h4
      have hapart := hF.apart
      have n12 : b1 ≠ b2 := hapart 1 2 b1 b2 (by omega) (by omega) (by omega) h1 h2
      have n13 : b1 ≠ b3 := hapart 1 3 b1 b3 (by omega) (by omega) (by omega) h1 h3
      have n14 : b1 ≠ b4 := hapart 1 4 b1 b4 (by omega) (by omega) (by omega) h1 h4
      have n23 : b2 ≠ b3 := hapart 2 3 b2 b3 (by omega) (by omega) (by omega) h2 h3
      have n24 : b2 ≠ b4 := hapart 2 4 b2 b4 (by omega) (by omega) (by omega) h2 h4
      have n34 : b3 ≠ b4 := hapart 3 4 b3 b4 (by omega) (by omega) (by omega) h3 h4
      have hv : (fun j => mkRow N (c j)) 0 = .slice (some ⟨b0, 0, none⟩) N N ∧ (fun j => mkRow N (c j)) 1 = .slice (some ⟨b1, 0, none⟩) N N ∧ (fun j => mkRow N (c j)) 2 = .slice (some ⟨b2, 0, none⟩) N N ∧ (fun j => mkRow N (c j)) 3 = .slice (some ⟨b3, 0, none⟩) N N ∧ (fun j => mkRow N (c j)) 4 = .slice (some ⟨b4, 0, none⟩) N N := by
        simp only [h0, h1, h2, h3, h4, mkRow, and_self]
      have hput : put5 aa (fun j => [14, 17, 20, 23, 26].getD j 0) (fun j => mkRow N (c j)) = ((((aa.put (some 14) (.slice (some ⟨b0, 0, none⟩) N N)).put (some 17) (.slice (some ⟨b1, 0, none⟩) N N)).put (some 20) (.slice (some ⟨b2, 0, none⟩) N N)).put (some 23) (.slice (some ⟨b3, 0, none⟩) N N)).put (some 26) (.slice (some ⟨b4, 0, none⟩) N N) := by
        unfold put5
        rw [hv.1, hv.2.1, hv.2.2.1, hv.2.2.2.1, hv.2.2.2.2]
        rfl
      have hq : aa.put (some 14) (.slice (some ⟨b0, 0, none⟩) N N) = aa.put (some 14) (.slice (some ⟨b0, 0, none⟩) N N) := rfl
      rw [hput, ha]
      clear hv hput hc hapart e0 e1 e2 e3 e4 ha hdd hq
      have HF := Sp.hid hF
      have F0 := Sp.hid f0
      have F1 := Sp.hid f1
      have F2 := Sp.hid f2
      have F3 := Sp.hid f3
      have F4 := Sp.hid f4
      clear hF f0 f1 f2 f3 f4 h0 h1 h2 h3 h4
      simp only [Act.put, List.setIfInBounds_toArray, List.set_cons_zero, List.set_cons_succ]
      refine Open.one (i := 17) rfl (by kernel_rfl) rfl (fun K hK => ?_)
      go_simp
      refine hK _ _ ⟨fun _ => HF.out.kind, ?_⟩
      clear hK K
      refine Open.one (i := 18) rfl (by kernel_rfl) rfl (fun K hK => ?_)
      go_simp
      refine hK _ _ ⟨fun _ => ?_, ?_⟩
      · obtain ⟨g1, g2⟩ := HF.out.kind
        exact ⟨by rw [World.cell?_alloc_lt _ _ _ (World.block_lt_of_cell? wx _ g1)]; exact g1, by rw [World.cell?_alloc_lt _ _ _ (World.block_lt_of_cell? wx _ g2)]; exact g2⟩
      clear hK K
      refine Open.one (i := 19) rfl (by kernel_rfl) rfl (fun K hK => ?_)
      go_simp
      refine hK _ _ ⟨fun e => absurd rfl e, ?_⟩
      clear hK K
      refine Open.end (by kernel_rfl) ?_
      go_wp2_with fail
      go_meet
      have hbw := Hbw.out.trans (HF.out.below.mono Hbw.out.size)
      have hbz := hbw.size
      have hbs := Hbw.out.size
      have t0 := Nf.blk_alloc F0.out.2 (.cells #[.slice so sn scap, .slice (some ⟨b0, 0, none⟩) N N, .slice (some ⟨b1, 0, none⟩) N N, .slice (some ⟨b2, 0, none⟩) N N, .slice (some ⟨b3, 0, none⟩) N N, .slice (some ⟨b4, 0, none⟩) N N] 66)
      have t1 := Nf.blk_alloc F1.out.2 (.cells #[.slice so sn scap, .slice (some ⟨b0, 0, none⟩) N N, .slice (some ⟨b1, 0, none⟩) N N, .slice (some ⟨b2, 0, none⟩) N N, .slice (some ⟨b3, 0, none⟩) N N, .slice (some ⟨b4, 0, none⟩) N N] 66)
      have t2 := Nf.blk_alloc F2.out.2 (.cells #[.slice so sn scap, .slice (some ⟨b0, 0, none⟩) N N, .slice (some ⟨b1, 0, none⟩) N N, .slice (some ⟨b2, 0, none⟩) N N, .slice (some ⟨b3, 0, none⟩) N N, .slice (some ⟨b4, 0, none⟩) N N] 66)
      have t3 := Nf.blk_alloc F3.out.2 (.cells #[.slice so sn scap, .slice (some ⟨b0, 0, none⟩) N N, .slice (some ⟨b1, 0, none⟩) N N, .slice (some ⟨b2, 0, none⟩) N N, .slice (some ⟨b3, 0, none⟩) N N, .slice (some ⟨b4, 0, none⟩) N N] 66)
      have t4 := Nf.blk_alloc F4.out.2 (.cells #[.slice so sn scap, .slice (some ⟨b0, 0, none⟩) N N, .slice (some ⟨b1, 0, none⟩) N N, .slice (some ⟨b2, 0, none⟩) N N, .slice (some ⟨b3, 0, none⟩) N N, .slice (some ⟨b4, 0, none⟩) N N] 66)
      refine ⟨wx.heap.size, b0, (fun t => if t = 0 then b1 else if t = 1 then b2 else if t = 2 then b3 else b4), rfl, ⟨⟨?_, ?_, ?_, ?_, ?_⟩, Nf.Below.heap_new _ _, ?_, ?_, Nat.le_trans hbs F0.out.1, hbw.alloc hbz _⟩⟩
      · intro t ht
        have : t = 0 ∨ t = 1 ∨ t = 2 ∨ t = 3 := by omega
        rcases this with rfl | rfl | rfl | rfl
        · exact Nf.vec_made t1 (by omega)
        · exact Nf.vec_made t2 (by omega)
        · exact Nf.vec_made t3 (by omega)
        · exact Nf.vec_made t4 (by omega)
      · intro t ht
        have : t = 0 ∨ t = 1 ∨ t = 2 ∨ t = 3 := by omega
        rcases this with rfl | rfl | rfl | rfl
        · exact Nat.le_trans hbs F1.out.1
        · exact Nat.le_trans hbs F2.out.1
        · exact Nat.le_trans hbs F3.out.1
        · exact Nat.le_trans hbs F4.out.1
      · intro t t' ht ht' h
        have h1 : t = 0 ∨ t = 1 ∨ t = 2 ∨ t = 3 := by omega
        have h2 : t' = 0 ∨ t' = 1 ∨ t' = 2 ∨ t' = 3 := by omega
        rcases h1 with rfl | rfl | rfl | rfl <;> rcases h2 with rfl | rfl | rfl | rfl <;> first | rfl | exact absurd h n12 | exact absurd h n13 | exact absurd h n14 | exact absurd h n23 | exact absurd h n24 | exact absurd h n34 | exact absurd h.symm n12 | exact absurd h.symm n13 | exact absurd h.symm n14 | exact absurd h.symm n23 | exact absurd h.symm n24 | exact absurd h.symm n34
      · intro t i ht hi
        exact World.ownsRow_nil _ _ _ _
      · intro t i t' i' _ _ _ _ _
        exact .inl rfl
      · exact Nf.blk_alloc (Nf.blk_below Hnb.out HF.out.below (Nf.blk_lt Hnb.out)) _
      · exact (Nf.vec_made_bool t0 (by omega))
  case rest =>
    obtain ⟨gb, eb, tb, rfl, hind⟩ := hcut
    have Hind := Sp.hid hind
    obtain ⟨gc, hgc⟩ : ∃ gc : Array Value, #[.slice so sn scap, .slice (some ⟨eb, 0, none⟩) N N, .slice (some ⟨tb 0, 0, none⟩) N N, .slice (some ⟨tb 1, 0, none⟩) N N, .slice (some ⟨tb 2, 0, none⟩) N N, .slice (some ⟨tb 3, 0, none⟩) N N] = gc := ⟨_, rfl⟩
    rw [hgc] at Hind
    have Hgc := Sp.hid hgc
    obtain ⟨nc, hnc⟩ : ∃ nc : Array Value, #[.slice so sn scap, .int .i64 N, .slice ao an acap, .slice eo en ecap] = nc := ⟨_, rfl⟩
    rw [hnc] at Hind
    have Hnc := Sp.hid hnc
    have d2 := Nf.blk_cell (i := 2) hind.nblk rfl
    clear hind hgc hnc
    go_wp2_with fail
    go_loopw [5, 6, 7, 32] (fun _ _ _ i wr => ∃ (k : Nat) (V : Nat → Nat → Value) (R : Nat → Nat → List (Nat × Nat)), i = .int .i64 k ∧ k ≤ an ∧ Nf.IndAt w wr gb w.heap.size eb N gc nc tb (fun _ => false) V R ∧ Nf.RelR sig (arcs.take k) R ∧ ∀ t i, (R t i).length ≤ 2 * k) (fun _ _ _ i _ => an - (intOf i).toNat)
    case atStart => exact ⟨0, _, _, rfl, Nat.zero_le _, Hind.out, Nf.relR_nil sig, fun t i => by simp⟩
    case round =>
      obtain ⟨k, V1, R1, rfl, hk, hI, hR, hsz⟩ := hrel
      have HI := Sp.hid hI
      have HR := Sp.hid hR
      have Hsz1 := Sp.hid hsz
      have Hbel := Sp.hid hI.below
      clear hI hR hsz
      by_cases hkn : k < an
      · obtain ⟨b, off, x, rfl, ⟨c0, c1, c2, c3, c4⟩, hi1, ho1, hx, htk⟩ := (Ha.out.below Hbel.out).at hkn
        have hxm := List.mem_of_getElem? hx
        have Htk := Sp.hid htk
        obtain ⟨⟨hf0, hf1⟩, ht0, ht1⟩ := And.intro (Hpre.out.hf x hxm) (Hpre.out.ht x hxm)
        have hsy := Hpre.out.hsy x hxm
        obtain ⟨xf, xi, xo, xt, xc⟩ := x
        simp only at c0 c1 c2 c3 c4 hi1 ho1 hf0 hf1 ht0 ht1 hsy
        obtain ⟨p, rfl⟩ := Int.eq_ofNat_of_zero_le hf0
        obtain ⟨q, rfl⟩ := Int.eq_ofNat_of_zero_le ht0
        have hHI : Nf.IndAt w (wr.alloc (.cells #[.int .i64 p, .string xi, .string xo, .int .i64 q, .int .i64 xc] 43)) gb w.heap.size eb N gc nc tb (fun _ => false) V1 R1 := HI.out.alloc _
        obtain ⟨w1, hw1⟩ : ∃ w1, wr.alloc (.cells #[.int .i64 p, .string xi, .string xo, .int .i64 q, .int .i64 xc] 43) = w1 := ⟨_, rfl⟩
        have hab : w1.heap[wr.heap.size]? = some (.cells #[.int .i64 p, .string xi, .string xo, .int .i64 q, .int .i64 xc] 43 (0, 0)) := by rw [← hw1]; exact Nf.Below.heap_new _ _
        rw [hw1] at hHI
        have HI1 := Sp.hid hHI
        have Hab1 := Sp.hid hab
        have Hw1 := Sp.hid hw1
        clear hx htk hxm hHI hab hw1
        by_cases hz : xi.size = 0
        · have hzz := Sp.empty_of_size hz
          have Hz := Sp.hid hz
          clear hz hsy
          go_wp2_with fail
          rw [Hw1.out]
          clear hzz
          have hgb := HI1.out.gblk
          rw [← Hgc.out] at hgb
          have k1 : w1.cell? ⟨gb, 3, none⟩ = some (.slice (some ⟨tb 1, 0, none⟩) N N) := Nf.blk_cell (i := 3) hgb rfl
          have k2 : w1.cell? ⟨wr.heap.size, 0, none⟩ = some (.int .i64 p) := Nf.blk_cell (i := 0) Hab1.out rfl
          have k3 : w1.cell? ⟨wr.heap.size, 3, none⟩ = some (.int .i64 q) := Nf.blk_cell (i := 3) Hab1.out rfl
          have k4 : w1.cell? ⟨tb 1, p, none⟩ = some (V1 1 p) := (HI1.out.ix.tab 1 (by decide)).cell (by omega)
          have hrow := HI1.out.ix.row 1 p (by decide) (by omega)
          have hsz1 := Hsz1.out 1 p
          have hHH := HI1.out.below.size
          have o1 : (V1 1 p).ownBlock ≠ some gb := Nf.own_ne hrow HI1.out.gblk (by decide)
          have o2 : (V1 1 p).ownBlock ≠ some wr.heap.size := Nf.own_ne hrow Hab1.out (by decide)
          have o3 : (V1 1 p).ownBlock ≠ some (tb 1) := Nf.own_vec_ne hrow (HI1.out.ix.tab 1 (by decide)) (by decide)
          have l1 := Nf.blk_lt HI1.out.gblk
          have l2 := Nf.blk_lt Hab1.out
          have l3 := (HI1.out.ix.tab 1 (by decide)).lt
          have f4 := (HI1.out.ix.tab 1 (by decide)).free p
          have hrow2 : ((w1.alloc (.cells #[.int .i64 q] 3)).drew).ownsRow w.heap.size 3 1 (V1 1 p) (R1 1 p).length ((R1 1 p).flatMap (Nf.enc 1)) := hrow.alloc _
          have Hrow2 := Sp.hid hrow2
          clear hrow2 hrow hgb
          refine Open.begin (S := fun w' => w'.cell? ⟨gb, 3, none⟩ = some (.slice (some ⟨tb 1, 0, none⟩) N N) ∧ w'.cell? ⟨wr.heap.size, 0, none⟩ = some (.int .i64 p) ∧ w'.cell? ⟨wr.heap.size, 3, none⟩ = some (.int .i64 q) ∧ w'.cell? ⟨tb 1, p, none⟩ = some (V1 1 p)) (z := 19) (by kernel_rfl) ?_
          have HS : w1.drew.cell? ⟨gb, 3, none⟩ = some (.slice (some ⟨tb 1, 0, none⟩) N N) ∧ w1.drew.cell? ⟨wr.heap.size, 0, none⟩ = some (.int .i64 p) ∧ w1.drew.cell? ⟨wr.heap.size, 3, none⟩ = some (.int .i64 q) ∧ w1.drew.cell? ⟨tb 1, p, none⟩ = some (V1 1 p) := ⟨k1, k2, k3, k4⟩
          refine Open.take (i := 0) (v := ?_) rfl (by kernel_rfl) (by kernel_rfl) (by kernel_rfl) (by kernel_rfl) (fun _ _ _ h => h) HS (Or.inl ⟨rfl, ?_⟩) ?_
          rotate_left
          · rintro w' ⟨k1, k2, k3, k4⟩
            go_simp
            try rfl
          simp only [Act.put, List.setIfInBounds_toArray, List.set_cons_zero, List.set_cons_succ]
          refine Open.take (i := 1) (v := ?_) rfl (by kernel_rfl) (by kernel_rfl) (by kernel_rfl) (by kernel_rfl) (fun _ _ _ h => h) HS (Or.inl ⟨rfl, ?_⟩) ?_
          rotate_left
          · rintro w' ⟨k1, k2, k3, k4⟩
            go_simp
            try rfl
          simp only [Act.put, List.setIfInBounds_toArray, List.set_cons_zero, List.set_cons_succ]
          refine Open.take (i := 2) (v := ?_) rfl (by kernel_rfl) (by kernel_rfl) (by kernel_rfl) (by kernel_rfl) (fun _ _ _ h => h) HS (Or.inl ⟨rfl, ?_⟩) ?_
          rotate_left
          · rintro w' ⟨k1, k2, k3, k4⟩
            go_simp
            try rfl
          simp only [Act.put, List.setIfInBounds_toArray, List.set_cons_zero, List.set_cons_succ]
          refine Open.take (i := 3) (v := ?_) rfl (by kernel_rfl) (by kernel_rfl) (by kernel_rfl) (by kernel_rfl) (fun _ _ _ h => h) HS (Or.inl ⟨rfl, ?_⟩) ?_
          rotate_left
          · rintro w' ⟨k1, k2, k3, k4⟩
            go_simp
            try rfl
          simp only [Act.put, List.setIfInBounds_toArray, List.set_cons_zero, List.set_cons_succ]
          refine Open.take (i := 4) (v := ?_) rfl (by kernel_rfl) (by kernel_rfl) (by kernel_rfl) (by kernel_rfl) (fun _ _ _ h => h) HS (Or.inl ⟨rfl, ?_⟩) ?_
          rotate_left
          · rintro w' ⟨k1, k2, k3, k4⟩
            go_simp
            try rfl
          simp only [Act.put, List.setIfInBounds_toArray, List.set_cons_zero, List.set_cons_succ]
          refine Open.take (i := 5) (v := ?_) rfl (by kernel_rfl) (by kernel_rfl) (by kernel_rfl) (by kernel_rfl) (fun _ _ _ h => h) HS (Or.inl ⟨rfl, ?_⟩) ?_
          rotate_left
          · rintro w' ⟨k1, k2, k3, k4⟩
            go_simp
            try rfl
          simp only [Act.put, List.setIfInBounds_toArray, List.set_cons_zero, List.set_cons_succ]
          refine Open.take (i := 6) (v := ?_) rfl (by kernel_rfl) (by kernel_rfl) (by kernel_rfl) (by kernel_rfl) (fun _ _ _ h => h) HS (Or.inl ⟨rfl, ?_⟩) ?_
          rotate_left
          · rintro w' ⟨k1, k2, k3, k4⟩
            go_simp
            try rfl
          simp only [Act.put, List.setIfInBounds_toArray, List.set_cons_zero, List.set_cons_succ]
          refine Open.take (i := 7) (v := ?_) rfl (by kernel_rfl) (by kernel_rfl) (by kernel_rfl) (by kernel_rfl) (fun _ _ _ h => h) HS (Or.inl ⟨rfl, ?_⟩) ?_
          rotate_left
          · rintro w' ⟨k1, k2, k3, k4⟩
            go_simp
            try rfl
          simp only [Act.put, List.setIfInBounds_toArray, List.set_cons_zero, List.set_cons_succ]
          refine Open.take (i := 8) (v := ?_) rfl (by kernel_rfl) (by kernel_rfl) (by kernel_rfl) (by kernel_rfl) (fun _ _ _ h => h) HS (Or.inl ⟨rfl, ?_⟩) ?_
          rotate_left
          · rintro w' ⟨k1, k2, k3, k4⟩
            go_simp
            try rfl
          simp only [Act.put, List.setIfInBounds_toArray, List.set_cons_zero, List.set_cons_succ]
          refine Open.take (i := 9) (v := ?_) rfl (by kernel_rfl) (by kernel_rfl) (by kernel_rfl) (by kernel_rfl) (fun _ _ _ h => h) HS (Or.inl ⟨rfl, ?_⟩) ?_
          rotate_left
          · rintro w' ⟨k1, k2, k3, k4⟩
            go_simp
            try rfl
          simp only [Act.put, List.setIfInBounds_toArray, List.set_cons_zero, List.set_cons_succ]
          refine Open.take (i := 10) (v := ?_) rfl (by kernel_rfl) (by kernel_rfl) (by kernel_rfl) (by kernel_rfl) (fun _ _ _ h => h) HS (Or.inl ⟨rfl, ?_⟩) ?_
          rotate_left
          · rintro w' ⟨k1, k2, k3, k4⟩
            go_simp
            try rfl
          simp only [Act.put, List.setIfInBounds_toArray, List.set_cons_zero, List.set_cons_succ]
          refine Open.take (i := 11) (v := ?_) rfl (by kernel_rfl) (by kernel_rfl) (by kernel_rfl) (by kernel_rfl) (fun _ _ _ h => h) HS (Or.inl ⟨rfl, ?_⟩) ?_
          rotate_left
          · rintro w' ⟨k1, k2, k3, k4⟩
            go_simp
            try rfl
          simp only [Act.put, List.setIfInBounds_toArray, List.set_cons_zero, List.set_cons_succ]
          refine Open.take (i := 12) (v := ?_) rfl (by kernel_rfl) (by kernel_rfl) (by kernel_rfl) (by kernel_rfl) (fun _ _ _ h => h) HS (Or.inl ⟨rfl, ?_⟩) ?_
          rotate_left
          · rintro w' ⟨k1, k2, k3, k4⟩
            go_simp
            try rfl
          simp only [Act.put, List.setIfInBounds_toArray, List.set_cons_zero, List.set_cons_succ]
          refine Open.take (i := 13) (v := ?_) rfl (by kernel_rfl) (by kernel_rfl) (by kernel_rfl) (by kernel_rfl) (fun _ _ _ h => h) HS (Or.inl ⟨rfl, ?_⟩) ?_
          rotate_left
          · rintro w' ⟨k1, k2, k3, k4⟩
            go_simp
            try rfl
          simp only [Act.put, List.setIfInBounds_toArray, List.set_cons_zero, List.set_cons_succ]
          refine Open.take (i := 14) (v := ?_) rfl (by kernel_rfl) (by kernel_rfl) (by kernel_rfl) (by kernel_rfl) (fun _ _ _ h => h) HS (Or.inl ⟨rfl, ?_⟩) ?_
          rotate_left
          · rintro w' ⟨k1, k2, k3, k4⟩
            go_simp
            try rfl
          simp only [Act.put, List.setIfInBounds_toArray, List.set_cons_zero, List.set_cons_succ]
          refine Open.take (i := 15) (v := ?_) rfl (by kernel_rfl) (by kernel_rfl) (by kernel_rfl) (by kernel_rfl) (fun _ _ _ h => h) HS (Or.inl ⟨rfl, ?_⟩) ?_
          rotate_left
          · rintro w' ⟨k1, k2, k3, k4⟩
            go_simp
            try rfl
          simp only [Act.put, List.setIfInBounds_toArray, List.set_cons_zero, List.set_cons_succ]
          refine Open.one (i := 16) rfl (by kernel_rfl) rfl (fun K hK => ?_)
          go_simp
          refine hK _ _ ⟨fun _ => ⟨?_, ?_, ?_, ?_⟩, ?_⟩
          · simpa [World.cell?_alloc_past _ _ _ l1] using k1
          · simpa [World.cell?_alloc_past _ _ _ l2] using k2
          · simpa [World.cell?_alloc_past _ _ _ l2] using k3
          · simpa [World.cell?_alloc_past _ _ _ l3] using k4
          clear hK K
          refine Open.one (i := 17) rfl (by kernel_rfl) rfl (fun K hK => ?_)
          refine wp_append_lies _ _ _ 67 (by rfl) w.heap.size 3 i0 _ 1 8 Try.underlying67 hi hiz0 hiz1 hiz2 rfl (by decide) (V1 1 p) _ _ (by rfl) Hrow2.out ⟨w1.heap.size, 0, none⟩ 1 1 [.int .i64 q] (by rfl) rfl (World.news_of_block (cs := #[.int .i64 q]) (t := 3) (fr := (0, 0)) (heap_alloc_new w1 _)) (by simp [Value.oneCell']) (by omega) ?_ ?_ ?_ (w1.heap.size + 1) (by simp) ?_
          · unfold maxLen; omega
          · omega
          · simp; omega
          intro g cap w13 hown3 hgrow3 hat3 hlt3
          have hl1 : gb < ((w1.alloc (.cells #[.int .i64 q] 3)).drew).heap.size := by simp; omega
          have hl2 : wr.heap.size < ((w1.alloc (.cells #[.int .i64 q] 3)).drew).heap.size := by simp; omega
          have hl3 : tb 1 < ((w1.alloc (.cells #[.int .i64 q] 3)).drew).heap.size := by simp; omega
          have m1 : w13.cell? ⟨gb, 3, none⟩ = some (.slice (some ⟨tb 1, 0, none⟩) N N) := by rw [hgrow3.cell_far ⟨gb, 3, none⟩ hl1 (Ne.symm o1)]; simpa [World.cell?_alloc_past _ _ _ l1] using k1
          have m2 : w13.cell? ⟨wr.heap.size, 0, none⟩ = some (.int .i64 p) := by rw [hgrow3.cell_far ⟨wr.heap.size, 0, none⟩ hl2 (Ne.symm o2)]; simpa [World.cell?_alloc_past _ _ _ l2] using k2
          have m3 : w13.cell? ⟨wr.heap.size, 3, none⟩ = some (.int .i64 q) := by rw [hgrow3.cell_far ⟨wr.heap.size, 3, none⟩ hl2 (Ne.symm o2)]; simpa [World.cell?_alloc_past _ _ _ l2] using k3
          have m4 : w13.cell? ⟨tb 1, p, none⟩ = some (V1 1 p) := by rw [hgrow3.cell_far ⟨tb 1, p, none⟩ hl3 (Ne.symm o3)]; simpa [World.cell?_alloc_past _ _ _ l3] using k4
          have m5 : w13.frozen? ⟨tb 1, p, none⟩ = false := by rw [hgrow3.frozen_far ⟨tb 1, p, none⟩ hl3 (Ne.symm o3)]; simpa [World.frozen?_alloc_past _ _ _ l3] using f4
          have hgr : w1.grownBy w13 (V1 1 p).ownBlock := World.grownBy.trans (World.grownBy_alloc w1 (.cells #[.int .i64 q] 3) _) ⟨hgrow3.os, hgrow3.tape, hgrow3.output, hgrow3.size, hgrow3.block⟩
          have hat4 : (V1 1 p).ownBlock = (Value.slice (some ⟨g, 0, none⟩) ((R1 1 p).length + 1) cap).ownBlock ∨ ∃ g', (Value.slice (some ⟨g, 0, none⟩) ((R1 1 p).length + 1) cap).ownBlock = some g' ∧ w1.heap.size ≤ g' := by
            rcases hat3 with h3 | h3
            · exact .inl h3
            · exact .inr ⟨g, rfl, by omega⟩
          have Hpush := Sp.hid (HI1.out.push (t := 1) (i := p) (by decide) (by omega) (x := (q, 0)) hgr hown3 hat4)
          have Hab3 := Sp.hid (Nf.blk_far (Nf.blk_grown Hab1.out hgr o2) (a := ⟨tb 1, p, none⟩) (fun e => Nf.blk_ne Hab1.out (Nf.Vec.blk (HI1.out.ix.tab 1 (by decide))).choose_spec (by decide) e) (.slice (some ⟨g, 0, none⟩) ((R1 1 p).length + 1) cap))
          refine hK _ _ ⟨fun _ => ⟨m1, m2, m3, m4⟩, ?_⟩
          clear hK K HS hown3 hgrow3 hat3 hlt3 hl1 hl2 hl3 k1 k2 k3 k4 f4 hgr hat4 Hrow2
          have HS : w13.cell? ⟨gb, 3, none⟩ = some (.slice (some ⟨tb 1, 0, none⟩) N N) ∧ w13.cell? ⟨wr.heap.size, 0, none⟩ = some (.int .i64 p) ∧ w13.cell? ⟨wr.heap.size, 3, none⟩ = some (.int .i64 q) ∧ w13.cell? ⟨tb 1, p, none⟩ = some (V1 1 p) := ⟨m1, m2, m3, m4⟩
          refine Open.take (i := 18) (v := ?_) rfl (by kernel_rfl) (by kernel_rfl) (by kernel_rfl) (by kernel_rfl) (fun _ _ _ h => h) HS (Or.inl ⟨rfl, ?_⟩) ?_
          rotate_left
          · rintro w' ⟨k1, k2, k3, k4⟩
            go_simp
            try rfl
          simp only [Act.put, List.setIfInBounds_toArray, List.set_cons_zero, List.set_cons_succ]
          refine Open.one (i := 19) rfl (by kernel_rfl) rfl (fun K hK => ?_)
          go_simp
          refine hK _ _ ⟨fun e => absurd rfl e, ?_⟩
          clear hK K HS m1 m2 m3 m4 m5 o1 o2 o3 l1 l2 l3
          refine Open.end (by kernel_rfl) ?_
          obtain ⟨v1, hv1⟩ : ∃ v1, Value.slice (some ⟨g, 0, none⟩) ((R1 1 p).length + 1) cap = v1 := ⟨_, rfl⟩
          rw [hv1] at Hpush Hab3 ⊢
          obtain ⟨w2, hw2⟩ : ∃ w2, w13.setCell ⟨tb 1, p, none⟩ v1 = w2 := ⟨_, rfl⟩
          rw [hw2] at Hpush Hab3 ⊢
          obtain ⟨V2, hV2⟩ : ∃ V2, Nf.upd V1 1 p v1 = V2 := ⟨_, rfl⟩
          rw [hV2] at Hpush
          obtain ⟨R2, hR2⟩ : ∃ R2, Nf.upd R1 1 p (R1 1 p ++ [(q, 0)]) = R2 := ⟨_, rfl⟩
          rw [hR2] at Hpush
          have HI2 := Hpush
          have Hab2 := Hab3
          have HR2 := Sp.hid hR2
          have Hsz2 := Sp.hid (Nf.upd_len hR2 Hsz1.out)
          clear hv1 hw2 hV2 hR2 Hpush Hab3
          go_wp2_with fail
          have hgb := HI2.out.gblk
          rw [← Hgc.out] at hgb
          have k1 : w2.cell? ⟨gb, 5, none⟩ = some (.slice (some ⟨tb 3, 0, none⟩) N N) := Nf.blk_cell (i := 5) hgb rfl
          have k2 : w2.cell? ⟨wr.heap.size, 3, none⟩ = some (.int .i64 q) := Nf.blk_cell (i := 3) Hab2.out rfl
          have k3 : w2.cell? ⟨wr.heap.size, 0, none⟩ = some (.int .i64 p) := Nf.blk_cell (i := 0) Hab2.out rfl
          have k4 : w2.cell? ⟨tb 3, q, none⟩ = some (V2 3 q) := (HI2.out.ix.tab 3 (by decide)).cell (by omega)
          have hrow := HI2.out.ix.row 3 q (by decide) (by omega)
          have hsz1 := Hsz2.out 3 q
          have hHH := HI2.out.below.size
          have o1 : (V2 3 q).ownBlock ≠ some gb := Nf.own_ne hrow HI2.out.gblk (by decide)
          have o2 : (V2 3 q).ownBlock ≠ some wr.heap.size := Nf.own_ne hrow Hab2.out (by decide)
          have o3 : (V2 3 q).ownBlock ≠ some (tb 3) := Nf.own_vec_ne hrow (HI2.out.ix.tab 3 (by decide)) (by decide)
          have l1 := Nf.blk_lt HI2.out.gblk
          have l2 := Nf.blk_lt Hab2.out
          have l3 := (HI2.out.ix.tab 3 (by decide)).lt
          have f4 := (HI2.out.ix.tab 3 (by decide)).free q
          have hrow2 : ((w2.alloc (.cells #[.int .i64 p] 3)).drew).ownsRow w.heap.size 3 1 (V2 3 q) (R2 3 q).length ((R2 3 q).flatMap (Nf.enc 3)) := hrow.alloc _
          have Hrow2 := Sp.hid hrow2
          clear hrow2 hrow hgb
          refine Open.begin (S := fun w' => w'.cell? ⟨gb, 5, none⟩ = some (.slice (some ⟨tb 3, 0, none⟩) N N) ∧ w'.cell? ⟨wr.heap.size, 3, none⟩ = some (.int .i64 q) ∧ w'.cell? ⟨wr.heap.size, 0, none⟩ = some (.int .i64 p) ∧ w'.cell? ⟨tb 3, q, none⟩ = some (V2 3 q)) (z := 19) (by kernel_rfl) ?_
          have HS : w2.drew.cell? ⟨gb, 5, none⟩ = some (.slice (some ⟨tb 3, 0, none⟩) N N) ∧ w2.drew.cell? ⟨wr.heap.size, 3, none⟩ = some (.int .i64 q) ∧ w2.drew.cell? ⟨wr.heap.size, 0, none⟩ = some (.int .i64 p) ∧ w2.drew.cell? ⟨tb 3, q, none⟩ = some (V2 3 q) := ⟨k1, k2, k3, k4⟩
          refine Open.take (i := 0) (v := ?_) rfl (by kernel_rfl) (by kernel_rfl) (by kernel_rfl) (by kernel_rfl) (fun _ _ _ h => h) HS (Or.inl ⟨rfl, ?_⟩) ?_
          rotate_left
          · rintro w' ⟨k1, k2, k3, k4⟩
            go_simp
            try rfl
          simp only [Act.put, List.setIfInBounds_toArray, List.set_cons_zero, List.set_cons_succ]
          refine Open.take (i := 1) (v := ?_) rfl (by kernel_rfl) (by kernel_rfl) (by kernel_rfl) (by kernel_rfl) (fun _ _ _ h => h) HS (Or.inl ⟨rfl, ?_⟩) ?_
          rotate_left
          · rintro w' ⟨k1, k2, k3, k4⟩
            go_simp
            try rfl
          simp only [Act.put, List.setIfInBounds_toArray, List.set_cons_zero, List.set_cons_succ]
          refine Open.take (i := 2) (v := ?_) rfl (by kernel_rfl) (by kernel_rfl) (by kernel_rfl) (by kernel_rfl) (fun _ _ _ h => h) HS (Or.inl ⟨rfl, ?_⟩) ?_
          rotate_left
          · rintro w' ⟨k1, k2, k3, k4⟩
            go_simp
            try rfl
          simp only [Act.put, List.setIfInBounds_toArray, List.set_cons_zero, List.set_cons_succ]
          refine Open.take (i := 3) (v := ?_) rfl (by kernel_rfl) (by kernel_rfl) (by kernel_rfl) (by kernel_rfl) (fun _ _ _ h => h) HS (Or.inl ⟨rfl, ?_⟩) ?_
          rotate_left
          · rintro w' ⟨k1, k2, k3, k4⟩
            go_simp
            try rfl
          simp only [Act.put, List.setIfInBounds_toArray, List.set_cons_zero, List.set_cons_succ]
          refine Open.take (i := 4) (v := ?_) rfl (by kernel_rfl) (by kernel_rfl) (by kernel_rfl) (by kernel_rfl) (fun _ _ _ h => h) HS (Or.inl ⟨rfl, ?_⟩) ?_
          rotate_left
          · rintro w' ⟨k1, k2, k3, k4⟩
            go_simp
            try rfl
          simp only [Act.put, List.setIfInBounds_toArray, List.set_cons_zero, List.set_cons_succ]
          refine Open.take (i := 5) (v := ?_) rfl (by kernel_rfl) (by kernel_rfl) (by kernel_rfl) (by kernel_rfl) (fun _ _ _ h => h) HS (Or.inl ⟨rfl, ?_⟩) ?_
          rotate_left
          · rintro w' ⟨k1, k2, k3, k4⟩
            go_simp
            try rfl
          simp only [Act.put, List.setIfInBounds_toArray, List.set_cons_zero, List.set_cons_succ]
          refine Open.take (i := 6) (v := ?_) rfl (by kernel_rfl) (by kernel_rfl) (by kernel_rfl) (by kernel_rfl) (fun _ _ _ h => h) HS (Or.inl ⟨rfl, ?_⟩) ?_
          rotate_left
          · rintro w' ⟨k1, k2, k3, k4⟩
            go_simp
            try rfl
          simp only [Act.put, List.setIfInBounds_toArray, List.set_cons_zero, List.set_cons_succ]
          refine Open.take (i := 7) (v := ?_) rfl (by kernel_rfl) (by kernel_rfl) (by kernel_rfl) (by kernel_rfl) (fun _ _ _ h => h) HS (Or.inl ⟨rfl, ?_⟩) ?_
          rotate_left
          · rintro w' ⟨k1, k2, k3, k4⟩
            go_simp
            try rfl
          simp only [Act.put, List.setIfInBounds_toArray, List.set_cons_zero, List.set_cons_succ]
          refine Open.take (i := 8) (v := ?_) rfl (by kernel_rfl) (by kernel_rfl) (by kernel_rfl) (by kernel_rfl) (fun _ _ _ h => h) HS (Or.inl ⟨rfl, ?_⟩) ?_
          rotate_left
          · rintro w' ⟨k1, k2, k3, k4⟩
            go_simp
            try rfl
          simp only [Act.put, List.setIfInBounds_toArray, List.set_cons_zero, List.set_cons_succ]
          refine Open.take (i := 9) (v := ?_) rfl (by kernel_rfl) (by kernel_rfl) (by kernel_rfl) (by kernel_rfl) (fun _ _ _ h => h) HS (Or.inl ⟨rfl, ?_⟩) ?_
          rotate_left
          · rintro w' ⟨k1, k2, k3, k4⟩
            go_simp
            try rfl
          simp only [Act.put, List.setIfInBounds_toArray, List.set_cons_zero, List.set_cons_succ]
          refine Open.take (i := 10) (v := ?_) rfl (by kernel_rfl) (by kernel_rfl) (by kernel_rfl) (by kernel_rfl) (fun _ _ _ h => h) HS (Or.inl ⟨rfl, ?_⟩) ?_
          rotate_left
          · rintro w' ⟨k1, k2, k3, k4⟩
            go_simp
            try rfl
          simp only [Act.put, List.setIfInBounds_toArray, List.set_cons_zero, List.set_cons_succ]
          refine Open.take (i := 11) (v := ?_) rfl (by kernel_rfl) (by kernel_rfl) (by kernel_rfl) (by kernel_rfl) (fun _ _ _ h => h) HS (Or.inl ⟨rfl, ?_⟩) ?_
          rotate_left
          · rintro w' ⟨k1, k2, k3, k4⟩
            go_simp
            try rfl
          simp only [Act.put, List.setIfInBounds_toArray, List.set_cons_zero, List.set_cons_succ]
          refine Open.take (i := 12) (v := ?_) rfl (by kernel_rfl) (by kernel_rfl) (by kernel_rfl) (by kernel_rfl) (fun _ _ _ h => h) HS (Or.inl ⟨rfl, ?_⟩) ?_
          rotate_left
          · rintro w' ⟨k1, k2, k3, k4⟩
            go_simp
            try rfl
          simp only [Act.put, List.setIfInBounds_toArray, List.set_cons_zero, List.set_cons_succ]
          refine Open.take (i := 13) (v := ?_) rfl (by kernel_rfl) (by kernel_rfl) (by kernel_rfl) (by kernel_rfl) (fun _ _ _ h => h) HS (Or.inl ⟨rfl, ?_⟩) ?_
          rotate_left
          · rintro w' ⟨k1, k2, k3, k4⟩
            go_simp
            try rfl
          simp only [Act.put, List.setIfInBounds_toArray, List.set_cons_zero, List.set_cons_succ]
          refine Open.take (i := 14) (v := ?_) rfl (by kernel_rfl) (by kernel_rfl) (by kernel_rfl) (by kernel_rfl) (fun _ _ _ h => h) HS (Or.inl ⟨rfl, ?_⟩) ?_
          rotate_left
          · rintro w' ⟨k1, k2, k3, k4⟩
            go_simp
            try rfl
          simp only [Act.put, List.setIfInBounds_toArray, List.set_cons_zero, List.set_cons_succ]
          refine Open.take (i := 15) (v := ?_) rfl (by kernel_rfl) (by kernel_rfl) (by kernel_rfl) (by kernel_rfl) (fun _ _ _ h => h) HS (Or.inl ⟨rfl, ?_⟩) ?_
          rotate_left
          · rintro w' ⟨k1, k2, k3, k4⟩
            go_simp
            try rfl
          simp only [Act.put, List.setIfInBounds_toArray, List.set_cons_zero, List.set_cons_succ]
          refine Open.one (i := 16) rfl (by kernel_rfl) rfl (fun K hK => ?_)
          go_simp
          refine hK _ _ ⟨fun _ => ⟨?_, ?_, ?_, ?_⟩, ?_⟩
          · simpa [World.cell?_alloc_past _ _ _ l1] using k1
          · simpa [World.cell?_alloc_past _ _ _ l2] using k2
          · simpa [World.cell?_alloc_past _ _ _ l2] using k3
          · simpa [World.cell?_alloc_past _ _ _ l3] using k4
          clear hK K
          refine Open.one (i := 17) rfl (by kernel_rfl) rfl (fun K hK => ?_)
          refine wp_append_lies _ _ _ 67 (by rfl) w.heap.size 3 i0 _ 1 8 Try.underlying67 hi hiz0 hiz1 hiz2 rfl (by decide) (V2 3 q) _ _ (by rfl) Hrow2.out ⟨w2.heap.size, 0, none⟩ 1 1 [.int .i64 p] (by rfl) rfl (World.news_of_block (cs := #[.int .i64 p]) (t := 3) (fr := (0, 0)) (heap_alloc_new w2 _)) (by simp [Value.oneCell']) (by omega) ?_ ?_ ?_ (w2.heap.size + 1) (by simp) ?_
          · unfold maxLen; omega
          · omega
          · simp; omega
          intro g cap w23 hown3 hgrow3 hat3 hlt3
          have hl1 : gb < ((w2.alloc (.cells #[.int .i64 p] 3)).drew).heap.size := by simp; omega
          have hl2 : wr.heap.size < ((w2.alloc (.cells #[.int .i64 p] 3)).drew).heap.size := by simp; omega
          have hl3 : tb 3 < ((w2.alloc (.cells #[.int .i64 p] 3)).drew).heap.size := by simp; omega
          have m1 : w23.cell? ⟨gb, 5, none⟩ = some (.slice (some ⟨tb 3, 0, none⟩) N N) := by rw [hgrow3.cell_far ⟨gb, 5, none⟩ hl1 (Ne.symm o1)]; simpa [World.cell?_alloc_past _ _ _ l1] using k1
          have m2 : w23.cell? ⟨wr.heap.size, 3, none⟩ = some (.int .i64 q) := by rw [hgrow3.cell_far ⟨wr.heap.size, 3, none⟩ hl2 (Ne.symm o2)]; simpa [World.cell?_alloc_past _ _ _ l2] using k2
          have m3 : w23.cell? ⟨wr.heap.size, 0, none⟩ = some (.int .i64 p) := by rw [hgrow3.cell_far ⟨wr.heap.size, 0, none⟩ hl2 (Ne.symm o2)]; simpa [World.cell?_alloc_past _ _ _ l2] using k3
          have m4 : w23.cell? ⟨tb 3, q, none⟩ = some (V2 3 q) := by rw [hgrow3.cell_far ⟨tb 3, q, none⟩ hl3 (Ne.symm o3)]; simpa [World.cell?_alloc_past _ _ _ l3] using k4
          have m5 : w23.frozen? ⟨tb 3, q, none⟩ = false := by rw [hgrow3.frozen_far ⟨tb 3, q, none⟩ hl3 (Ne.symm o3)]; simpa [World.frozen?_alloc_past _ _ _ l3] using f4
          have hgr : w2.grownBy w23 (V2 3 q).ownBlock := World.grownBy.trans (World.grownBy_alloc w2 (.cells #[.int .i64 p] 3) _) ⟨hgrow3.os, hgrow3.tape, hgrow3.output, hgrow3.size, hgrow3.block⟩
          have hat4 : (V2 3 q).ownBlock = (Value.slice (some ⟨g, 0, none⟩) ((R2 3 q).length + 1) cap).ownBlock ∨ ∃ g', (Value.slice (some ⟨g, 0, none⟩) ((R2 3 q).length + 1) cap).ownBlock = some g' ∧ w2.heap.size ≤ g' := by
            rcases hat3 with h3 | h3
            · exact .inl h3
            · exact .inr ⟨g, rfl, by omega⟩
          have Hpush := Sp.hid (HI2.out.push (t := 3) (i := q) (by decide) (by omega) (x := (p, 0)) hgr hown3 hat4)
          have Hab3 := Sp.hid (Nf.blk_far (Nf.blk_grown Hab2.out hgr o2) (a := ⟨tb 3, q, none⟩) (fun e => Nf.blk_ne Hab2.out (Nf.Vec.blk (HI2.out.ix.tab 3 (by decide))).choose_spec (by decide) e) (.slice (some ⟨g, 0, none⟩) ((R2 3 q).length + 1) cap))
          refine hK _ _ ⟨fun _ => ⟨m1, m2, m3, m4⟩, ?_⟩
          clear hK K HS hown3 hgrow3 hat3 hlt3 hl1 hl2 hl3 k1 k2 k3 k4 f4 hgr hat4 Hrow2
          have HS : w23.cell? ⟨gb, 5, none⟩ = some (.slice (some ⟨tb 3, 0, none⟩) N N) ∧ w23.cell? ⟨wr.heap.size, 3, none⟩ = some (.int .i64 q) ∧ w23.cell? ⟨wr.heap.size, 0, none⟩ = some (.int .i64 p) ∧ w23.cell? ⟨tb 3, q, none⟩ = some (V2 3 q) := ⟨m1, m2, m3, m4⟩
          refine Open.take (i := 18) (v := ?_) rfl (by kernel_rfl) (by kernel_rfl) (by kernel_rfl) (by kernel_rfl) (fun _ _ _ h => h) HS (Or.inl ⟨rfl, ?_⟩) ?_
          rotate_left
          · rintro w' ⟨k1, k2, k3, k4⟩
            go_simp
            try rfl
          simp only [Act.put, List.setIfInBounds_toArray, List.set_cons_zero, List.set_cons_succ]
          refine Open.one (i := 19) rfl (by kernel_rfl) rfl (fun K hK => ?_)
          go_simp
          refine hK _ _ ⟨fun e => absurd rfl e, ?_⟩
          clear hK K HS m1 m2 m3 m4 m5 o1 o2 o3 l1 l2 l3
          refine Open.end (by kernel_rfl) ?_
          obtain ⟨v2, hv2⟩ : ∃ v2, Value.slice (some ⟨g, 0, none⟩) ((R2 3 q).length + 1) cap = v2 := ⟨_, rfl⟩
          rw [hv2] at Hpush Hab3 ⊢
          obtain ⟨w3, hw3⟩ : ∃ w3, w23.setCell ⟨tb 3, q, none⟩ v2 = w3 := ⟨_, rfl⟩
          rw [hw3] at Hpush Hab3 ⊢
          obtain ⟨V3, hV3⟩ : ∃ V3, Nf.upd V2 3 q v2 = V3 := ⟨_, rfl⟩
          rw [hV3] at Hpush
          obtain ⟨R3, hR3⟩ : ∃ R3, Nf.upd R2 3 q (R2 3 q ++ [(p, 0)]) = R3 := ⟨_, rfl⟩
          rw [hR3] at Hpush
          have HI3 := Hpush
          have Hab3 := Hab3
          have HR3 := Sp.hid hR3
          have Hsz3 := Sp.hid (Nf.upd_len hR3 Hsz2.out)
          clear hv2 hw3 hV3 hR3 Hpush Hab3
          go_wp2_with fail
          go_roundw
          case rel => exact ⟨k + 1, V3, R3, by go_num, hkn, HI3.out, by rw [Htk.out]; exact Nf.relR_push2 HR.out HR2.out HR3.out (Nf.edge_empty Hz.out), fun t i => by have := Hsz3.out t i; omega⟩
          case measure => simp [intOf]; omega
        · have hzz := Sp.not_empty_of_size hz
          have hin : xi ∈ sig := hsy.resolve_left hz
          have hgb1 := HI1.out.nblk
          rw [← Hnc.out] at hgb1
          have b0 : w1.cell? ⟨w.heap.size, 0, none⟩ = some (.slice so sn scap) := Nf.blk_cell (i := 0) hgb1 rfl
          have b1 : w1.cell? ⟨wr.heap.size, 1, none⟩ = some (.string xi) := Nf.blk_cell (i := 1) Hab1.out rfl
          have HB := Sp.hid (binarySearch_any so sn scap sig xi w1 (Hpre.out.hs.below HI1.out.below) (by omega) Hpre.out.hasc)
          have Hz := Sp.hid hz
          have Hin := Sp.hid hin
          rw [← Hw1.out] at b0 b1
          clear hz hsy hin hgb1
          go_wp2_with fail
          rw [Hw1.out]
          refine HB.out.mono ?_
          rintro e w1' ⟨y, rfl, _, hy, rfl⟩
          have Hy := Sp.hid (hy Hin.out)
          clear hy hzz b0 b1
          go_wp2_with fail
          have hgb := HI1.out.gblk
          rw [← Hgc.out] at hgb
          have k1 : w1.cell? ⟨gb, 2, none⟩ = some (.slice (some ⟨tb 0, 0, none⟩) N N) := Nf.blk_cell (i := 2) hgb rfl
          have k2 : w1.cell? ⟨wr.heap.size, 0, none⟩ = some (.int .i64 p) := Nf.blk_cell (i := 0) Hab1.out rfl
          have k3 : w1.cell? ⟨wr.heap.size, 3, none⟩ = some (.int .i64 q) := Nf.blk_cell (i := 3) Hab1.out rfl
          have k4 : w1.cell? ⟨tb 0, p, none⟩ = some (V1 0 p) := (HI1.out.ix.tab 0 (by decide)).cell (by omega)
          have hrow := HI1.out.ix.row 0 p (by decide) (by omega)
          have hsz1 := Hsz1.out 0 p
          have hHH := HI1.out.below.size
          have o1 : (V1 0 p).ownBlock ≠ some gb := Nf.own_ne hrow HI1.out.gblk (by decide)
          have o2 : (V1 0 p).ownBlock ≠ some wr.heap.size := Nf.own_ne hrow Hab1.out (by decide)
          have o3 : (V1 0 p).ownBlock ≠ some (tb 0) := Nf.own_vec_ne hrow (HI1.out.ix.tab 0 (by decide)) (by decide)
          have l1 := Nf.blk_lt HI1.out.gblk
          have l2 := Nf.blk_lt Hab1.out
          have l3 := (HI1.out.ix.tab 0 (by decide)).lt
          have f4 := (HI1.out.ix.tab 0 (by decide)).free p
          have hrow2 : ((w1.alloc (.cells #[.int .i64 y, .int .i64 q] 72)).drew).ownsRow w.heap.size 72 2 (V1 0 p) (R1 0 p).length ((R1 0 p).flatMap (Nf.enc 0)) := hrow.alloc _
          have Hrow2 := Sp.hid hrow2
          clear hrow2 hrow hgb
          refine Open.begin (S := fun w' => w'.cell? ⟨gb, 2, none⟩ = some (.slice (some ⟨tb 0, 0, none⟩) N N) ∧ w'.cell? ⟨wr.heap.size, 0, none⟩ = some (.int .i64 p) ∧ w'.cell? ⟨wr.heap.size, 3, none⟩ = some (.int .i64 q) ∧ w'.cell? ⟨tb 0, p, none⟩ = some (V1 0 p)) (z := 21) (by kernel_rfl) ?_
          have HS : w1.drew.cell? ⟨gb, 2, none⟩ = some (.slice (some ⟨tb 0, 0, none⟩) N N) ∧ w1.drew.cell? ⟨wr.heap.size, 0, none⟩ = some (.int .i64 p) ∧ w1.drew.cell? ⟨wr.heap.size, 3, none⟩ = some (.int .i64 q) ∧ w1.drew.cell? ⟨tb 0, p, none⟩ = some (V1 0 p) := ⟨k1, k2, k3, k4⟩
          refine Open.take (i := 0) (v := ?_) rfl (by kernel_rfl) (by kernel_rfl) (by kernel_rfl) (by kernel_rfl) (fun _ _ _ h => h) HS (Or.inl ⟨rfl, ?_⟩) ?_
          rotate_left
          · rintro w' ⟨k1, k2, k3, k4⟩
            go_simp
            try rfl
          simp only [Act.put, List.setIfInBounds_toArray, List.set_cons_zero, List.set_cons_succ]
          refine Open.take (i := 1) (v := ?_) rfl (by kernel_rfl) (by kernel_rfl) (by kernel_rfl) (by kernel_rfl) (fun _ _ _ h => h) HS (Or.inl ⟨rfl, ?_⟩) ?_
          rotate_left
          · rintro w' ⟨k1, k2, k3, k4⟩
            go_simp
            try rfl
          simp only [Act.put, List.setIfInBounds_toArray, List.set_cons_zero, List.set_cons_succ]
          refine Open.take (i := 2) (v := ?_) rfl (by kernel_rfl) (by kernel_rfl) (by kernel_rfl) (by kernel_rfl) (fun _ _ _ h => h) HS (Or.inl ⟨rfl, ?_⟩) ?_
          rotate_left
          · rintro w' ⟨k1, k2, k3, k4⟩
            go_simp
            try rfl
          simp only [Act.put, List.setIfInBounds_toArray, List.set_cons_zero, List.set_cons_succ]
          refine Open.take (i := 3) (v := ?_) rfl (by kernel_rfl) (by kernel_rfl) (by kernel_rfl) (by kernel_rfl) (fun _ _ _ h => h) HS (Or.inl ⟨rfl, ?_⟩) ?_
          rotate_left
          · rintro w' ⟨k1, k2, k3, k4⟩
            go_simp
            try rfl
          simp only [Act.put, List.setIfInBounds_toArray, List.set_cons_zero, List.set_cons_succ]
          refine Open.take (i := 4) (v := ?_) rfl (by kernel_rfl) (by kernel_rfl) (by kernel_rfl) (by kernel_rfl) (fun _ _ _ h => h) HS (Or.inl ⟨rfl, ?_⟩) ?_
          rotate_left
          · rintro w' ⟨k1, k2, k3, k4⟩
            go_simp
            try rfl
          simp only [Act.put, List.setIfInBounds_toArray, List.set_cons_zero, List.set_cons_succ]
          refine Open.take (i := 5) (v := ?_) rfl (by kernel_rfl) (by kernel_rfl) (by kernel_rfl) (by kernel_rfl) (fun _ _ _ h => h) HS (Or.inl ⟨rfl, ?_⟩) ?_
          rotate_left
          · rintro w' ⟨k1, k2, k3, k4⟩
            go_simp
            try rfl
          simp only [Act.put, List.setIfInBounds_toArray, List.set_cons_zero, List.set_cons_succ]
          refine Open.take (i := 6) (v := ?_) rfl (by kernel_rfl) (by kernel_rfl) (by kernel_rfl) (by kernel_rfl) (fun _ _ _ h => h) HS (Or.inl ⟨rfl, ?_⟩) ?_
          rotate_left
          · rintro w' ⟨k1, k2, k3, k4⟩
            go_simp
            try rfl
          simp only [Act.put, List.setIfInBounds_toArray, List.set_cons_zero, List.set_cons_succ]
          refine Open.take (i := 7) (v := ?_) rfl (by kernel_rfl) (by kernel_rfl) (by kernel_rfl) (by kernel_rfl) (fun _ _ _ h => h) HS (Or.inl ⟨rfl, ?_⟩) ?_
          rotate_left
          · rintro w' ⟨k1, k2, k3, k4⟩
            go_simp
            try rfl
          simp only [Act.put, List.setIfInBounds_toArray, List.set_cons_zero, List.set_cons_succ]
          refine Open.take (i := 8) (v := ?_) rfl (by kernel_rfl) (by kernel_rfl) (by kernel_rfl) (by kernel_rfl) (fun _ _ _ h => h) HS (Or.inl ⟨rfl, ?_⟩) ?_
          rotate_left
          · rintro w' ⟨k1, k2, k3, k4⟩
            go_simp
            try rfl
          simp only [Act.put, List.setIfInBounds_toArray, List.set_cons_zero, List.set_cons_succ]
          refine Open.take (i := 9) (v := ?_) rfl (by kernel_rfl) (by kernel_rfl) (by kernel_rfl) (by kernel_rfl) (fun _ _ _ h => h) HS (Or.inl ⟨rfl, ?_⟩) ?_
          rotate_left
          · rintro w' ⟨k1, k2, k3, k4⟩
            go_simp
            try rfl
          simp only [Act.put, List.setIfInBounds_toArray, List.set_cons_zero, List.set_cons_succ]
          refine Open.take (i := 10) (v := ?_) rfl (by kernel_rfl) (by kernel_rfl) (by kernel_rfl) (by kernel_rfl) (fun _ _ _ h => h) HS (Or.inl ⟨rfl, ?_⟩) ?_
          rotate_left
          · rintro w' ⟨k1, k2, k3, k4⟩
            go_simp
            try rfl
          simp only [Act.put, List.setIfInBounds_toArray, List.set_cons_zero, List.set_cons_succ]
          refine Open.take (i := 11) (v := ?_) rfl (by kernel_rfl) (by kernel_rfl) (by kernel_rfl) (by kernel_rfl) (fun _ _ _ h => h) HS (Or.inl ⟨rfl, ?_⟩) ?_
          rotate_left
          · rintro w' ⟨k1, k2, k3, k4⟩
            go_simp
            try rfl
          simp only [Act.put, List.setIfInBounds_toArray, List.set_cons_zero, List.set_cons_succ]
          refine Open.take (i := 12) (v := ?_) rfl (by kernel_rfl) (by kernel_rfl) (by kernel_rfl) (by kernel_rfl) (fun _ _ _ h => h) HS (Or.inl ⟨rfl, ?_⟩) ?_
          rotate_left
          · rintro w' ⟨k1, k2, k3, k4⟩
            go_simp
            try rfl
          simp only [Act.put, List.setIfInBounds_toArray, List.set_cons_zero, List.set_cons_succ]
          refine Open.take (i := 13) (v := ?_) rfl (by kernel_rfl) (by kernel_rfl) (by kernel_rfl) (by kernel_rfl) (fun _ _ _ h => h) HS (Or.inl ⟨rfl, ?_⟩) ?_
          rotate_left
          · rintro w' ⟨k1, k2, k3, k4⟩
            go_simp
            try rfl
          simp only [Act.put, List.setIfInBounds_toArray, List.set_cons_zero, List.set_cons_succ]
          refine Open.take (i := 14) (v := ?_) rfl (by kernel_rfl) (by kernel_rfl) (by kernel_rfl) (by kernel_rfl) (fun _ _ _ h => h) HS (Or.inl ⟨rfl, ?_⟩) ?_
          rotate_left
          · rintro w' ⟨k1, k2, k3, k4⟩
            go_simp
            try rfl
          simp only [Act.put, List.setIfInBounds_toArray, List.set_cons_zero, List.set_cons_succ]
          refine Open.take (i := 15) (v := ?_) rfl (by kernel_rfl) (by kernel_rfl) (by kernel_rfl) (by kernel_rfl) (fun _ _ _ h => h) HS (Or.inl ⟨rfl, ?_⟩) ?_
          rotate_left
          · rintro w' ⟨k1, k2, k3, k4⟩
            go_simp
            try rfl
          simp only [Act.put, List.setIfInBounds_toArray, List.set_cons_zero, List.set_cons_succ]
          refine Open.take (i := 16) (v := ?_) rfl (by kernel_rfl) (by kernel_rfl) (by kernel_rfl) (by kernel_rfl) (fun _ _ _ h => h) HS (Or.inl ⟨rfl, ?_⟩) ?_
          rotate_left
          · rintro w' ⟨k1, k2, k3, k4⟩
            go_simp
            try rfl
          simp only [Act.put, List.setIfInBounds_toArray, List.set_cons_zero, List.set_cons_succ]
          refine Open.take (i := 17) (v := ?_) rfl (by kernel_rfl) (by kernel_rfl) (by kernel_rfl) (by kernel_rfl) (fun _ _ _ h => h) HS (Or.inl ⟨rfl, ?_⟩) ?_
          rotate_left
          · rintro w' ⟨k1, k2, k3, k4⟩
            go_simp
            try rfl
          simp only [Act.put, List.setIfInBounds_toArray, List.set_cons_zero, List.set_cons_succ]
          refine Open.one (i := 18) rfl (by kernel_rfl) rfl (fun K hK => ?_)
          go_simp
          refine hK _ _ ⟨fun _ => ⟨?_, ?_, ?_, ?_⟩, ?_⟩
          · simpa [World.cell?_alloc_past _ _ _ l1] using k1
          · simpa [World.cell?_alloc_past _ _ _ l2] using k2
          · simpa [World.cell?_alloc_past _ _ _ l2] using k3
          · simpa [World.cell?_alloc_past _ _ _ l3] using k4
          clear hK K
          refine Open.one (i := 19) rfl (by kernel_rfl) rfl (fun K hK => ?_)
          refine wp_append_lies _ _ _ 70 (by rfl) w.heap.size 72 j0 _ 2 16 Try.underlying70 hj hjz0 hjz1 hjz2 rfl (by decide) (V1 0 p) _ _ (by rfl) Hrow2.out ⟨w1.heap.size, 0, none⟩ 1 1 [.int .i64 y, .int .i64 q] (by rfl) rfl (World.news_of_block (cs := #[.int .i64 y, .int .i64 q]) (t := 72) (fr := (0, 0)) (heap_alloc_new w1 _)) (by simp [Value.oneCell']) (by omega) ?_ ?_ ?_ (w1.heap.size + 1) (by simp) ?_
          · unfold maxLen; omega
          · omega
          · simp; omega
          intro g cap w13 hown3 hgrow3 hat3 hlt3
          have hl1 : gb < ((w1.alloc (.cells #[.int .i64 y, .int .i64 q] 72)).drew).heap.size := by simp; omega
          have hl2 : wr.heap.size < ((w1.alloc (.cells #[.int .i64 y, .int .i64 q] 72)).drew).heap.size := by simp; omega
          have hl3 : tb 0 < ((w1.alloc (.cells #[.int .i64 y, .int .i64 q] 72)).drew).heap.size := by simp; omega
          have m1 : w13.cell? ⟨gb, 2, none⟩ = some (.slice (some ⟨tb 0, 0, none⟩) N N) := by rw [hgrow3.cell_far ⟨gb, 2, none⟩ hl1 (Ne.symm o1)]; simpa [World.cell?_alloc_past _ _ _ l1] using k1
          have m2 : w13.cell? ⟨wr.heap.size, 0, none⟩ = some (.int .i64 p) := by rw [hgrow3.cell_far ⟨wr.heap.size, 0, none⟩ hl2 (Ne.symm o2)]; simpa [World.cell?_alloc_past _ _ _ l2] using k2
          have m3 : w13.cell? ⟨wr.heap.size, 3, none⟩ = some (.int .i64 q) := by rw [hgrow3.cell_far ⟨wr.heap.size, 3, none⟩ hl2 (Ne.symm o2)]; simpa [World.cell?_alloc_past _ _ _ l2] using k3
          have m4 : w13.cell? ⟨tb 0, p, none⟩ = some (V1 0 p) := by rw [hgrow3.cell_far ⟨tb 0, p, none⟩ hl3 (Ne.symm o3)]; simpa [World.cell?_alloc_past _ _ _ l3] using k4
          have m5 : w13.frozen? ⟨tb 0, p, none⟩ = false := by rw [hgrow3.frozen_far ⟨tb 0, p, none⟩ hl3 (Ne.symm o3)]; simpa [World.frozen?_alloc_past _ _ _ l3] using f4
          have hgr : w1.grownBy w13 (V1 0 p).ownBlock := World.grownBy.trans (World.grownBy_alloc w1 (.cells #[.int .i64 y, .int .i64 q] 72) _) ⟨hgrow3.os, hgrow3.tape, hgrow3.output, hgrow3.size, hgrow3.block⟩
          have hat4 : (V1 0 p).ownBlock = (Value.slice (some ⟨g, 0, none⟩) ((R1 0 p).length + 1) cap).ownBlock ∨ ∃ g', (Value.slice (some ⟨g, 0, none⟩) ((R1 0 p).length + 1) cap).ownBlock = some g' ∧ w1.heap.size ≤ g' := by
            rcases hat3 with h3 | h3
            · exact .inl h3
            · exact .inr ⟨g, rfl, by omega⟩
          have Hpush := Sp.hid (HI1.out.push (t := 0) (i := p) (by decide) (by omega) (x := (y, q)) hgr hown3 hat4)
          have Hab3 := Sp.hid (Nf.blk_far (Nf.blk_grown Hab1.out hgr o2) (a := ⟨tb 0, p, none⟩) (fun e => Nf.blk_ne Hab1.out (Nf.Vec.blk (HI1.out.ix.tab 0 (by decide))).choose_spec (by decide) e) (.slice (some ⟨g, 0, none⟩) ((R1 0 p).length + 1) cap))
          refine hK _ _ ⟨fun _ => ⟨m1, m2, m3, m4⟩, ?_⟩
          clear hK K HS hown3 hgrow3 hat3 hlt3 hl1 hl2 hl3 k1 k2 k3 k4 f4 hgr hat4 Hrow2
          have HS : w13.cell? ⟨gb, 2, none⟩ = some (.slice (some ⟨tb 0, 0, none⟩) N N) ∧ w13.cell? ⟨wr.heap.size, 0, none⟩ = some (.int .i64 p) ∧ w13.cell? ⟨wr.heap.size, 3, none⟩ = some (.int .i64 q) ∧ w13.cell? ⟨tb 0, p, none⟩ = some (V1 0 p) := ⟨m1, m2, m3, m4⟩
          refine Open.take (i := 20) (v := ?_) rfl (by kernel_rfl) (by kernel_rfl) (by kernel_rfl) (by kernel_rfl) (fun _ _ _ h => h) HS (Or.inl ⟨rfl, ?_⟩) ?_
          rotate_left
          · rintro w' ⟨k1, k2, k3, k4⟩
            go_simp
            try rfl
          simp only [Act.put, List.setIfInBounds_toArray, List.set_cons_zero, List.set_cons_succ]
          refine Open.one (i := 21) rfl (by kernel_rfl) rfl (fun K hK => ?_)
          go_simp
          refine hK _ _ ⟨fun e => absurd rfl e, ?_⟩
          clear hK K HS m1 m2 m3 m4 m5 o1 o2 o3 l1 l2 l3
          refine Open.end (by kernel_rfl) ?_
          obtain ⟨v1, hv1⟩ : ∃ v1, Value.slice (some ⟨g, 0, none⟩) ((R1 0 p).length + 1) cap = v1 := ⟨_, rfl⟩
          rw [hv1] at Hpush Hab3 ⊢
          obtain ⟨w2, hw2⟩ : ∃ w2, w13.setCell ⟨tb 0, p, none⟩ v1 = w2 := ⟨_, rfl⟩
          rw [hw2] at Hpush Hab3 ⊢
          obtain ⟨V2, hV2⟩ : ∃ V2, Nf.upd V1 0 p v1 = V2 := ⟨_, rfl⟩
          rw [hV2] at Hpush
          obtain ⟨R2, hR2⟩ : ∃ R2, Nf.upd R1 0 p (R1 0 p ++ [(y, q)]) = R2 := ⟨_, rfl⟩
          rw [hR2] at Hpush
          have HI2 := Hpush
          have Hab2 := Hab3
          have HR2 := Sp.hid hR2
          have Hsz2 := Sp.hid (Nf.upd_len hR2 Hsz1.out)
          clear hv1 hw2 hV2 hR2 Hpush Hab3
          go_wp2_with fail
          have hgb := HI2.out.gblk
          rw [← Hgc.out] at hgb
          have k1 : w2.cell? ⟨gb, 4, none⟩ = some (.slice (some ⟨tb 2, 0, none⟩) N N) := Nf.blk_cell (i := 4) hgb rfl
          have k2 : w2.cell? ⟨wr.heap.size, 3, none⟩ = some (.int .i64 q) := Nf.blk_cell (i := 3) Hab2.out rfl
          have k3 : w2.cell? ⟨wr.heap.size, 0, none⟩ = some (.int .i64 p) := Nf.blk_cell (i := 0) Hab2.out rfl
          have k4 : w2.cell? ⟨tb 2, q, none⟩ = some (V2 2 q) := (HI2.out.ix.tab 2 (by decide)).cell (by omega)
          have hrow := HI2.out.ix.row 2 q (by decide) (by omega)
          have hsz1 := Hsz2.out 2 q
          have hHH := HI2.out.below.size
          have o1 : (V2 2 q).ownBlock ≠ some gb := Nf.own_ne hrow HI2.out.gblk (by decide)
          have o2 : (V2 2 q).ownBlock ≠ some wr.heap.size := Nf.own_ne hrow Hab2.out (by decide)
          have o3 : (V2 2 q).ownBlock ≠ some (tb 2) := Nf.own_vec_ne hrow (HI2.out.ix.tab 2 (by decide)) (by decide)
          have l1 := Nf.blk_lt HI2.out.gblk
          have l2 := Nf.blk_lt Hab2.out
          have l3 := (HI2.out.ix.tab 2 (by decide)).lt
          have f4 := (HI2.out.ix.tab 2 (by decide)).free q
          have hrow2 : ((w2.alloc (.cells #[.int .i64 p] 3)).drew).ownsRow w.heap.size 3 1 (V2 2 q) (R2 2 q).length ((R2 2 q).flatMap (Nf.enc 2)) := hrow.alloc _
          have Hrow2 := Sp.hid hrow2
          clear hrow2 hrow hgb
          refine Open.begin (S := fun w' => w'.cell? ⟨gb, 4, none⟩ = some (.slice (some ⟨tb 2, 0, none⟩) N N) ∧ w'.cell? ⟨wr.heap.size, 3, none⟩ = some (.int .i64 q) ∧ w'.cell? ⟨wr.heap.size, 0, none⟩ = some (.int .i64 p) ∧ w'.cell? ⟨tb 2, q, none⟩ = some (V2 2 q)) (z := 19) (by kernel_rfl) ?_
          have HS : w2.drew.cell? ⟨gb, 4, none⟩ = some (.slice (some ⟨tb 2, 0, none⟩) N N) ∧ w2.drew.cell? ⟨wr.heap.size, 3, none⟩ = some (.int .i64 q) ∧ w2.drew.cell? ⟨wr.heap.size, 0, none⟩ = some (.int .i64 p) ∧ w2.drew.cell? ⟨tb 2, q, none⟩ = some (V2 2 q) := ⟨k1, k2, k3, k4⟩
          refine Open.take (i := 0) (v := ?_) rfl (by kernel_rfl) (by kernel_rfl) (by kernel_rfl) (by kernel_rfl) (fun _ _ _ h => h) HS (Or.inl ⟨rfl, ?_⟩) ?_
          rotate_left
          · rintro w' ⟨k1, k2, k3, k4⟩
            go_simp
            try rfl
          simp only [Act.put, List.setIfInBounds_toArray, List.set_cons_zero, List.set_cons_succ]
          refine Open.take (i := 1) (v := ?_) rfl (by kernel_rfl) (by kernel_rfl) (by kernel_rfl) (by kernel_rfl) (fun _ _ _ h => h) HS (Or.inl ⟨rfl, ?_⟩) ?_
          rotate_left
          · rintro w' ⟨k1, k2, k3, k4⟩
            go_simp
            try rfl
          simp only [Act.put, List.setIfInBounds_toArray, List.set_cons_zero, List.set_cons_succ]
          refine Open.take (i := 2) (v := ?_) rfl (by kernel_rfl) (by kernel_rfl) (by kernel_rfl) (by kernel_rfl) (fun _ _ _ h => h) HS (Or.inl ⟨rfl, ?_⟩) ?_
          rotate_left
          · rintro w' ⟨k1, k2, k3, k4⟩
            go_simp
            try rfl
          simp only [Act.put, List.setIfInBounds_toArray, List.set_cons_zero, List.set_cons_succ]
          refine Open.take (i := 3) (v := ?_) rfl (by kernel_rfl) (by kernel_rfl) (by kernel_rfl) (by kernel_rfl) (fun _ _ _ h => h) HS (Or.inl ⟨rfl, ?_⟩) ?_
          rotate_left
          · rintro w' ⟨k1, k2, k3, k4⟩
            go_simp
            try rfl
          simp only [Act.put, List.setIfInBounds_toArray, List.set_cons_zero, List.set_cons_succ]
          refine Open.take (i := 4) (v := ?_) rfl (by kernel_rfl) (by kernel_rfl) (by kernel_rfl) (by kernel_rfl) (fun _ _ _ h => h) HS (Or.inl ⟨rfl, ?_⟩) ?_
          rotate_left
          · rintro w' ⟨k1, k2, k3, k4⟩
            go_simp
            try rfl
          simp only [Act.put, List.setIfInBounds_toArray, List.set_cons_zero, List.set_cons_succ]
          refine Open.take (i := 5) (v := ?_) rfl (by kernel_rfl) (by kernel_rfl) (by kernel_rfl) (by kernel_rfl) (fun _ _ _ h => h) HS (Or.inl ⟨rfl, ?_⟩) ?_
          rotate_left
          · rintro w' ⟨k1, k2, k3, k4⟩
            go_simp
            try rfl
          simp only [Act.put, List.setIfInBounds_toArray, List.set_cons_zero, List.set_cons_succ]
          refine Open.take (i := 6) (v := ?_) rfl (by kernel_rfl) (by kernel_rfl) (by kernel_rfl) (by kernel_rfl) (fun _ _ _ h => h) HS (Or.inl ⟨rfl, ?_⟩) ?_
          rotate_left
          · rintro w' ⟨k1, k2, k3, k4⟩
            go_simp
            try rfl
          simp only [Act.put, List.setIfInBounds_toArray, List.set_cons_zero, List.set_cons_succ]
          refine Open.take (i := 7) (v := ?_) rfl (by kernel_rfl) (by kernel_rfl) (by kernel_rfl) (by kernel_rfl) (fun _ _ _ h => h) HS (Or.inl ⟨rfl, ?_⟩) ?_
          rotate_left
          · rintro w' ⟨k1, k2, k3, k4⟩
            go_simp
            try rfl
          simp only [Act.put, List.setIfInBounds_toArray, List.set_cons_zero, List.set_cons_succ]
          refine Open.take (i := 8) (v := ?_) rfl (by kernel_rfl) (by kernel_rfl) (by kernel_rfl) (by kernel_rfl) (fun _ _ _ h => h) HS (Or.inl ⟨rfl, ?_⟩) ?_
          rotate_left
          · rintro w' ⟨k1, k2, k3, k4⟩
            go_simp
            try rfl
          simp only [Act.put, List.setIfInBounds_toArray, List.set_cons_zero, List.set_cons_succ]
          refine Open.take (i := 9) (v := ?_) rfl (by kernel_rfl) (by kernel_rfl) (by kernel_rfl) (by kernel_rfl) (fun _ _ _ h => h) HS (Or.inl ⟨rfl, ?_⟩) ?_
          rotate_left
          · rintro w' ⟨k1, k2, k3, k4⟩
            go_simp
            try rfl
          simp only [Act.put, List.setIfInBounds_toArray, List.set_cons_zero, List.set_cons_succ]
          refine Open.take (i := 10) (v := ?_) rfl (by kernel_rfl) (by kernel_rfl) (by kernel_rfl) (by kernel_rfl) (fun _ _ _ h => h) HS (Or.inl ⟨rfl, ?_⟩) ?_
          rotate_left
          · rintro w' ⟨k1, k2, k3, k4⟩
            go_simp
            try rfl
          simp only [Act.put, List.setIfInBounds_toArray, List.set_cons_zero, List.set_cons_succ]
          refine Open.take (i := 11) (v := ?_) rfl (by kernel_rfl) (by kernel_rfl) (by kernel_rfl) (by kernel_rfl) (fun _ _ _ h => h) HS (Or.inl ⟨rfl, ?_⟩) ?_
          rotate_left
          · rintro w' ⟨k1, k2, k3, k4⟩
            go_simp
            try rfl
          simp only [Act.put, List.setIfInBounds_toArray, List.set_cons_zero, List.set_cons_succ]
          refine Open.take (i := 12) (v := ?_) rfl (by kernel_rfl) (by kernel_rfl) (by kernel_rfl) (by kernel_rfl) (fun _ _ _ h => h) HS (Or.inl ⟨rfl, ?_⟩) ?_
          rotate_left
          · rintro w' ⟨k1, k2, k3, k4⟩
            go_simp
            try rfl
          simp only [Act.put, List.setIfInBounds_toArray, List.set_cons_zero, List.set_cons_succ]
          refine Open.take (i := 13) (v := ?_) rfl (by kernel_rfl) (by kernel_rfl) (by kernel_rfl) (by kernel_rfl) (fun _ _ _ h => h) HS (Or.inl ⟨rfl, ?_⟩) ?_
          rotate_left
          · rintro w' ⟨k1, k2, k3, k4⟩
            go_simp
            try rfl
          simp only [Act.put, List.setIfInBounds_toArray, List.set_cons_zero, List.set_cons_succ]
          refine Open.take (i := 14) (v := ?_) rfl (by kernel_rfl) (by kernel_rfl) (by kernel_rfl) (by kernel_rfl) (fun _ _ _ h => h) HS (Or.inl ⟨rfl, ?_⟩) ?_
          rotate_left
          · rintro w' ⟨k1, k2, k3, k4⟩
            go_simp
            try rfl
          simp only [Act.put, List.setIfInBounds_toArray, List.set_cons_zero, List.set_cons_succ]
          refine Open.take (i := 15) (v := ?_) rfl (by kernel_rfl) (by kernel_rfl) (by kernel_rfl) (by kernel_rfl) (fun _ _ _ h => h) HS (Or.inl ⟨rfl, ?_⟩) ?_
          rotate_left
          · rintro w' ⟨k1, k2, k3, k4⟩
            go_simp
            try rfl
          simp only [Act.put, List.setIfInBounds_toArray, List.set_cons_zero, List.set_cons_succ]
          refine Open.one (i := 16) rfl (by kernel_rfl) rfl (fun K hK => ?_)
          go_simp
          refine hK _ _ ⟨fun _ => ⟨?_, ?_, ?_, ?_⟩, ?_⟩
          · simpa [World.cell?_alloc_past _ _ _ l1] using k1
          · simpa [World.cell?_alloc_past _ _ _ l2] using k2
          · simpa [World.cell?_alloc_past _ _ _ l2] using k3
          · simpa [World.cell?_alloc_past _ _ _ l3] using k4
          clear hK K
          refine Open.one (i := 17) rfl (by kernel_rfl) rfl (fun K hK => ?_)
          refine wp_append_lies _ _ _ 67 (by rfl) w.heap.size 3 i0 _ 1 8 Try.underlying67 hi hiz0 hiz1 hiz2 rfl (by decide) (V2 2 q) _ _ (by rfl) Hrow2.out ⟨w2.heap.size, 0, none⟩ 1 1 [.int .i64 p] (by rfl) rfl (World.news_of_block (cs := #[.int .i64 p]) (t := 3) (fr := (0, 0)) (heap_alloc_new w2 _)) (by simp [Value.oneCell']) (by omega) ?_ ?_ ?_ (w2.heap.size + 1) (by simp) ?_
          · unfold maxLen; omega
          · omega
          · simp; omega
          intro g cap w23 hown3 hgrow3 hat3 hlt3
          have hl1 : gb < ((w2.alloc (.cells #[.int .i64 p] 3)).drew).heap.size := by simp; omega
          have hl2 : wr.heap.size < ((w2.alloc (.cells #[.int .i64 p] 3)).drew).heap.size := by simp; omega
          have hl3 : tb 2 < ((w2.alloc (.cells #[.int .i64 p] 3)).drew).heap.size := by simp; omega
          have m1 : w23.cell? ⟨gb, 4, none⟩ = some (.slice (some ⟨tb 2, 0, none⟩) N N) := by rw [hgrow3.cell_far ⟨gb, 4, none⟩ hl1 (Ne.symm o1)]; simpa [World.cell?_alloc_past _ _ _ l1] using k1
          have m2 : w23.cell? ⟨wr.heap.size, 3, none⟩ = some (.int .i64 q) := by rw [hgrow3.cell_far ⟨wr.heap.size, 3, none⟩ hl2 (Ne.symm o2)]; simpa [World.cell?_alloc_past _ _ _ l2] using k2
          have m3 : w23.cell? ⟨wr.heap.size, 0, none⟩ = some (.int .i64 p) := by rw [hgrow3.cell_far ⟨wr.heap.size, 0, none⟩ hl2 (Ne.symm o2)]; simpa [World.cell?_alloc_past _ _ _ l2] using k3
          have m4 : w23.cell? ⟨tb 2, q, none⟩ = some (V2 2 q) := by rw [hgrow3.cell_far ⟨tb 2, q, none⟩ hl3 (Ne.symm o3)]; simpa [World.cell?_alloc_past _ _ _ l3] using k4
          have m5 : w23.frozen? ⟨tb 2, q, none⟩ = false := by rw [hgrow3.frozen_far ⟨tb 2, q, none⟩ hl3 (Ne.symm o3)]; simpa [World.frozen?_alloc_past _ _ _ l3] using f4
          have hgr : w2.grownBy w23 (V2 2 q).ownBlock := World.grownBy.trans (World.grownBy_alloc w2 (.cells #[.int .i64 p] 3) _) ⟨hgrow3.os, hgrow3.tape, hgrow3.output, hgrow3.size, hgrow3.block⟩
          have hat4 : (V2 2 q).ownBlock = (Value.slice (some ⟨g, 0, none⟩) ((R2 2 q).length + 1) cap).ownBlock ∨ ∃ g', (Value.slice (some ⟨g, 0, none⟩) ((R2 2 q).length + 1) cap).ownBlock = some g' ∧ w2.heap.size ≤ g' := by
            rcases hat3 with h3 | h3
            · exact .inl h3
            · exact .inr ⟨g, rfl, by omega⟩
          have Hpush := Sp.hid (HI2.out.push (t := 2) (i := q) (by decide) (by omega) (x := (p, 0)) hgr hown3 hat4)
          have Hab3 := Sp.hid (Nf.blk_far (Nf.blk_grown Hab2.out hgr o2) (a := ⟨tb 2, q, none⟩) (fun e => Nf.blk_ne Hab2.out (Nf.Vec.blk (HI2.out.ix.tab 2 (by decide))).choose_spec (by decide) e) (.slice (some ⟨g, 0, none⟩) ((R2 2 q).length + 1) cap))
          refine hK _ _ ⟨fun _ => ⟨m1, m2, m3, m4⟩, ?_⟩
          clear hK K HS hown3 hgrow3 hat3 hlt3 hl1 hl2 hl3 k1 k2 k3 k4 f4 hgr hat4 Hrow2
          have HS : w23.cell? ⟨gb, 4, none⟩ = some (.slice (some ⟨tb 2, 0, none⟩) N N) ∧ w23.cell? ⟨wr.heap.size, 3, none⟩ = some (.int .i64 q) ∧ w23.cell? ⟨wr.heap.size, 0, none⟩ = some (.int .i64 p) ∧ w23.cell? ⟨tb 2, q, none⟩ = some (V2 2 q) := ⟨m1, m2, m3, m4⟩
          refine Open.take (i := 18) (v := ?_) rfl (by kernel_rfl) (by kernel_rfl) (by kernel_rfl) (by kernel_rfl) (fun _ _ _ h => h) HS (Or.inl ⟨rfl, ?_⟩) ?_
          rotate_left
          · rintro w' ⟨k1, k2, k3, k4⟩
            go_simp
            try rfl
          simp only [Act.put, List.setIfInBounds_toArray, List.set_cons_zero, List.set_cons_succ]
          refine Open.one (i := 19) rfl (by kernel_rfl) rfl (fun K hK => ?_)
          go_simp
          refine hK _ _ ⟨fun e => absurd rfl e, ?_⟩
          clear hK K HS m1 m2 m3 m4 m5 o1 o2 o3 l1 l2 l3
          refine Open.end (by kernel_rfl) ?_
          obtain ⟨v2, hv2⟩ : ∃ v2, Value.slice (some ⟨g, 0, none⟩) ((R2 2 q).length + 1) cap = v2 := ⟨_, rfl⟩
          rw [hv2] at Hpush Hab3 ⊢
          obtain ⟨w3, hw3⟩ : ∃ w3, w23.setCell ⟨tb 2, q, none⟩ v2 = w3 := ⟨_, rfl⟩
          rw [hw3] at Hpush Hab3 ⊢
          obtain ⟨V3, hV3⟩ : ∃ V3, Nf.upd V2 2 q v2 = V3 := ⟨_, rfl⟩
          rw [hV3] at Hpush
          obtain ⟨R3, hR3⟩ : ∃ R3, Nf.upd R2 2 q (R2 2 q ++ [(p, 0)]) = R3 := ⟨_, rfl⟩
          rw [hR3] at Hpush
          have HI3 := Hpush
          have Hab3 := Hab3
          have HR3 := Sp.hid hR3
          have Hsz3 := Sp.hid (Nf.upd_len hR3 Hsz2.out)
          clear hv2 hw3 hV3 hR3 Hpush Hab3
          go_wp2_with fail
          go_roundw
          case rel => exact ⟨k + 1, V3, R3, by go_num, hkn, HI3.out, by rw [Htk.out]; exact Nf.relR_push2 HR.out HR2.out HR3.out (Nf.edge_sym Hz.out Hy.out Hpre.out.hasc), fun t i => by have := Hsz3.out t i; omega⟩
          case measure => simp [intOf]; omega
      · have hkk : k = an := by omega
        have HRA := Sp.hid (show Nf.RelR sig arcs R1 by have h := HR.out; rwa [List.take_of_length_le (by rw [Hlen.out]; omega)] at h)
        have hnb := HI.out.nblk
        rw [← Hnc.out] at hnb
        have d3 : wr.cell? ⟨w.heap.size, 3, none⟩ = some (.slice eo en ecap) := Nf.blk_cell (i := 3) hnb rfl
        obtain ⟨wo, rfl⟩ : ∃ wo : World, wo = wr := ⟨_, rfl⟩
        clear hkk hnb HR
        go_wp2_with fail
        go_loopw [9, 129] (fun _ i wr => ∃ (j : Nat) (F : Nat → Bool), i = .int .i64 j ∧ j ≤ en ∧ Nf.IndAt w wr gb w.heap.size eb N gc nc tb F V1 R1 ∧ ∀ q : Nat, F q = true ↔ ∃ d, d ∈ ends.take j ∧ d.s = (q : Int)) (fun _ i _ => en - (intOf i).toNat)
        case atStart => exact ⟨0, _, rfl, Nat.zero_le _, HI.out, fun q => by simp⟩
        case round =>
          obtain ⟨j, F, rfl, hjn, hI2, hF⟩ := hrel
          have HI2 := Sp.hid hI2
          have HF := Sp.hid hF
          have Hbel2 := Sp.hid hI2.below
          clear hI2 hF
          by_cases hje : j < en
          · obtain ⟨b, off, x, rfl, ⟨c0, c1⟩, hx, htk⟩ := (He.out.below Hbel2.out).at hje
            have hxm := List.mem_of_getElem? hx
            have Htk := Sp.hid htk
            obtain ⟨hf0, hf1⟩ := Hpre.out.hd x hxm
            obtain ⟨xs, xc⟩ := x
            simp only at c0 c1 hf0 hf1
            obtain ⟨q, rfl⟩ := Int.eq_ofNat_of_zero_le hf0
            have hHI : Nf.IndAt w (wr.alloc (.cells #[.int .i64 q, .int .i64 xc] 45)) gb w.heap.size eb N gc nc tb F V1 R1 := HI2.out.alloc _
            obtain ⟨w1, hw1⟩ : ∃ w1, wr.alloc (.cells #[.int .i64 q, .int .i64 xc] 45) = w1 := ⟨_, rfl⟩
            have hab : w1.heap[wr.heap.size]? = some (.cells #[.int .i64 q, .int .i64 xc] 45 (0, 0)) := by rw [← hw1]; exact Nf.Below.heap_new _ _
            rw [hw1] at hHI
            have hgb := hHI.gblk
            rw [← Hgc.out] at hgb
            have k1 : w1.cell? ⟨gb, 1, none⟩ = some (.slice (some ⟨eb, 0, none⟩) N N) := Nf.blk_cell (i := 1) hgb rfl
            have k2 : w1.cell? ⟨wr.heap.size, 0, none⟩ = some (.int .i64 q) := Nf.blk_cell (i := 0) hab rfl
            have k3 := hHI.eblk.cell (i := q) (by omega)
            have f3 := hHI.eblk.free q
            have HM := Sp.hid (hHI.mark q)
            have Hw1 := Sp.hid hw1
            clear hx htk hxm hHI hab hw1 hgb
            go_wp2_with fail
            rw [Hw1.out]
            refine Open.begin (S := fun w' => w'.cell? ⟨gb, 1, none⟩ = some (.slice (some ⟨eb, 0, none⟩) N N) ∧ w'.cell? ⟨wr.heap.size, 0, none⟩ = some (.int .i64 q)) (z := 7) (by kernel_rfl) ?_
            have HS : w1.drew.cell? ⟨gb, 1, none⟩ = some (.slice (some ⟨eb, 0, none⟩) N N) ∧ w1.drew.cell? ⟨wr.heap.size, 0, none⟩ = some (.int .i64 q) := ⟨k1, k2⟩
            refine Open.take (i := 0) (v := ?_) rfl (by kernel_rfl) (by kernel_rfl) (by kernel_rfl) (by kernel_rfl) (fun _ _ _ h => h) HS (Or.inl ⟨rfl, ?_⟩) ?_
            rotate_left
            · rintro w' ⟨k1, k2⟩
              go_simp
              try rfl
            simp only [Act.put, List.setIfInBounds_toArray, List.set_cons_zero, List.set_cons_succ]
            refine Open.take (i := 1) (v := ?_) rfl (by kernel_rfl) (by kernel_rfl) (by kernel_rfl) (by kernel_rfl) (fun _ _ _ h => h) HS (Or.inl ⟨rfl, ?_⟩) ?_
            rotate_left
            · rintro w' ⟨k1, k2⟩
              go_simp
              try rfl
            simp only [Act.put, List.setIfInBounds_toArray, List.set_cons_zero, List.set_cons_succ]
            refine Open.take (i := 2) (v := ?_) rfl (by kernel_rfl) (by kernel_rfl) (by kernel_rfl) (by kernel_rfl) (fun _ _ _ h => h) HS (Or.inl ⟨rfl, ?_⟩) ?_
            rotate_left
            · rintro w' ⟨k1, k2⟩
              go_simp
              try rfl
            simp only [Act.put, List.setIfInBounds_toArray, List.set_cons_zero, List.set_cons_succ]
            refine Open.take (i := 3) (v := ?_) rfl (by kernel_rfl) (by kernel_rfl) (by kernel_rfl) (by kernel_rfl) (fun _ _ _ h => h) HS (Or.inl ⟨rfl, ?_⟩) ?_
            rotate_left
            · rintro w' ⟨k1, k2⟩
              go_simp
              try rfl
            simp only [Act.put, List.setIfInBounds_toArray, List.set_cons_zero, List.set_cons_succ]
            refine Open.take (i := 4) (v := ?_) rfl (by kernel_rfl) (by kernel_rfl) (by kernel_rfl) (by kernel_rfl) (fun _ _ _ h => h) HS (Or.inl ⟨rfl, ?_⟩) ?_
            rotate_left
            · rintro w' ⟨k1, k2⟩
              go_simp
              try rfl
            simp only [Act.put, List.setIfInBounds_toArray, List.set_cons_zero, List.set_cons_succ]
            refine Open.take (i := 5) (v := ?_) rfl (by kernel_rfl) (by kernel_rfl) (by kernel_rfl) (by kernel_rfl) (fun _ _ _ h => h) HS (Or.inl ⟨rfl, ?_⟩) ?_
            rotate_left
            · rintro w' ⟨k1, k2⟩
              go_simp
              try rfl
            simp only [Act.put, List.setIfInBounds_toArray, List.set_cons_zero, List.set_cons_succ]
            refine Open.take (i := 6) (v := ?_) rfl (by kernel_rfl) (by kernel_rfl) (by kernel_rfl) (by kernel_rfl) (fun _ _ _ h => h) HS (Or.inl ⟨rfl, ?_⟩) ?_
            rotate_left
            · rintro w' ⟨k1, k2⟩
              go_simp
              try rfl
            simp only [Act.put, List.setIfInBounds_toArray, List.set_cons_zero, List.set_cons_succ]
            refine Open.one (i := 7) rfl (by kernel_rfl) rfl (fun K hK => ?_)
            go_simp
            refine hK _ _ ⟨fun e => absurd rfl e, ?_⟩
            clear hK K HS k1 k2 k3 f3
            refine Open.end (by kernel_rfl) ?_
            obtain ⟨w2, hw2⟩ : ∃ w2, w1.setCell ⟨eb, q, none⟩ (.bool true) = w2 := ⟨_, rfl⟩
            rw [hw2] at HM
            have HM2 := Sp.hid (show Nf.IndAt w w2.drew gb w.heap.size eb N gc nc tb (fun j => if j = q then true else F j) V1 R1 from ⟨⟨HM.out.ix.tab, HM.out.ix.tbb, HM.out.ix.inj, HM.out.ix.row, HM.out.ix.apart⟩, HM.out.gblk, HM.out.nblk, HM.out.eblk, HM.out.ebase, HM.out.below.drew⟩)
            have Hw2 := Sp.hid hw2
            clear hw2
            try rw [Hw2.out]
            go_wp2_with fail
            go_roundw
            case rel =>
              refine ⟨j + 1, _, by go_num, hje, by first | exact HM2.out | exact HM.out, fun r => ?_⟩
              rw [Htk.out]
              constructor
              · intro h
                by_cases e : r = q
                · exact ⟨⟨q, xc⟩, by simp, by rw [e]⟩
                · simp only [e, if_false] at h
                  obtain ⟨d, hd1, hd2⟩ := (HF.out r).1 h
                  exact ⟨d, by simp [hd1], hd2⟩
              · rintro ⟨d, hd1, hd2⟩
                rcases List.mem_append.1 hd1 with h | h
                · by_cases e : r = q
                  · simp [e]
                  · simp only [e, if_false]; exact (HF.out r).2 ⟨d, h, hd2⟩
                · simp at h; subst h
                  have e : r = q := by simp only at hd2; omega
                  simp [e]
            case measure => simp [intOf]; omega
          · have hjj : ends.take j = ends := List.take_of_length_le (by rw [HlenE.out]; omega)
            have HFA := Sp.hid (show ∀ q : Nat, F q = true ↔ ∃ d, d ∈ ends ∧ d.s = (q : Int) by have h := HF.out; rwa [hjj] at h)
            have HG := Sp.hid (Nf.grAt_of Hpre.out (by rw [Hgc.out]; exact HI2.out) HRA.out HFA.out (fun t i => Nat.le_trans (Hsz1.out t i) (by omega)))
            clear hjj
            go_wp2_with fail
            go_ret
            exact ⟨gb, _, rfl, HG.out, Hbel2.out⟩

end Go.Proofs.Ytnaojfhhjknejaa
