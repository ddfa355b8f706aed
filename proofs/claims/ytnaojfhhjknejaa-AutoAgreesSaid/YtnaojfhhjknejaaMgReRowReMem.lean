/-
  Tables whose rows grow in place, for elements of any number of cells; and such tables, read.
-/
import Derived.Test.YtnaojfhhjknejaaMgAuIxAuReg
set_option linter.unusedVariables false
namespace Go.Proofs.Ytnaojfhhjknejaa
open Go.RowKit
namespace Nf

/-- Block tb has N rows; row i holds R i; each row is of the call's own, and no two share a block. -/
structure RowsAt {α : Type} (en : α → List Value) (e tt : TypeId) (sz : Nat) (w : World) (base tb N : Nat) (V : Nat → Value) (R : Nat → List α) : Prop where
  tab : Vec id w tb tt N N V
  tbb : base ≤ tb
  row : ∀ i, i < N → w.ownsRow base e sz (V i) (R i).length ((R i).flatMap en)
  apart : ∀ i j, i < N → j < N → i ≠ j → (V i).ownBlock = none ∨ (V i).ownBlock ≠ (V j).ownBlock

section
variable {α : Type} {en : α → List Value} {e tt : TypeId} {sz : Nat} {w w1 : World} {base tb N : Nat} {V : Nat → Value} {R : Nat → List α}

theorem RowsAt.push (h : RowsAt en e tt sz w base tb N V R) (hne : e ≠ tt) {i : Nat} (hi : i < N) {v' : Value} {x : α} (hg : w.grownBy w1 (V i).ownBlock)
    (hown : w1.ownsRow base e sz v' ((R i).length + 1) ((R i).flatMap en ++ en x)) (hat : (V i).ownBlock = v'.ownBlock ∨ ∃ g, v'.ownBlock = some g ∧ w.heap.size ≤ g) :
    RowsAt en e tt sz (w1.setCell ⟨tb, i, none⟩ v') base tb N (up1 V i v') (up1 R i (R i ++ [x])) := by
  have htab1 : Vec id w1 tb tt N N V := h.tab.grown hg (fun e1 => own_vec_ne (h.row i hi) h.tab hne e1.symm)
  have hrow1 : ∀ j, j < N → j ≠ i → w1.ownsRow base e sz (V j) (R j).length ((R j).flatMap en) := fun j hj hji => (h.row j hj).kept hg (h.apart j i hj hi hji)
  have hlt : ∀ j, j < N → ∀ k, (V j).ownBlock = some k → k < w.heap.size := fun j hj k hk => ((h.row j hj).lt k hk).2
  refine ⟨?_, h.tbb, fun j hj => ?_, fun j k hj hk hjk => ?_⟩
  · exact (htab1.set (i := i) v').congr fun j hj => by
      show (if j = i then v' else V j) = up1 V i v' j
      rfl
  · by_cases e1 : j = i
    · subst e1
      rw [up1_same, up1_same]
      have := own_far (u := v') hown (a := ⟨tb, j, none⟩) (own_vec_ne hown htab1 hne)
      simpa using this
    · rw [up1_ne _ _ e1, up1_ne _ _ e1]
      exact own_far (hrow1 j hj e1) (a := ⟨tb, i, none⟩) (own_vec_ne (hrow1 j hj e1) htab1 hne)
  · by_cases e1 : j = i
    · subst e1
      have e2 : k ≠ j := fun e2 => hjk e2.symm
      rw [up1_same, up1_ne _ _ e2]
      rcases hat with hat | ⟨g, hg1, hg2⟩
      · rw [← hat]; exact h.apart _ _ hj hk hjk
      · right
        rw [hg1]
        intro e3
        have := hlt k hk g e3.symm
        omega
    · rw [up1_ne _ _ e1]
      by_cases e2 : k = i
      · subst e2
        rw [up1_same]
        rcases hat with hat | ⟨g, hg1, hg2⟩
        · rw [← hat]; exact h.apart _ _ hj hk hjk
        · cases hq : (V j).ownBlock with
          | none => exact .inl rfl
          | some q =>
            right
            rw [hg1]
            intro e3
            have := hlt j hj q hq
            injection e3 with e3
            omega
      · rw [up1_ne _ _ e2]; exact h.apart _ _ hj hk hjk

theorem RowsAt.below (h : RowsAt en e tt sz w base tb N V R) (hb : Below w.heap.size w w1) : RowsAt en e tt sz w1 base tb N V R := by
  have hg : w.grownBy w1 none := ⟨hb.os, hb.tape, hb.output, hb.size, fun k hk _ => hb.block k hk⟩
  exact ⟨h.tab.grown hg (by simp), h.tbb, fun i hi => (h.row i hi).kept hg (by cases (V i).ownBlock <;> simp), h.apart⟩
theorem RowsAt.alloc (h : RowsAt en e tt sz w base tb N V R) (o : Obj) : RowsAt en e tt sz (w.alloc o) base tb N V R := h.below ((Below.refl _ w).alloc (Nat.le_refl _) o)
/-- A store elsewhere. -/
theorem RowsAt.far (h : RowsAt en e tt sz w base tb N V R) {a : Addr} {c : Array Value} {ty : TypeId} {f : Nat × Nat} (hb : w.heap[a.block]? = some (.cells c ty f)) (h1 : e ≠ ty) (h2 : tt ≠ ty) (u : Value) : RowsAt en e tt sz (w.setCell a u) base tb N V R := by
  obtain ⟨cur, hcur⟩ := Vec.blk h.tab
  exact ⟨Vec.far h.tab (blk_ne hcur hb h2) u, h.tbb, fun i hi => own_far (h.row i hi) (own_ne (h.row i hi) hb h1), h.apart⟩
theorem RowsAt.made (hN : N ≤ 1000000) (hb : base ≤ tb) (h : w.heap[tb]? = some (.cells (madeCells #[.slice none 0 0] N) tt (0, 0))) : RowsAt en e tt sz w base tb N (fun _ => .slice none 0 0) (fun _ => []) :=
  ⟨⟨_, h, size_madeCells _ _, Nat.le_refl _, by unfold maxLen; omega, fun i hi => by simp [madeCells, hi, Nat.mod_one]⟩, hb, fun i hi => World.ownsRow_nil _ _ _ _, fun i j _ _ _ => .inl rfl⟩
end

/-- A slice over ao holds l, sz cells an element. -/
def RowC {α : Type} (en : α → List Value) (sz : Nat) (w : World) (ao : Option Addr) (l : List α) : Prop :=
  0 < l.length → ∃ b off, ao = some ⟨b, off, none⟩ ∧ ∀ j x, l[j]? = some x → ∀ c v, (en x)[c]? = some v → w.cell? ⟨b, off + (j * sz + c), none⟩ = some v
def TabC {α : Type} (en : α → List Value) (sz : Nat) (w : World) (tb N : Nat) (R : Nat → List α) : Prop :=
  ∀ i, i < N → ∃ ao cap, w.cell? ⟨tb, i, none⟩ = some (.slice ao (R i).length cap) ∧ (R i).length ≤ 1000000 ∧ RowC en sz w ao (R i)
section
variable {α : Type} {en : α → List Value} {sz : Nat} {w w' : World} {ao : Option Addr} {l : List α} {tb N : Nat} {R : Nat → List α}
theorem RowC.below (h : RowC en sz w ao l) (hb : Below w.heap.size w w') : RowC en sz w' ao l := by
  intro h0
  obtain ⟨b, off, e, hc⟩ := h h0
  exact ⟨b, off, e, fun j x hx c v hv => by rw [hb.cell (World.block_lt_of_cell? w _ (hc j x hx c v hv))]; exact hc j x hx c v hv⟩
theorem TabC.below (h : TabC en sz w tb N R) (hb : Below w.heap.size w w') : TabC en sz w' tb N R := by
  intro i hi
  obtain ⟨ao, cap, h1, h2, h3⟩ := h i hi
  exact ⟨ao, cap, by rw [hb.cell (World.block_lt_of_cell? w _ h1)]; exact h1, h2, h3.below hb⟩
theorem flat_at (hsz : ∀ x : α, (en x).length = sz) : ∀ (l : List α) (j : Nat) (x : α), l[j]? = some x → ∀ c v, (en x)[c]? = some v → (l.flatMap en)[j * sz + c]? = some v
  | [], j, x, h, _, _, _ => by simp at h
  | a :: r, 0, x, h, c, v, hv => by
    simp at h; subst h
    have := (List.getElem?_eq_some_iff.1 hv).1
    rw [List.flatMap_cons, Nat.zero_mul, Nat.zero_add, List.getElem?_append_left this]; exact hv
  | a :: r, j + 1, x, h, c, v, hv => by
    have := flat_at hsz r j x (by simpa using h) c v hv
    rw [List.flatMap_cons, List.getElem?_append_right (by rw [hsz a, Nat.add_mul]; omega), hsz a]
    rw [show (j + 1) * sz + c - sz = j * sz + c by rw [Nat.add_mul]; omega]
    exact this
theorem RowC.of_own {base : Nat} {e : TypeId} {v : Value} (hsz : ∀ x : α, (en x).length = sz) (hr : w.ownsRow base e sz v l.length (l.flatMap en)) : ∃ ao cap, v = .slice ao l.length cap ∧ RowC en sz w ao l := by
  rcases hr.2 with ⟨hv, h0⟩ | ⟨g, cap, cur, hv, _, _⟩
  · exact ⟨none, 0, by rw [hv, h0], fun h1 => by omega⟩
  · refine ⟨some ⟨g, 0, none⟩, cap, hv, fun _ => ⟨g, 0, rfl, fun j x hx c u hu => ?_⟩⟩
    rw [hv] at hr
    have h1 := hr.cells (g := g) rfl (j * sz + c) _ (flat_at hsz l j x hx c u hu)
    rw [plain_add] at h1
    exact h1
theorem RowsAt.tabC {e tt : TypeId} {base : Nat} {V : Nat → Value} (h : RowsAt en e tt sz w base tb N V R) (hsz : ∀ x : α, (en x).length = sz) (hs : ∀ i, (R i).length ≤ 1000000) : TabC en sz w tb N R := by
  intro i hi
  obtain ⟨ao, cap, hv, hc⟩ := RowC.of_own hsz (h.row i hi)
  exact ⟨ao, cap, by rw [h.tab.cell hi, ← hv]; rfl, hs i, hc⟩
theorem RowC.at (h : RowC en sz w ao l) {k : Nat} (hk : k < l.length) : ∃ b off x, ao = some ⟨b, off, none⟩ ∧ l[k]? = some x ∧ (∀ c v, (en x)[c]? = some v → w.cell? ⟨b, off + (k * sz + c), none⟩ = some v) ∧ l.take (k + 1) = l.take k ++ [x] := by
  obtain ⟨b, off, rfl, hc⟩ := h (by omega)
  exact ⟨b, off, l[k], rfl, by simp [hk], fun c v hv => hc k _ (by simp [hk]) c v hv, List.take_succ_eq_append_getElem hk⟩
end
end Nf
end Go.Proofs.Ytnaojfhhjknejaa

/-
  The reference's graph in memory; ways in a graph, plainly; lists that grow until they are closed.
-/
set_option linter.unusedVariables false
namespace Go.Proofs.Ytnaojfhhjknejaa
open Go.RowKit
namespace Nf

def enE (x : ByteArray × Nat) : List Value := [.string x.1, num x.2]
theorem enE_len (x : ByteArray × Nat) : (enE x).length = 2 := rfl

/-- A graph of the reference: where its rows of edges and its ends lie. -/
structure RfAt (w : World) (eb db : Nat) (R : Nat → List (ByteArray × Nat)) (g : Gr) : Prop where
  ok : Ok g
  small : g.N ≤ 3000
  edg : TabC enE 2 w eb g.N R
  ends : BoolsT w db g.N (· ∈ g.ends)
  ed_iff : ∀ p s q, (s, q) ∈ R p ↔ (p, s, q) ∈ g.arcs
  len : ∀ p x, x ∈ R p → x.1.size ≤ 9223372036854775807
def rfVal (eb db N : Nat) : Value := .agg #[.int .i64 0, .slice (some ⟨eb, 0, none⟩) N N, .slice (some ⟨db, 0, none⟩) N N]
theorem BoolsT.below {w w' : World} {hb N : Nat} {S : Nat → Prop} (h : BoolsT w hb N S) (hb' : Below w.heap.size w w') : BoolsT w' hb N S := by
  obtain ⟨⟨cur, fr, h1⟩, h2⟩ := h
  exact ⟨⟨cur, fr, blk_below h1 hb' (blk_lt h1)⟩, h2.below hb'⟩
theorem RfAt.below {w w' : World} {eb db : Nat} {R : Nat → List (ByteArray × Nat)} {g : Gr} (h : RfAt w eb db R g) (hb : Below w.heap.size w w') : RfAt w' eb db R g :=
  ⟨h.ok, h.small, h.edg.below hb, h.ends.below hb, h.ed_iff, h.len⟩
theorem RfAt.to_lt {w : World} {eb db : Nat} {R : Nat → List (ByteArray × Nat)} {g : Gr} (h : RfAt w eb db R g) {p : Nat} {x : ByteArray × Nat} (hx : x ∈ R p) : x.2 < g.N :=
  h.ok.to_ _ ((h.ed_iff p x.1 x.2).1 hx)

/-- What a row leads to: by an edge that is asked for; an edge that is not leads to where it begins. -/
noncomputable def tabOf (ask : ByteArray → Bool) (R : Nat → List (ByteArray × Nat)) (p : Nat) : List Nat := (R p).map fun x => if ask x.1 = true then x.2 else p
theorem tabOf_get {ask : ByteArray → Bool} {R : Nat → List (ByteArray × Nat)} {p k : Nat} {x : ByteArray × Nat} (h : (R p)[k]? = some x) : (tabOf ask R p)[k]? = some (if ask x.1 = true then x.2 else p) := by
  simp [tabOf, h]
theorem tabOf_len {ask : ByteArray → Bool} {R : Nat → List (ByteArray × Nat)} {p : Nat} : (tabOf ask R p).length = (R p).length := by simp [tabOf]
theorem star_tabOf {ask : ByteArray → Bool} {R : Nat → List (ByteArray × Nat)} {E' : Nat → Nat → Prop} (hE : ∀ p q, E' p q ↔ ∃ x, x ∈ R p ∧ ask x.1 = true ∧ x.2 = q) {p q : Nat} : Star (Rel [tabOf ask R]) p q ↔ Star E' p q := by
  constructor
  · intro h
    induction h with
    | refl a => exact .refl a
    | step h1 _ ih =>
      obtain ⟨T, hT, hq⟩ := h1
      simp at hT; subst hT
      obtain ⟨x, hx, e⟩ := List.mem_map.1 hq
      by_cases ha : ask x.1 = true
      · rw [if_pos ha] at e
        exact .step ((hE _ _).2 ⟨x, hx, ha, e⟩) ih
      · rw [if_neg ha] at e
        rw [e]; exact ih
  · intro h
    refine h.mono fun a b hab => ?_
    obtain ⟨x, hx, ha, e⟩ := (hE a b).1 hab
    exact ⟨tabOf ask R, by simp, List.mem_map.2 ⟨x, hx, by show (if ask x.1 = true then x.2 else a) = b; rw [if_pos ha, e]⟩⟩

noncomputable def isEps (s : ByteArray) : Bool := decide (s.size = 0)
theorem star_eps {w : World} {eb db : Nat} {R : Nat → List (ByteArray × Nat)} {g : Gr} (h : RfAt w eb db R g) {p q : Nat} : Star (Rel [tabOf isEps R]) p q ↔ Star (E g) p q := by
  refine star_tabOf fun p q => ?_
  constructor
  · intro he
    exact ⟨(eps, q), (h.ed_iff p eps q).2 he, by simp [isEps, show eps.size = 0 from rfl], rfl⟩
  · rintro ⟨x, hx, ha, rfl⟩
    have hz : x.1.size = 0 := by simpa [isEps] using ha
    have e : x.1 = eps := by
      obtain ⟨⟨d⟩, y⟩ := x
      simp [ByteArray.size] at hz; subst hz; rfl
    have := (h.ed_iff p x.1 x.2).1 hx
    rw [e] at this
    exact this

/-- A pool whose list lies in a slot. -/
structure PoolV (w : World) (base hb N : Nat) (L : List Nat) (lv : Value) : Prop where
  pool : Pool N L
  small : N ≤ 1000000
  hbb : base ≤ hb
  has : Vec Value.bool w hb 4 N N (fun i => decide (i ∈ L))
  list : w.ownsRow base 3 1 lv L.length (L.map num)
theorem PoolV.below {w w' : World} {base hb N : Nat} {L : List Nat} {lv : Value} (h : PoolV w base hb N L lv) (k : Below w.heap.size w w') : PoolV w' base hb N L lv := by
  have hg : w.grownBy w' none := ⟨k.os, k.tape, k.output, k.size, fun i hi _ => k.block i hi⟩
  exact ⟨h.pool, h.small, h.hbb, h.has.grown hg (by simp), h.list.kept hg (by cases lv.ownBlock <;> simp)⟩
theorem PoolV.alloc {w : World} {base hb N : Nat} {L : List Nat} {lv : Value} (h : PoolV w base hb N L lv) (o : Obj) : PoolV (w.alloc o) base hb N L lv := h.below ((Below.refl _ w).alloc (Nat.le_refl _) o)

/-- One number appended to a row of the call's own, however long. -/
theorem push_num2 {w : World} {ops : Array Oper} {rest : List Oper} {o : Oper} {a : Act} {Q : Exit → Act → World → Prop} (hgd : o.guard = none) (s x : Operand)
    (ho : o.op = .call { callee := .builtin .append, args := #[s, x], argTypes := #[67, 67] })
    (base : Nat) (v : Value) (L : List Nat) (hs : a.eval s = v) (hown : w.ownsRow base 3 1 v L.length (L.map num))
    (q : Nat) (ad : Addr) (c : Nat) (hx : a.eval x = .slice (some ad) 1 c) (hc : w.cell? ad = some (.int .i64 q)) (hbig : L.length ≤ 1000000000000) (hbase : base ≤ w.heap.size)
    (h : ∀ v' w', w'.ownsRow base 3 1 v' (L ++ [q]).length ((L ++ [q]).map num) → w.grownBy w' v.ownBlock → (v'.ownBlock = v.ownBlock ∨ v'.ownBlock = some w.heap.size) → wpList Try.prog ops Q rest (a.put o.dst v') w') : wpList Try.prog ops Q (o :: rest) a w := by
  obtain ⟨i0, hi, hz0, hz1, hz2⟩ := info_parts intInfo
  have hnews : ∀ j u, ([num q])[j]? = some u → w.cell? (ad.add j) = some u := by
    intro j u hj
    match j, hj with
    | 0, hj =>
      simp at hj; subst hj
      have : ad.add 0 = ad := by unfold Addr.add; obtain ⟨b, o, sp⟩ := ad; cases sp <;> simp
      rw [this]; exact hc
  refine wpList_append_own_at w hgd s x 67 ho base 3 i0 (.int .i64 0) 1 8 Try.underlying67 hi hz0 hz1 hz2 rfl (by decide) v _ _ hs hown ad 1 c [num q] hx rfl hnews (fun u hu => by simp at hu; subst hu; rfl) (by unfold maxLen; omega) (by omega) hbase ?_
  intro v' w' hown' hgrow _ hat
  exact h v' w' (by simpa using hown') hgrow hat

/-- A row of the call's own is one from an earlier block on, too. -/
theorem own_base {w : World} {base b' : Nat} {e : TypeId} {size n : Nat} {v : Value} {xs : List Value} (h : w.ownsRow base e size v n xs) (hb : b' ≤ base) : w.ownsRow b' e size v n xs := by
  refine ⟨h.1, ?_⟩
  rcases h.2 with h0 | ⟨g, cap, cur, hv, hbg, hr⟩
  · exact .inl h0
  · exact .inr ⟨g, cap, cur, hv, Nat.le_trans hb hbg, hr⟩

/-- A set, as a list in ascending order, in new memory. -/
def AscPost (N : Nat) (S : Nat → Prop) (w : World) (e : Ending) (w' : World) : Prop :=
  ∃ v L, e = .returned v ∧ w'.ownsRow w.heap.size 3 1 v (List.length L) (L.map num) ∧ Pool N L ∧ L.Pairwise (· < ·) ∧ (∀ q, q ∈ L ↔ S q) ∧ Below w.heap.size w w'

theorem three_new (w : World) (a b c : Obj) : (((w.alloc a).alloc b).alloc c).heap[w.heap.size]? = some a ∧ (((w.alloc a).alloc b).alloc c).heap[w.heap.size + 1]? = some b ∧ (((w.alloc a).alloc b).alloc c).heap[w.heap.size + 1 + 1]? = some c :=
  ⟨blk_alloc (blk_alloc (Below.heap_new w a) b) c, blk_alloc (by have := Below.heap_new (w.alloc a) b; simpa using this) c, by have := Below.heap_new ((w.alloc a).alloc b) c; simpa using this⟩
theorem below_three (w : World) (a b c : Obj) : RowKit.Below w.heap.size w (((w.alloc a).alloc b).alloc c) := (((RowKit.Below.refl _ w).alloc (Nat.le_refl _) _).alloc (by simp) _).alloc (by simp; omega) _

/-- Ways. -/
inductive Way (g : Gr) : Nat → List ByteArray → Nat → Prop
  | nil (p : Nat) : Way g p [] p
  | eps {p r q : Nat} {v : List ByteArray} : E g p r → Way g r v q → Way g p v q
  | sym {p r q : Nat} {s : ByteArray} {v : List ByteArray} : s ≠ Nf.eps → (p, s, r) ∈ g.arcs → Way g r v q → Way g p (s :: v) q
variable {g : Gr}
theorem Way.star {p r q : Nat} {v : List ByteArray} (h : Star (E g) p r) (k : Way g r v q) : Way g p v q := by
  induction h with
  | refl a => exact k
  | step h1 _ ih => exact .eps h1 (ih k)
theorem Way.append {p r q : Nat} {u v : List ByteArray} (h : Way g p u r) (k : Way g r v q) : Way g p (u ++ v) q := by
  induction h with
  | nil p => exact k
  | eps h1 _ ih => exact .eps h1 (ih k)
  | sym h0 h1 _ ih => exact .sym h0 h1 (ih k)
theorem Way.empty {p q : Nat} : Way g p [] q ↔ Star (E g) p q := by
  constructor
  · intro h
    generalize hv : ([] : List ByteArray) = v at h
    induction h with
    | nil p => exact .refl p
    | eps h1 _ ih => exact .step h1 (ih hv)
    | sym _ _ _ _ => cases hv
  · intro h; exact Way.star h (.nil q)
theorem Way.cons {p q : Nat} {s : ByteArray} {v : List ByteArray} : Way g p (s :: v) q ↔ s ≠ Nf.eps ∧ ∃ a b, Star (E g) p a ∧ (a, s, b) ∈ g.arcs ∧ Way g b v q := by
  constructor
  · intro h
    generalize hv : s :: v = u at h
    induction h with
    | nil p => cases hv
    | eps h1 _ ih =>
      obtain ⟨h0, a, b, h2, h3, h4⟩ := ih hv
      exact ⟨h0, a, b, .step h1 h2, h3, h4⟩
    | sym h0 h1 h2 _ =>
      cases hv
      exact ⟨h0, _, _, .refl _, h1, h2⟩
  · rintro ⟨h0, a, b, h1, h2, h3⟩
    exact Way.star h1 (.sym h0 h2 h3)
/-- The states to which a word leads from a set that is closed. -/
theorem lead_way : ∀ (v : List ByteArray) (S : Nat → Prop), (∀ s ∈ v, s ≠ eps) → (∀ p q, S p → Star (E g) p q → S q) → ∀ q, Lead g v S q ↔ ∃ p, S p ∧ Way g p v q
  | [], S, _, hc, q => by
    constructor
    · intro h; exact ⟨q, h, .nil q⟩
    · rintro ⟨p, h, k⟩; exact hc p q h (Way.empty.1 k)
  | s :: v, S, hs, hc, q => by
    show Lead g v (StepTo g S s) q ↔ _
    rw [lead_way v (StepTo g S s) (fun t ht => hs t (by simp [ht])) (fun p r h k => by
      obtain ⟨a, b, h1, h2, h3⟩ := h
      exact ⟨a, b, h1, h2, h3.trans k⟩) q]
    constructor
    · rintro ⟨r, ⟨a, b, h1, h2, h3⟩, k⟩
      exact ⟨a, h1, .sym (hs s (by simp)) h2 (Way.star h3 k)⟩
    · rintro ⟨p, h, k⟩
      obtain ⟨h0, a, b, h1, h2, h3⟩ := Way.cons.1 k
      exact ⟨b, ⟨a, b, hc p a h h1, h2, .refl b⟩, h3⟩
/-- Is a word accepted? -/
def Acc (g : Gr) (v : List ByteArray) : Prop := ∃ q, q ∈ g.ends ∧ Lead g v (Beg g) q
theorem beg_closed (p q : Nat) (h : Beg g p) (k : Star (E g) p q) : Beg g q := by
  obtain ⟨a, h1, h2⟩ := h
  exact ⟨a, h1, h2.trans k⟩
theorem acc_way {v : List ByteArray} (hs : ∀ s ∈ v, s ≠ eps) : Acc g v ↔ ∃ q, q ∈ g.ends ∧ Way g 0 v q := by
  have key := lead_way (g := g) v (Beg g) hs beg_closed
  constructor
  · rintro ⟨q, h1, h2⟩
    obtain ⟨p, ⟨a, ha, hst⟩, k⟩ := (key q).1 h2
    subst ha
    exact ⟨q, h1, Way.star hst k⟩
  · rintro ⟨q, h1, h2⟩
    exact ⟨q, h1, (key q).2 ⟨0, ⟨0, rfl, .refl 0⟩, h2⟩⟩
theorem lead_congr : ∀ (v : List ByteArray) {S T : Nat → Prop}, (∀ q, S q ↔ T q) → ∀ q, Lead g v S q ↔ Lead g v T q := by
  intro v S T h q
  have : S = T := funext fun q => propext (h q)
  rw [this]
theorem lead_none : ∀ (v : List ByteArray) (q : Nat), ¬ Lead g v (fun _ => False) q
  | [], q, h => h
  | s :: v, q, h => by
    have e : StepTo g (fun _ => False) s = fun _ => False := funext fun q => propext ⟨fun ⟨a, b, h, _⟩ => h, fun h => h.elim⟩
    have h' : Lead g v (StepTo g (fun _ => False) s) q := h
    rw [e] at h'
    exact lead_none v q h'
theorem lead_snoc : ∀ (v : List ByteArray) (s : ByteArray) (S : Nat → Prop), Lead g (v ++ [s]) S = StepTo g (Lead g v S) s
  | [], s, S => rfl
  | t :: v, s, S => by
    show Lead g (v ++ [s]) (StepTo g S t) = StepTo g (Lead g v (StepTo g S t)) s
    exact lead_snoc v s _
theorem lead_append : ∀ (u v : List ByteArray) (S : Nat → Prop), Lead g (u ++ v) S = Lead g v (Lead g u S)
  | [], v, S => rfl
  | t :: u, v, S => lead_append u v _

end Nf
end Go.Proofs.Ytnaojfhhjknejaa
