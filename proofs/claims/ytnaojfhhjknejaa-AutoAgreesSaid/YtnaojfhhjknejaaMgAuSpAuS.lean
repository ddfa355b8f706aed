/-
  What a step of a listing does, plainly and in memory: closing within a set; rows of bools that are empty between two steps; the next sets.
-/
import Derived.Test.YtnaojfhhjknejaaMgAuIxAuReg
import Derived.Test.YtnaojfhhjknejaaMgAuI
set_option linter.unusedVariables false
namespace Go.Proofs.Ytnaojfhhjknejaa
open Go.RowKit
namespace Nf

/-- A row that grows until it is closed under R. -/
structure Bf (R : Nat → Nat → Prop) (N : Nat) (l : List Nat) (i : Nat) (L : List Nat) : Prop where
  pool : Pool N L
  pre : l <+: L
  le : i ≤ L.length
  done : ∀ j p, j < i → L[j]? = some p → ∀ q, R p q → q ∈ L
  sound : ∀ q ∈ L, ∃ p, p ∈ l ∧ Star R p q
structure BfIn (R : Nat → Nat → Prop) (S : Nat → Prop) (N : Nat) (l : List Nat) (i p : Nat) (E : List Nat) (m : Nat) (L : List Nat) : Prop where
  bf : Bf R N l i L
  at_ : L[i]? = some p
  part : ∀ q ∈ E.take m, S q → q ∈ L
variable {R : Nat → Nat → Prop} {S : Nat → Prop} {N i p m q : Nat} {l L E : List Nat}
theorem Bf.start (h : Pool N l) : Bf R N l 0 l := ⟨h, List.prefix_refl _, Nat.zero_le _, fun j p hj => absurd hj (by omega), fun q hq => ⟨q, hq, .refl q⟩⟩
theorem Bf.at_ (h : Bf R N l i L) (hp : L[i]? = some p) : BfIn R S N l i p E 0 L := ⟨h, hp, by simp⟩
theorem take_snoc_get (hq : E[m]? = some q) : E.take (m + 1) = E.take m ++ [q] := by
  obtain ⟨h1, h2⟩ := List.getElem?_eq_some_iff.1 hq
  rw [List.take_succ_eq_append_getElem h1, h2]
theorem BfIn.add (h : BfIn R S N l i p E m L) (hq : E[m]? = some q) (hR : R p q) (hN : q < N) : BfIn R S N l i p E (m + 1) (ins L q) := by
  have hpre := ins_pre L q
  refine ⟨⟨h.bf.pool.ins hN, h.bf.pre.trans hpre, Nat.le_trans h.bf.le (pre_len hpre), fun j x hj hx y hy => ?_, fun x hx => ?_⟩, pre_get hpre h.at_, fun x hx hs => ?_⟩
  · have hjl : j < L.length := Nat.lt_of_lt_of_le hj h.bf.le
    have : L[j]? = some L[j] := List.getElem?_eq_getElem hjl
    have e := pre_get hpre this
    rw [hx] at e
    cases e
    exact pre_mem hpre (h.bf.done j _ hj this y hy)
  · rcases mem_ins.1 hx with h1 | rfl
    · exact h.bf.sound x h1
    · obtain ⟨a, ha, hs⟩ := h.bf.sound p (List.mem_of_getElem? h.at_)
      exact ⟨a, ha, hs.snoc hR⟩
  · rw [take_snoc_get hq] at hx
    rcases List.mem_append.1 hx with hx | hx
    · exact pre_mem hpre (h.part x hx hs)
    · simp at hx; subst hx; exact mem_ins.2 (.inr rfl)
theorem BfIn.skip (h : BfIn R S N l i p E m L) (hq : E[m]? = some q) (hS : ¬ S q) : BfIn R S N l i p E (m + 1) L := by
  refine ⟨h.bf, h.at_, fun x hx hs => ?_⟩
  rw [take_snoc_get hq] at hx
  rcases List.mem_append.1 hx with hx | hx
  · exact h.part x hx hs
  · simp at hx; subst hx; exact absurd hs hS
theorem BfIn.round (h : BfIn R S N l i p E m L) (hm : E.length ≤ m) (hR : ∀ q, R p q → q ∈ E ∧ S q) : Bf R N l (i + 1) L := by
  have hi := (List.getElem?_eq_some_iff.1 h.at_).1
  refine ⟨h.bf.pool, h.bf.pre, hi, fun j x hj hx y hy => ?_, h.bf.sound⟩
  by_cases e : j = i
  · subst e
    rw [h.at_] at hx
    cases hx
    obtain ⟨h1, h2⟩ := hR y hy
    exact h.part y (by rw [List.take_of_length_le hm]; exact h1) h2
  · exact h.bf.done j x (by omega) hx y hy
theorem Bf.mem (h : Bf R N l i L) (hi : L.length ≤ i) (q : Nat) : q ∈ L ↔ ∃ p, p ∈ l ∧ Star R p q := by
  constructor
  · exact h.sound q
  · rintro ⟨p, hp, hs⟩
    refine Star.keeps (P := fun x => x ∈ L) (fun a b hab ha => ?_) hs (pre_mem h.pre hp)
    obtain ⟨j, hj, e⟩ := List.mem_iff_getElem.1 ha
    exact h.done j a (by omega) (by rw [List.getElem?_eq_getElem hj, e]) b hab

/-- Rows of bools, one for each symbol. -/
structure SeenAt (w : World) (bs sb : Nat) (sr : Nat → Nat) (k N : Nat) (F : Nat → Nat → Bool) : Prop where
  var : w.heap[bs]? = some (.cells #[.slice (some ⟨sb, 0, none⟩) k k] 77 (0, 0))
  tab : Vec id w sb 47 k k (fun x => .slice (some ⟨sr x, 0, none⟩) N N)
  row : ∀ x, x < k → Vec Value.bool w (sr x) 4 N N (F x)
  inj : ∀ x y, x < k → y < k → sr x = sr y → x = y

theorem Vec.only {w : World} {g N o : Nat} {F : Nat → Bool} {v : Value} (h : Vec Value.bool w g 4 N N F) (hc : w.cell? ⟨g, o, none⟩ = some v) : ∃ b, v = .bool b := by
  obtain ⟨cur, h1, h2, _, _, h5⟩ := h
  simp [World.cell?, h1] at hc
  have ho : o < cur.size := (Array.getElem?_eq_some_iff.1 hc).1
  rw [h5 o (by omega)] at hc
  exact ⟨_, by injection hc with hc; exact hc.symm⟩
theorem Vec.same {w w' : World} {g N : Nat} {F : Nat → Bool} (h : Vec Value.bool w g 4 N N F) (k : Vec Value.bool w' g 4 N N F) : w'.heap[g]? = w.heap[g]? := by
  obtain ⟨c, h1, h2, _, _, h5⟩ := h
  obtain ⟨d, k1, k2, _, _, k5⟩ := k
  rw [h1, k1]
  congr 2
  apply Array.ext_getElem?
  intro i
  by_cases hi : i < N
  · rw [h5 i hi, k5 i hi]
  · rw [Array.getElem?_eq_none (by omega), Array.getElem?_eq_none (by omega)]

/-- The next sets: one row of numbers for each symbol. -/
def NextAt (w : World) (base k nb : Nat) (V : Nat → Value) (L : Nat → List Nat) : Prop := IxAt w (· = 1) base k (fun _ => nb) (fun _ => V) (fun _ x => (L x).map fun y => (y, 0))

/-- All that a step has in hand. -/
structure StepSt (w0 w : World) (bs sb bn nb bm mb : Nat) (sr : Nat → Nat) (k N : Nat) (F : Nat → Nat → Bool) (V : Nat → Value) (L : Nat → List Nat) : Prop where
  seen : SeenAt w bs sb sr k N F
  next : NextAt w w0.heap.size k nb V L
  nvar : w.heap[bn]? = some (.cells #[.slice (some ⟨nb, 0, none⟩) k k] 64 (0, 0))
  mvar : w.heap[bm]? = some (.cells #[.slice (some ⟨mb, 0, none⟩) N N] 47 (0, 0))
  keep : ∀ b, b < w0.heap.size → (∀ x, x < k → b ≠ sr x) → w.heap[b]? = w0.heap[b]?
  bnb : w0.heap.size ≤ bn
  bmb : w0.heap.size ≤ bm
  os : w.os = w0.os
  tape : w.tape = w0.tape
  output : w.output = w0.output
  size : w0.heap.size ≤ w.heap.size

theorem flat_map (L : List Nat) : (L.map fun y => (y, 0)).flatMap (enc 1) = L.map num := by
  induction L with
  | nil => rfl
  | cons a r ih => simp [enc, ih]
theorem NextAt.row {w : World} {base k nb : Nat} {V : Nat → Value} {L : Nat → List Nat} (h : NextAt w base k nb V L) {x : Nat} (hx : x < k) : w.ownsRow base 3 1 (V x) (L x).length ((L x).map num) := by
  have := IxAt.row h 1 x rfl hx
  rw [flat_map] at this
  simpa [ety, szt] using this
theorem NextAt.tab {w : World} {base k nb : Nat} {V : Nat → Value} {L : Nat → List Nat} (h : NextAt w base k nb V L) : Vec id w nb 67 k k V := IxAt.tab h 1 rfl
theorem NextAt.push {w w1 : World} {base k nb : Nat} {V : Nat → Value} {L : Nat → List Nat} (h : NextAt w base k nb V L) {x q : Nat} (hx : x < k) {v' : Value} (hg : w.grownBy w1 (V x).ownBlock) (hown : w1.ownsRow base 3 1 v' ((L x).length + 1) ((L x).map num ++ [num q]))
    (hat : (V x).ownBlock = v'.ownBlock ∨ ∃ g, v'.ownBlock = some g ∧ w.heap.size ≤ g) : NextAt (w1.setCell ⟨nb, x, none⟩ v') base k nb (fun y => if y = x then v' else V y) (fun y => if y = x then L x ++ [q] else L y) := by
  have := IxAt.push h (t := 1) (i := x) rfl hx (x := (q, 0)) hg (by rw [flat_map]; simpa [enc, ety, szt] using hown) hat
  refine ⟨fun t ht => ?_, this.tbb, this.inj, fun t i ht hi => ?_, fun t i t' i' ht hi ht' hi' hne => ?_⟩
  · subst ht
    exact (this.tab 1 rfl).congr fun j hj => by simp [upd]
  · subst ht
    have h2 := this.row 1 i rfl hi
    unfold upd at h2
    by_cases e : i = x
    · subst e
      simpa using h2
    · simpa [e] using h2
  · subst ht
    subst ht'
    have h2 := this.apart 1 i 1 i' rfl hi rfl hi' hne
    unfold upd at h2
    simpa using h2

theorem StepSt.alloc {w0 w : World} {bs sb bn nb bm mb : Nat} {sr : Nat → Nat} {k N : Nat} {F : Nat → Nat → Bool} {V : Nat → Value} {L : Nat → List Nat} (h : StepSt w0 w bs sb bn nb bm mb sr k N F V L) (o : Obj) : StepSt w0 (w.alloc o) bs sb bn nb bm mb sr k N F V L :=
  ⟨⟨blk_alloc h.seen.var o, Vec.alloc_ h.seen.tab o, fun x hx => Vec.alloc_ (h.seen.row x hx) o, h.seen.inj⟩, IxAt.below h.next ((Below.refl _ w).alloc (Nat.le_refl _) o), blk_alloc h.nvar o, blk_alloc h.mvar o,
    fun b hb hn => (Below.heap_alloc w o b (Nat.lt_of_lt_of_le hb h.size)).trans (h.keep b hb hn), h.bnb, h.bmb, h.os, h.tape, h.output, Nat.le_trans h.size (by simp)⟩
theorem StepSt.drewN {w0 w : World} {bs sb bn nb bm mb : Nat} {sr : Nat → Nat} {k N : Nat} {F : Nat → Nat → Bool} {V : Nat → Value} {L : Nat → List Nat} (h : StepSt w0 w bs sb bn nb bm mb sr k N F V L) (n : Nat) : StepSt w0 (w.drewN n) bs sb bn nb bm mb sr k N F V L :=
  ⟨⟨h.seen.var, h.seen.tab, h.seen.row, h.seen.inj⟩, IxAt.below h.next ⟨rfl, rfl, rfl, Nat.le_refl _, fun _ _ => rfl⟩, h.nvar, h.mvar, h.keep, h.bnb, h.bmb, h.os, h.tape, h.output, h.size⟩
/-- A mark set or taken away. -/
theorem StepSt.mark {w0 w : World} {bs sb bn nb bm mb : Nat} {sr : Nat → Nat} {k N : Nat} {F : Nat → Nat → Bool} {V : Nat → Value} {L : Nat → List Nat} (h : StepSt w0 w bs sb bn nb bm mb sr k N F V L) {x q : Nat} (hx : x < k) (c : Bool) :
    StepSt w0 (w.setCell ⟨sr x, q, none⟩ (.bool c)) bs sb bn nb bm mb sr k N (fun y r => if y = x ∧ r = q then c else F y r) V L := by
  obtain ⟨cur, hcur⟩ := Vec.blk (h.seen.row x hx)
  obtain ⟨ct, hct⟩ := Vec.blk h.seen.tab
  refine ⟨⟨blk_far h.seen.var (a := ⟨sr x, q, none⟩) (fun e => blk_ne h.seen.var hcur (by decide) e) _, Vec.far h.seen.tab (a := ⟨sr x, q, none⟩) (fun e => blk_ne hct hcur (by decide) e) _, fun y hy => ?_, h.seen.inj⟩, IxAt.far h.next (a := ⟨sr x, q, none⟩) hcur (by decide) (by decide) (by decide) (by decide) _,
    blk_far h.nvar (a := ⟨sr x, q, none⟩) (fun e => blk_ne h.nvar hcur (by decide) e) _, blk_far h.mvar (a := ⟨sr x, q, none⟩) (fun e => blk_ne h.mvar hcur (by decide) e) _, fun b hb hn => (Below.heap_setCell w _ _ b (hn x hx)).trans (h.keep b hb hn), h.bnb, h.bmb, h.os, h.tape, h.output, by simpa [World.setCell] using h.size⟩
  by_cases e : y = x
  · subst e
    refine ((h.seen.row y hy).set (i := q) c).congr fun r _ => ?_
    show (if r = q then c else F y r) = (if y = y ∧ r = q then c else F y r)
    by_cases e : r = q <;> simp [e]
  · refine (Vec.far (h.seen.row y hy) (a := ⟨sr x, q, none⟩) (fun e1 => e (h.seen.inj y x hy hx e1)) _).congr fun r _ => ?_
    show F y r = (if y = x ∧ r = q then c else F y r)
    simp [e]
theorem StepSt.push {w0 w w1 : World} {bs sb bn nb bm mb : Nat} {sr : Nat → Nat} {k N : Nat} {F : Nat → Nat → Bool} {V : Nat → Value} {L : Nat → List Nat} (h : StepSt w0 w bs sb bn nb bm mb sr k N F V L) {x q : Nat} (hx : x < k) {v' : Value} (hg : w.grownBy w1 (V x).ownBlock) (hown : w1.ownsRow w0.heap.size 3 1 v' ((L x).length + 1) ((L x).map num ++ [num q]))
    (hat : (V x).ownBlock = v'.ownBlock ∨ ∃ g, v'.ownBlock = some g ∧ w.heap.size ≤ g) : StepSt w0 (w1.setCell ⟨nb, x, none⟩ v') bs sb bn nb bm mb sr k N F (fun y => if y = x then v' else V y) (fun y => if y = x then L x ++ [q] else L y) := by
  have hr := h.next.row hx
  obtain ⟨ct, hct⟩ := Vec.blk h.seen.tab
  obtain ⟨cn, hcn⟩ := Vec.blk h.next.tab
  have hcn1 := blk_grown hcn hg (own_ne hr hcn (by decide))
  have hnb : w0.heap.size ≤ nb := IxAt.tbb h.next 1 rfl
  have key : ∀ {b : Nat} {c : Array Value} {t : TypeId} {f : Nat × Nat}, w.heap[b]? = some (.cells c t f) → t ≠ 3 → t ≠ 67 → (w1.setCell ⟨nb, x, none⟩ v').heap[b]? = some (.cells c t f) := fun hb h1 h2 => by
    have hb1 := blk_grown hb hg (own_ne hr hb h1.symm)
    exact blk_far hb1 (a := ⟨nb, x, none⟩) (fun e => blk_ne hb1 hcn1 h2 e) _
  have keyV : ∀ {α : Type} {en : α → Value} {b : Nat} {t : TypeId} {cp n : Nat} {A : Nat → α}, Vec en w b t cp n A → t ≠ 3 → t ≠ 67 → Vec en (w1.setCell ⟨nb, x, none⟩ v') b t cp n A := fun hv h1 h2 => by
    obtain ⟨cur, hc1, hc2⟩ := hv
    exact ⟨cur, key hc1 h1 h2, hc2⟩
  refine ⟨⟨key h.seen.var (by decide) (by decide), keyV h.seen.tab (by decide) (by decide), fun y hy => keyV (h.seen.row y hy) (by decide) (by decide), h.seen.inj⟩, h.next.push hx hg hown hat, key h.nvar (by decide) (by decide), key h.mvar (by decide) (by decide), fun b hb hn => ?_, h.bnb, h.bmb, ?_, ?_, ?_, ?_⟩
  · have h1 : (w1.setCell ⟨nb, x, none⟩ v').heap[b]? = w1.heap[b]? := Below.heap_setCell w1 _ _ b (fun e => by have e : b = nb := e; omega)
    rw [h1, hg.block b (Nat.lt_of_lt_of_le hb h.size) (fun e => by have := (hr.lt b e.symm).1; omega)]
    exact h.keep b hb hn
  · exact hg.os.trans h.os
  · exact hg.tape.trans h.tape
  · exact hg.output.trans h.output
  · have := hg.size; have := h.size; simp [World.setCell]; omega
/-- When all marks are taken away again, nothing that was there has turned. -/
theorem StepSt.back {w0 w : World} {bs sb bn nb bm mb : Nat} {sr : Nat → Nat} {k N : Nat} {F : Nat → Nat → Bool} {V : Nat → Value} {L : Nat → List Nat} (h : StepSt w0 w bs sb bn nb bm mb sr k N F V L) (h0 : SeenAt w0 bs sb sr k N F) : Below w0.heap.size w0 w := by
  refine ⟨h.os, h.tape, h.output, h.size, fun b hb => ?_⟩
  by_cases e : ∃ x, x < k ∧ b = sr x
  · obtain ⟨x, hx, rfl⟩ := e
    exact Vec.same (h0.row x hx) (h.seen.row x hx)
  · exact h.keep b hb (fun x hx e2 => e ⟨x, hx, e2⟩)
end Nf
end Go.Proofs.Ytnaojfhhjknejaa

/-
  The walks of stepper and of what it hands back: the marks.
-/
set_option linter.unusedVariables false
set_option linter.unusedSimpArgs false
namespace Go.Proofs.Ytnaojfhhjknejaa
open Go.RowKit

set_option maxHeartbeats 1000000 in
set_option maxRecDepth 100000 in
theorem addS_no (w0 w : World) (bs sb bn nb bm mb : Nat) (sr : Nat → Nat) (k N : Nat) (F : Nat → Nat → Bool) (V : Nat → Value) (L : Nat → List Nat) (S : Nat → Prop) (x q : Nat) (h : Nf.StepSt w0 w bs sb bn nb bm mb sr k N F V L) (hM : Nf.BoolsAt w mb N S) (hx : x < k) (hq : q < N) (hk : k ≤ 40) (hN : N ≤ 3000) (hno : ¬ S q ∨ F x q = true) :
    Calls Try.prog 56 #[.int .i64 x, .int .i64 q, .pointer (some ⟨bm, 0, none⟩), .pointer (some ⟨bs, 0, none⟩), .pointer (some ⟨bn, 0, none⟩)] w fun e w' => e = .returned (.tuple #[]) ∧ w = w' := by
  have c0 : w.cell? ⟨bm, 0, none⟩ = some (.slice (some ⟨mb, 0, none⟩) N N) := Nf.blk_cell (i := 0) h.mvar rfl
  have c1 := hM q hq
  have c2 : w.cell? ⟨bs, 0, none⟩ = some (.slice (some ⟨sb, 0, none⟩) k k) := Nf.blk_cell (i := 0) h.seen.var rfl
  have c3 := h.seen.tab.cell hx
  simp only [id] at c3
  have c4 := (h.seen.row x hx).cell hq
  clear h hM
  by_cases hs : S q
  · rw [Nf.bl_true hs] at c1
    have hf := hno.resolve_left (fun h => h hs)
    rw [hf] at c4
    clear hno hs hf
    go_enter Try.func56, Try.ntmps56
    go_wp2_with fail
    go_end0
    exact ⟨rfl, rfl⟩
  · rw [Nf.bl_false hs] at c1
    clear hno hs c2 c3 c4
    go_enter Try.func56, Try.ntmps56
    go_wp2_with fail
    go_end0
    exact ⟨rfl, rfl⟩

/-- A state marked, and put into the next set of a symbol. -/
def Nf.AddPost (w0 : World) (bs sb bn nb bm mb : Nat) (sr : Nat → Nat) (k N : Nat) (F : Nat → Nat → Bool) (L : Nat → List Nat) (x q : Nat) (e : Ending) (w' : World) : Prop :=
  e = .returned (.tuple #[]) ∧ ∃ V, Nf.StepSt w0 w' bs sb bn nb bm mb sr k N (fun y r => if y = x ∧ r = q then true else F y r) V (fun y => if y = x then L x ++ [q] else L y)

set_option maxHeartbeats 2000000 in
set_option maxRecDepth 100000 in
theorem addS_yes (w0 w : World) (bs sb bn nb bm mb : Nat) (sr : Nat → Nat) (k N : Nat) (F : Nat → Nat → Bool) (V : Nat → Value) (L : Nat → List Nat) (S : Nat → Prop) (x q : Nat) (h : Nf.StepSt w0 w bs sb bn nb bm mb sr k N F V L) (hM : Nf.BoolsAt w mb N S) (hx : x < k) (hq : q < N) (hk : k ≤ 40) (hN : N ≤ 3000) (hs : S q) (hf : F x q = false) (hl : (L x).length ≤ N) :
    Calls Try.prog 56 #[.int .i64 x, .int .i64 q, .pointer (some ⟨bm, 0, none⟩), .pointer (some ⟨bs, 0, none⟩), .pointer (some ⟨bn, 0, none⟩)] w (Nf.AddPost w0 bs sb bn nb bm mb sr k N F L x q) := by
  obtain ⟨i0, hi, hiz0, hiz1, hiz2⟩ := info_parts Nf.intInfo
  have c0 : w.cell? ⟨bm, 0, none⟩ = some (.slice (some ⟨mb, 0, none⟩) N N) := Nf.blk_cell (i := 0) h.mvar rfl
  have c1 := hM q hq
  rw [Nf.bl_true hs] at c1
  have c2 : w.cell? ⟨bs, 0, none⟩ = some (.slice (some ⟨sb, 0, none⟩) k k) := Nf.blk_cell (i := 0) h.seen.var rfl
  have c3 := h.seen.tab.cell hx
  simp only [id] at c3
  have c4 := (h.seen.row x hx).cell hq
  rw [hf] at c4
  have f4 := (h.seen.row x hx).free q
  have hst := Sp.hid (h.mark (x := x) (q := q) hx true)
  have Hh := Sp.hid h
  have hx0 : (0 : Int) ≤ (x : Int) := by omega
  have hxk : (x : Int) < (k : Int) := by omega
  clear hs hf hM h
  go_enter Try.func56, Try.ntmps56
  go_wp2_with fail
  obtain ⟨w1, hw1⟩ : ∃ w1, w.setCell ⟨sr x, q, none⟩ (.bool true) = w1 := ⟨_, rfl⟩
  rw [hw1] at hst ⊢
  have k1 : w1.cell? ⟨bn, 0, none⟩ = some (.slice (some ⟨nb, 0, none⟩) k k) := Nf.blk_cell (i := 0) hst.out.nvar rfl
  have k2 : w1.cell? ⟨nb, x, none⟩ = some (V x) := hst.out.next.tab.cell hx
  have hrow := hst.out.next.row hx
  have o1 : (V x).ownBlock ≠ some bn := Nf.own_ne hrow hst.out.nvar (by decide)
  have o2 : (V x).ownBlock ≠ some nb := Nf.own_vec_ne hrow hst.out.next.tab (by decide)
  have l1 := Nf.blk_lt hst.out.nvar
  have l2 := hst.out.next.tab.lt
  have f2 := hst.out.next.tab.free x
  have hHH := hst.out.size
  have hrow2 : ((w1.alloc (.cells #[.int .i64 q] 3)).drew).ownsRow w0.heap.size 3 1 (V x) (L x).length ((L x).map Nf.num) := hrow.alloc _
  have Hrow2 := Sp.hid hrow2
  have Hw1 := Sp.hid hw1
  clear hrow2 hrow hw1 c0 c1 c2 c3 c4 f4
  refine Open.begin (S := fun w' => w'.cell? ⟨bn, 0, none⟩ = some (.slice (some ⟨nb, 0, none⟩) k k) ∧ w'.cell? ⟨nb, x, none⟩ = some (V x)) (z := 10) (by kernel_rfl) ?_
  have HS : w1.drew.cell? ⟨bn, 0, none⟩ = some (.slice (some ⟨nb, 0, none⟩) k k) ∧ w1.drew.cell? ⟨nb, x, none⟩ = some (V x) := ⟨k1, k2⟩
  refine Open.take (i := 0) (v := ?_) rfl (by kernel_rfl) (by kernel_rfl) (by kernel_rfl) (by kernel_rfl) (fun _ _ _ h => h) HS (Or.inl ⟨rfl, ?_⟩) ?_
  rotate_left
  · rintro w' ⟨k1, k2⟩
    go_simp
    try rfl
  simp only [Act.put, List.setIfInBounds_toArray, List.set_cons_zero, List.set_cons_succ]
  refine Open.take (i := 1) (v := ?_) rfl (by kernel_rfl) (by kernel_rfl) (by kernel_rfl) (by kernel_rfl) (fun _ _ _ h => h) HS (Or.inl ⟨rfl, ?_⟩) ?_
  rotate_left
  · rintro w' ⟨k1, k2⟩
    go_simp
    try rfl
  simp only [Act.put, List.setIfInBounds_toArray, List.set_cons_zero, List.set_cons_succ]
  refine Open.take (i := 2) (v := ?_) rfl (by kernel_rfl) (by kernel_rfl) (by kernel_rfl) (by kernel_rfl) (fun _ _ _ h => h) HS (Or.inl ⟨rfl, ?_⟩) ?_
  rotate_left
  · rintro w' ⟨k1, k2⟩
    go_simp
    try rfl
  simp only [Act.put, List.setIfInBounds_toArray, List.set_cons_zero, List.set_cons_succ]
  refine Open.take (i := 3) (v := ?_) rfl (by kernel_rfl) (by kernel_rfl) (by kernel_rfl) (by kernel_rfl) (fun _ _ _ h => h) HS (Or.inl ⟨rfl, ?_⟩) ?_
  rotate_left
  · rintro w' ⟨k1, k2⟩
    go_simp
    try rfl
  simp only [Act.put, List.setIfInBounds_toArray, List.set_cons_zero, List.set_cons_succ]
  refine Open.take (i := 4) (v := ?_) rfl (by kernel_rfl) (by kernel_rfl) (by kernel_rfl) (by kernel_rfl) (fun _ _ _ h => h) HS (Or.inl ⟨rfl, ?_⟩) ?_
  rotate_left
  · rintro w' ⟨k1, k2⟩
    go_simp
    try rfl
  simp only [Act.put, List.setIfInBounds_toArray, List.set_cons_zero, List.set_cons_succ]
  refine Open.take (i := 5) (v := ?_) rfl (by kernel_rfl) (by kernel_rfl) (by kernel_rfl) (by kernel_rfl) (fun _ _ _ h => h) HS (Or.inl ⟨rfl, ?_⟩) ?_
  rotate_left
  · rintro w' ⟨k1, k2⟩
    go_simp
    try rfl
  simp only [Act.put, List.setIfInBounds_toArray, List.set_cons_zero, List.set_cons_succ]
  refine Open.take (i := 6) (v := ?_) rfl (by kernel_rfl) (by kernel_rfl) (by kernel_rfl) (by kernel_rfl) (fun _ _ _ h => h) HS (Or.inl ⟨rfl, ?_⟩) ?_
  rotate_left
  · rintro w' ⟨k1, k2⟩
    go_simp
    try rfl
  simp only [Act.put, List.setIfInBounds_toArray, List.set_cons_zero, List.set_cons_succ]
  refine Open.one (i := 7) rfl (by kernel_rfl) rfl (fun K hK => ?_)
  go_simp
  refine hK _ _ ⟨fun _ => ⟨?_, ?_⟩, ?_⟩
  · simpa [World.cell?_alloc_past _ _ _ l1] using k1
  · simpa [World.cell?_alloc_past _ _ _ l2] using k2
  clear hK K
  refine Open.one (i := 8) rfl (by kernel_rfl) rfl (fun K hK => ?_)
  refine wp_append_lies _ _ _ 67 (by rfl) w0.heap.size 3 i0 _ 1 8 Try.underlying67 hi hiz0 hiz1 hiz2 rfl (by decide) (V x) _ _ (by rfl) Hrow2.out ⟨w1.heap.size, 0, none⟩ 1 1 [.int .i64 q] (by rfl) rfl (World.news_of_block (cs := #[.int .i64 q]) (t := 3) (fr := (0, 0)) (heap_alloc_new w1 _)) (by simp [Value.oneCell']) (by omega) ?_ ?_ ?_ (w1.heap.size + 1) (by simp) ?_
  · unfold maxLen; omega
  · omega
  · simp; omega
  intro g cap w3 hown3 hgrow3 hat3 hlt3
  have hl1 : bn < ((w1.alloc (.cells #[.int .i64 q] 3)).drew).heap.size := by simp; omega
  have hl2 : nb < ((w1.alloc (.cells #[.int .i64 q] 3)).drew).heap.size := by simp; omega
  have m1 : w3.cell? ⟨bn, 0, none⟩ = some (.slice (some ⟨nb, 0, none⟩) k k) := by rw [hgrow3.cell_far ⟨bn, 0, none⟩ hl1 (Ne.symm o1)]; simpa [World.cell?_alloc_past _ _ _ l1] using k1
  have m2 : w3.cell? ⟨nb, x, none⟩ = some (V x) := by rw [hgrow3.cell_far ⟨nb, x, none⟩ hl2 (Ne.symm o2)]; simpa [World.cell?_alloc_past _ _ _ l2] using k2
  have m3 : w3.frozen? ⟨nb, x, none⟩ = false := by rw [hgrow3.frozen_far ⟨nb, x, none⟩ hl2 (Ne.symm o2)]; simpa [World.frozen?_alloc_past _ _ _ l2] using f2
  have hgr : w1.grownBy w3 (V x).ownBlock := World.grownBy.trans (World.grownBy_alloc w1 (.cells #[.int .i64 q] 3) _) ⟨hgrow3.os, hgrow3.tape, hgrow3.output, hgrow3.size, hgrow3.block⟩
  have hat4 : (V x).ownBlock = (Value.slice (some ⟨g, 0, none⟩) ((L x).length + 1) cap).ownBlock ∨ ∃ g', (Value.slice (some ⟨g, 0, none⟩) ((L x).length + 1) cap).ownBlock = some g' ∧ w1.heap.size ≤ g' := by
    rcases hat3 with h3 | h3
    · exact .inl h3
    · exact .inr ⟨g, rfl, by omega⟩
  have Hpush := Sp.hid (hst.out.push (x := x) (q := q) hx hgr hown3 hat4)
  refine hK _ _ ⟨fun _ => ⟨m1, m2⟩, ?_⟩
  clear hK K HS hown3 hgrow3 hat3 hlt3 hl1 hl2 k1 k2 f2 hgr hat4 Hrow2
  have HS : w3.cell? ⟨bn, 0, none⟩ = some (.slice (some ⟨nb, 0, none⟩) k k) ∧ w3.cell? ⟨nb, x, none⟩ = some (V x) := ⟨m1, m2⟩
  refine Open.take (i := 9) (v := ?_) rfl (by kernel_rfl) (by kernel_rfl) (by kernel_rfl) (by kernel_rfl) (fun _ _ _ h => h) HS (Or.inl ⟨rfl, ?_⟩) ?_
  rotate_left
  · rintro w' ⟨k1, k2⟩
    go_simp
    try rfl
  simp only [Act.put, List.setIfInBounds_toArray, List.set_cons_zero, List.set_cons_succ]
  refine Open.one (i := 10) rfl (by kernel_rfl) rfl (fun K hK => ?_)
  go_simp
  refine hK _ _ ⟨fun e => absurd rfl e, ?_⟩
  clear hK K HS m1 m2 m3 o1 o2 l1 l2
  refine Open.end (by kernel_rfl) ?_
  go_wp2_with fail
  go_end0
  exact ⟨rfl, _, Hpush.out⟩

end Go.Proofs.Ytnaojfhhjknejaa
