/-
  What lies in memory in package auto: rows of numbers, tables of rows, pools.
-/
import Derived.Test.YtnaojfhhjknejaaRows
import Derived.Test.YtnaojfhhjknejaaMgAuNfaAuFol
import Derived.Test.YtnaojfhhjknejaaMgVec
import Derived.Maps.AppendAt
import Derived.Deep.OwnRows
import Derived.WalkSmall
set_option linter.unusedVariables false
namespace Go.Proofs.Ytnaojfhhjknejaa
open Go.RowKit
namespace Nf

def num (x : Nat) : Value := .int .i64 x
theorem intInfo : (Try.prog.info? 3).map (fun i => (i.zero, i.size, i.bytes)) = some (some (.int .i64 0), 1, 8) := by kernel_rfl
theorem boolInfo : (Try.prog.info? 4).map (fun i => (i.zero, i.size, i.bytes)) = some (some (.bool false), 1, 1) := by kernel_rfl

/-- A slice value over 'ao' of n elements of one cell each holds l. -/
def Seq {α : Type} (en : α → Value) (w : World) (ao : Option Addr) (n : Nat) (l : List α) : Prop :=
  l.length = n ∧ n ≤ maxLen ∧ (0 < n → ∃ b off, ao = some ⟨b, off, none⟩ ∧ ∀ i x, l[i]? = some x → w.cell? ⟨b, off + i, none⟩ = some (en x))

section
variable {α : Type} {en : α → Value} {w w' : World} {ao : Option Addr} {n : Nat} {l : List α}
theorem Seq.at (h : Seq en w ao n l) {k : Nat} (hk : k < n) :
    ∃ b off x, ao = some ⟨b, off, none⟩ ∧ w.cell? ⟨b, off + k, none⟩ = some (en x) ∧ l[k]? = some x ∧ l.take (k + 1) = l.take k ++ [x] := by
  obtain ⟨hl, _, hc⟩ := h
  obtain ⟨b, off, rfl, hcc⟩ := hc (by omega)
  have hkl : k < l.length := by omega
  exact ⟨b, off, l[k], rfl, hcc k _ (by simp [hkl]), by simp [hkl], List.take_succ_eq_append_getElem hkl⟩
theorem Seq.le (h : Seq en w ao n l) : n ≤ 9223372036854775807 := by
  have := h.2.1; unfold maxLen at this; exact this
theorem Seq.below (h : Seq en w ao n l) (hb : Below w.heap.size w w') : Seq en w' ao n l := by
  obtain ⟨hl, hm, hc⟩ := h
  refine ⟨hl, hm, fun hn => ?_⟩
  obtain ⟨b, off, rfl, hcc⟩ := hc hn
  exact ⟨b, off, rfl, fun i x hi => by rw [hb.cell (World.block_lt_of_cell? w _ (hcc i x hi))]; exact hcc i x hi⟩
theorem Seq.nil (en : α → Value) (w : World) : Seq en w none 0 [] := ⟨rfl, by decide, fun h => absurd h (by omega)⟩
/-- The cells lie below B: kept when all below B is. -/
def SeqB (B : Nat) (en : α → Value) (w : World) (ao : Option Addr) (n : Nat) (l : List α) : Prop :=
  Seq en w ao n l ∧ ∀ a, ao = some a → 0 < n → a.block < B
theorem SeqB.below {B : Nat} (h : SeqB B en w ao n l) (hb : Below B w w') : SeqB B en w' ao n l := by
  obtain ⟨⟨hl, hm, hc⟩, h2⟩ := h
  refine ⟨⟨hl, hm, fun hn => ?_⟩, h2⟩
  obtain ⟨b, off, rfl, hcc⟩ := hc hn
  have := h2 _ rfl hn
  exact ⟨b, off, rfl, fun i x hi => by rw [hb.cell (p := ⟨b, off + i, none⟩) this]; exact hcc i x hi⟩
theorem Seq.toB (h : Seq en w ao n l) : SeqB w.heap.size en w ao n l := by
  refine ⟨h, fun a ha hn => ?_⟩
  obtain ⟨b, off, e, hcc⟩ := h.2.2 hn
  rw [e] at ha; cases ha
  have hl := h.1
  have := World.block_lt_of_cell? w _ (hcc 0 (l[0]'(by omega)) (by simp))
  exact this
end

/-- Block B holds N rows of numbers. -/
def TabAt (w : World) (B N : Nat) (R : Nat → List Nat) : Prop :=
  ∀ i, i < N → ∃ ao n cap, w.cell? ⟨B, i, none⟩ = some (.slice ao n cap) ∧ Seq num w ao n (R i) ∧ n ≤ 1000000
theorem TabAt.below {w w' : World} {B N : Nat} {R : Nat → List Nat} (h : TabAt w B N R) (hb : Below w.heap.size w w') : TabAt w' B N R := by
  intro i hi
  obtain ⟨ao, n, cap, h1, h2, h3⟩ := h i hi
  exact ⟨ao, n, cap, by rw [hb.cell (World.block_lt_of_cell? w _ h1)]; exact h1, h2.below hb, h3⟩

/-- A pool at block P, all of it from 'base' on. -/
def PoolAt (w : World) (base P N : Nat) (L : List Nat) : Prop :=
  Pool N L ∧ N ≤ 1000000 ∧ base ≤ P ∧ ∃ hb lv, base ≤ hb ∧ w.heap[P]? = some (.cells #[.slice (some ⟨hb, 0, none⟩) N N, lv] 99 (0, 0)) ∧
    Vec Value.bool w hb 4 N N (fun i => decide (i ∈ L)) ∧ w.ownsRow base 3 1 lv L.length (L.map num)

theorem blk_ne {w : World} {a b : Nat} {c d : Array Value} {s t : TypeId} {f g : Nat × Nat} (h : w.heap[a]? = some (.cells c s f)) (k : w.heap[b]? = some (.cells d t g)) (hne : s ≠ t) : a ≠ b := by
  rintro rfl
  rw [h] at k
  injection k with k
  injection k with _ k _
  exact hne k
theorem plain_add (b off i : Nat) : (⟨b, off, none⟩ : Addr).add i = ⟨b, off + i, none⟩ := by unfold Addr.add; split <;> simp_all
theorem Vec.blk {α : Type} {en : α → Value} {w : World} {g : Nat} {e : TypeId} {cap n : Nat} {A : Nat → α} (h : Vec en w g e cap n A) : ∃ cur, w.heap[g]? = some (.cells cur e (0, 0)) := by
  obtain ⟨cur, h1, _⟩ := h
  exact ⟨cur, h1⟩
theorem own_ne {w : World} {base : Nat} {e : TypeId} {size n : Nat} {v : Value} {xs : List Value} {b : Nat} {c : Array Value} {t : TypeId} {f : Nat × Nat} (h : w.ownsRow base e size v n xs) (k : w.heap[b]? = some (.cells c t f)) (hne : e ≠ t) : v.ownBlock ≠ some b := by
  rcases h.2 with ⟨rfl, _⟩ | ⟨g, cap, cur, rfl, _, hg, _⟩
  · simp [Value.ownBlock]
  · intro e1
    simp [Value.ownBlock] at e1
    exact blk_ne hg k hne e1
theorem blk_cell {w : World} {g i : Nat} {cs : Array Value} {t : TypeId} {f : Nat × Nat} {v : Value} (h : w.heap[g]? = some (.cells cs t f)) (hv : cs[i]? = some v) : w.cell? ⟨g, i, none⟩ = some v := by
  simp [World.cell?, h, hv]
theorem blk_free {w : World} {g i : Nat} {cs : Array Value} {t : TypeId} (h : w.heap[g]? = some (.cells cs t (0, 0))) : w.frozen? ⟨g, i, none⟩ = false := by
  simp [World.frozen?, h]
theorem blk_lt {w : World} {g : Nat} {o : Obj} (h : w.heap[g]? = some o) : g < w.heap.size := (Array.getElem?_eq_some_iff.1 h).1
theorem blk_alloc {w : World} {g : Nat} {o : Obj} (h : w.heap[g]? = some o) (x : Obj) : (w.alloc x).heap[g]? = some o := (Below.heap_alloc w x g (blk_lt h)).trans h
theorem blk_far {w : World} {g : Nat} {o : Obj} (h : w.heap[g]? = some o) {a : Addr} (hne : g ≠ a.block) (v : Value) : (w.setCell a v).heap[g]? = some o := (Below.heap_setCell w a v g hne).trans h
theorem blk_grown {w w' : World} {g : Nat} {o : Obj} (h : w.heap[g]? = some o) {row : Option Nat} (hg : w.grownBy w' row) (hne : row ≠ some g) : w'.heap[g]? = some o := (hg.block g (blk_lt h) (fun e => hne e.symm)).trans h
theorem blk_set {w : World} {g i : Nat} {cs : Array Value} {t : TypeId} {f : Nat × Nat} (h : w.heap[g]? = some (.cells cs t f)) (v : Value) : (w.setCell ⟨g, i, none⟩ v).heap[g]? = some (.cells (cs.setIfInBounds i v) t f) := by
  simp [World.setCell, Array.getElem?_modify, h]
theorem blk_below {w w' : World} {B g : Nat} {o : Obj} (h : w.heap[g]? = some o) (hb : Below B w w') (hg : g < B) : w'.heap[g]? = some o := (hb.block g hg).trans h
theorem Vec.far {α : Type} {en : α → Value} {w : World} {g : Nat} {e : TypeId} {cap n : Nat} {A : Nat → α} (h : Vec en w g e cap n A) {a : Addr} (hne : g ≠ a.block) (v : Value) : Vec en (w.setCell a v) g e cap n A := by
  obtain ⟨cur, h1, h2⟩ := h
  exact ⟨cur, blk_far h1 hne v, h2⟩
theorem Vec.alloc_ {α : Type} {en : α → Value} {w : World} {g : Nat} {e : TypeId} {cap n : Nat} {A : Nat → α} (h : Vec en w g e cap n A) (x : Obj) : Vec en (w.alloc x) g e cap n A := by
  obtain ⟨cur, h1, h2⟩ := h
  exact ⟨cur, blk_alloc h1 x, h2⟩
theorem own_far {w : World} {base : Nat} {e : TypeId} {size n : Nat} {v u : Value} {xs : List Value} (h : w.ownsRow base e size v n xs) {a : Addr} (hne : v.ownBlock ≠ some a.block) : (w.setCell a u).ownsRow base e size v n xs :=
  h.kept (row := some a.block) ⟨rfl, rfl, rfl, by simp [World.setCell], fun k hk hn => Below.heap_setCell _ _ _ _ (fun e => hn (by rw [e]))⟩ (.inr hne)

theorem own_form {w : World} {base : Nat} {e : TypeId} {size n : Nat} {v : Value} {xs : List Value} (h : w.ownsRow base e size v n xs) (hn : 0 < n) : ∃ g cap, v = .slice (some ⟨g, 0, none⟩) n cap := by
  rcases h.2 with ⟨_, h0⟩ | ⟨g, cap, cur, rfl, _⟩
  · omega
  · exact ⟨g, cap, rfl⟩

/-- One number appended to a row of the call's own. -/
theorem push_num {w : World} {ops : Array Oper} {rest : List Oper} {o : Oper} {a : Act} {Q : Exit → Act → World → Prop} (hgd : o.guard = none) (s x : Operand)
    (ho : o.op = .call { callee := .builtin .append, args := #[s, x], argTypes := #[67, 67] })
    (base : Nat) (v : Value) (L : List Nat) (hs : a.eval s = v) (hown : w.ownsRow base 3 1 v L.length (L.map num))
    (q : Nat) (ad : Addr) (c : Nat) (hx : a.eval x = .slice (some ad) 1 c) (hc : w.cell? ad = some (.int .i64 q)) (hbig : L.length ≤ 1000000) (hbase : base ≤ w.heap.size)
    (h : ∀ v' w', w'.ownsRow base 3 1 v' (L ++ [q]).length ((L ++ [q]).map num) → w.grownBy w' v.ownBlock → (v'.ownBlock = v.ownBlock ∨ v'.ownBlock = some w.heap.size) → wpList Try.prog ops Q rest (a.put o.dst v') w') : wpList Try.prog ops Q (o :: rest) a w := by
  obtain ⟨i0, hi, hz0, hz1, hz2⟩ := info_parts intInfo
  have hnews : ∀ j u, ([num q])[j]? = some u → w.cell? (ad.add j) = some u := by
    intro j u hj
    match j, hj with
    | 0, hj =>
      simp at hj; subst hj
      have : ad.add 0 = ad := by unfold Addr.add; obtain ⟨b, o, sp⟩ := ad; cases sp <;> simp
      rw [this]; exact hc
  refine wpList_append_own_at w hgd s x 67 ho base 3 i0 (.int .i64 0) 1 8 Try.underlying67 hi hz0 hz1 hz2 rfl (by decide) v _ _ hs hown ad 1 c [num q] hx rfl hnews (fun u hu => by simp at hu; subst hu; rfl) (by unfold maxLen; omega) (by omega) hbase ?_
  intro v' w' hown' hgrow _ hat
  exact h v' w' (by simpa using hown') hgrow hat

/-- What pools may turn: blocks of pools, of bools and of numbers from 'base' on. -/
def Kind (t : TypeId) : Prop := t = 99 ∨ t = 4 ∨ t = 3
structure PF (base : Nat) (w w' : World) : Prop where
  below : Below base w w'
  keep : ∀ (k : Nat) (cs : Array Value) (t : TypeId) (fr : Nat × Nat), w.heap[k]? = some (Obj.cells cs t fr) → ¬ Kind t → w'.heap[k]? = some (Obj.cells cs t fr)
theorem PF.refl (base : Nat) (w : World) : PF base w w := ⟨Below.refl _ _, fun _ _ _ _ h _ => h⟩
theorem PF.trans {base : Nat} {a b c : World} (h : PF base a b) (k : PF base b c) : PF base a c := ⟨h.below.trans k.below, fun i cs t fr hi hn => k.keep i cs t fr (h.keep i cs t fr hi hn) hn⟩
theorem PF.of_below {base : Nat} {a b : World} (h : Below a.heap.size a b) (hB : base ≤ a.heap.size) : PF base a b := ⟨h.mono hB, fun i cs t fr hi _ => blk_below hi h (blk_lt hi)⟩

/-- A block that pools leave alone. -/
def Safe (base : Nat) (w : World) (k : Nat) : Prop := k < base ∨ ∃ cs t fr, w.heap[k]? = some (.cells cs t fr) ∧ ¬ Kind t
theorem Safe.block {base k : Nat} {w w' : World} (h : Safe base w k) (hp : PF base w w') : w'.heap[k]? = w.heap[k]? := by
  rcases h with h | ⟨cs, t, fr, h, hn⟩
  · exact hp.below.block k h
  · rw [h]; exact hp.keep k cs t fr h hn
theorem Safe.pf {base k : Nat} {w w' : World} (h : Safe base w k) (hp : PF base w w') : Safe base w' k := by
  rcases h with h | ⟨cs, t, fr, h, hn⟩
  · exact .inl h
  · exact .inr ⟨cs, t, fr, hp.keep k cs t fr h hn, hn⟩
theorem Seq.safe {α : Type} {en : α → Value} {w w' : World} {ao : Option Addr} {n base : Nat} {l : List α} (h : Seq en w ao n l) (hs : ∀ a, ao = some a → 0 < n → Safe base w a.block) (hp : PF base w w') : Seq en w' ao n l := by
  obtain ⟨hl, hm, hc⟩ := h
  refine ⟨hl, hm, fun hn => ?_⟩
  obtain ⟨b, off, rfl, hcc⟩ := hc hn
  exact ⟨b, off, rfl, fun i x hi => (World.cell?_of_block (a := ⟨b, off + i, none⟩) ((hs _ rfl hn).block hp)).trans (hcc i x hi)⟩

/-- A row of the call's own, read. -/
theorem seq_of_own {α : Type} {en : α → Value} {w : World} {base : Nat} {e : TypeId} {v : Value} {xs : List α} (h : w.ownsRow base e 1 v xs.length (xs.map en)) (hm : xs.length ≤ maxLen) : ∃ ao cap, v = .slice ao xs.length cap ∧ Seq en w ao xs.length xs ∧ xs.length ≤ cap := by
  rcases h.2 with ⟨rfl, h0⟩ | ⟨g, cap, cur, rfl, hb, hg, hc, _, _, ht⟩
  · exact ⟨none, 0, by rw [h0], ⟨rfl, hm, fun h => by omega⟩, by omega⟩
  · refine ⟨_, cap, rfl, ⟨rfl, hm, fun h0 => ⟨g, 0, rfl, fun i x hi => ?_⟩⟩, hc⟩
    have := h.cells (g := g) rfl i (en x) (by rw [List.getElem?_map, hi]; rfl)
    rwa [plain_add] at this

/-- A table by its block. -/
structure TabV where
  B : Nat
  R : Nat → List Nat
def tabVal (N : Nat) (t : TabV) : Value := .slice (some ⟨t.B, 0, none⟩) N N
def FollowPost (base P N : Nat) (l : List Nat) (ts : List TabV) (w : World) (e : Ending) (w' : World) : Prop :=
  e = .returned (.tuple #[]) ∧ PF base w w' ∧ ∃ L, PoolAt w' base P N L ∧ Fol (ts.map TabV.R) N l L.length L

end Nf
end Go.Proofs.Ytnaojfhhjknejaa

/-
  The graph of package auto in memory.
-/
set_option linter.unusedVariables false
namespace Go.Proofs.Ytnaojfhhjknejaa
open Go.RowKit
namespace Nf

/-- Block hb says of N numbers which are in S. -/
def BoolsAt (w : World) (hb N : Nat) (S : Nat → Prop) : Prop := ∀ q, q < N → w.cell? ⟨hb, q, none⟩ = some (.bool (bl (S q)))
theorem BoolsAt.below {w w' : World} {hb N : Nat} {S : Nat → Prop} (h : BoolsAt w hb N S) (hb' : Below w.heap.size w w') : BoolsAt w' hb N S :=
  fun q hq => by rw [hb'.cell (World.block_lt_of_cell? w _ (h q hq))]; exact h q hq
theorem BoolsAt.congr {w : World} {hb N : Nat} {S T : Nat → Prop} (h : BoolsAt w hb N S) (hst : ∀ q, q < N → (S q ↔ T q)) : BoolsAt w hb N T :=
  fun q hq => by rw [h q hq, bl_congr (hst q hq)]

/-- .. and is a block of bools. -/
def BoolsT (w : World) (hb N : Nat) (S : Nat → Prop) : Prop := (∃ cur fr, w.heap[hb]? = some (Obj.cells cur 4 fr)) ∧ BoolsAt w hb N S
theorem BoolsT.congr {w : World} {hb N : Nat} {S T : Nat → Prop} (h : BoolsT w hb N S) (hst : ∀ q, q < N → (S q ↔ T q)) : BoolsT w hb N T := ⟨h.1, h.2.congr hst⟩
theorem BoolsT.of {w : World} {hb N : Nat} {S : Nat → Prop} {F : Nat → Bool} (h : Vec Value.bool w hb 4 N N F) (k : BoolsAt w hb N S) : BoolsT w hb N S := by
  obtain ⟨cur, h1, _⟩ := h
  exact ⟨⟨cur, _, h1⟩, k⟩

/-- Block mb holds N rows of moves: a symbol's number and a state, two cells each. -/
def MovAt (w : World) (mb N : Nat) (R : Nat → List (Nat × Nat)) : Prop :=
  ∀ i, i < N → ∃ ao cap, w.cell? ⟨mb, i, none⟩ = some (.slice ao (R i).length cap) ∧ (R i).length ≤ 1000000 ∧
    (0 < (R i).length → ∃ b off, ao = some ⟨b, off, none⟩ ∧ ∀ j x, (R i)[j]? = some x → w.cell? ⟨b, off + j * 2, none⟩ = some (num x.1) ∧ w.cell? ⟨b, off + (j * 2 + 1), none⟩ = some (num x.2))
theorem MovAt.below {w w' : World} {mb N : Nat} {R : Nat → List (Nat × Nat)} (h : MovAt w mb N R) (hb : Below w.heap.size w w') : MovAt w' mb N R := by
  intro i hi
  obtain ⟨ao, cap, h1, h2, h3⟩ := h i hi
  refine ⟨ao, cap, by rw [hb.cell (World.block_lt_of_cell? w _ h1)]; exact h1, h2, fun h0 => ?_⟩
  obtain ⟨b, off, e, hc⟩ := h3 h0
  refine ⟨b, off, e, fun j x hx => ?_⟩
  have := hc j x hx
  exact ⟨by rw [hb.cell (World.block_lt_of_cell? w _ this.1)]; exact this.1, by rw [hb.cell (World.block_lt_of_cell? w _ this.2)]; exact this.2⟩

/-- Where a graph's parts lie, and what its rows say. -/
structure Gv where
  so : Option Addr
  sn : Nat
  scap : Nat
  eb : Nat
  mb : Nat
  xb : Nat
  yb : Nat
  zb : Nat
  Mv : Nat → List (Nat × Nat)
  Em : Nat → List Nat
  Bm : Nat → List Nat
  Be : Nat → List Nat
def Gv.cells (v : Gv) (N : Nat) : Array Value :=
  #[.slice v.so v.sn v.scap, .slice (some ⟨v.eb, 0, none⟩) N N, .slice (some ⟨v.mb, 0, none⟩) N N, .slice (some ⟨v.xb, 0, none⟩) N N, .slice (some ⟨v.yb, 0, none⟩) N N, .slice (some ⟨v.zb, 0, none⟩) N N]

structure GrAt (w : World) (gb : Nat) (v : Gv) (g : Gr) : Prop where
  ok : Ok g
  small : g.N ≤ 3000
  blk : w.heap[gb]? = some (.cells (v.cells g.N) 66 (0, 0))
  sig : Sp.Row w v.so v.sn g.sig
  sn : v.sn ≤ 40
  ends : BoolsAt w v.eb g.N (· ∈ g.ends)
  mov : MovAt w v.mb g.N v.Mv
  emp : TabAt w v.xb g.N v.Em
  bmv : TabAt w v.yb g.N v.Bm
  bem : TabAt w v.zb g.N v.Be
  mv_iff : ∀ p x q, (x, q) ∈ v.Mv p ↔ ∃ s, g.sig[x]? = some s ∧ (p, s, q) ∈ g.arcs
  em_iff : ∀ p q, q ∈ v.Em p ↔ E g p q
  bm_iff : ∀ p q, q ∈ v.Bm p ↔ M g q p
  be_iff : ∀ p q, q ∈ v.Be p ↔ E g q p
theorem GrAt.below {w w' : World} {gb : Nat} {v : Gv} {g : Gr} (h : GrAt w gb v g) (hb : Below w.heap.size w w') : GrAt w' gb v g :=
  ⟨h.ok, h.small, blk_below h.blk hb (blk_lt h.blk), h.sig.below hb, h.sn, h.ends.below hb, h.mov.below hb, h.emp.below hb, h.bmv.below hb, h.bem.below hb, h.mv_iff, h.em_iff, h.bm_iff, h.be_iff⟩
theorem GrAt.em_lt {w : World} {gb : Nat} {v : Gv} {g : Gr} (h : GrAt w gb v g) : ∀ p, p < g.N → ∀ q ∈ v.Em p, q < g.N := fun p _ q hq => h.ok.to_ _ ((h.em_iff p q).1 hq)
theorem GrAt.be_lt {w : World} {gb : Nat} {v : Gv} {g : Gr} (h : GrAt w gb v g) : ∀ p, p < g.N → ∀ q ∈ v.Be p, q < g.N := fun p _ q hq => h.ok.from_ _ ((h.be_iff p q).1 hq)
theorem GrAt.bm_lt {w : World} {gb : Nat} {v : Gv} {g : Gr} (h : GrAt w gb v g) : ∀ p, p < g.N → ∀ q ∈ v.Bm p, q < g.N := fun p _ q hq => by
  obtain ⟨s, _, hs⟩ := (h.bm_iff p q).1 hq
  exact h.ok.from_ _ hs

/-- What makes a set of states: a new row of bools. -/
def SetPost (N : Nat) (S : Nat → Prop) (w : World) (e : Ending) (w' : World) : Prop :=
  ∃ hb, e = .returned (.slice (some ⟨hb, 0, none⟩) N N) ∧ BoolsT w' hb N S ∧ Below w.heap.size w w'

/-- A new pool. -/
theorem pool_new (w : World) (N : Nat) (hN : N ≤ 1000000) :
    PoolAt ((w.alloc (.cells (madeCells #[.bool false] N) 4)).alloc (.cells #[.slice (some ⟨w.heap.size, 0, none⟩) N N, .slice none 0 0] 99)) w.heap.size (w.heap.size + 1) N [] := by
  refine ⟨Pool.nil N, hN, by omega, w.heap.size, .slice none 0 0, Nat.le_refl _, ?_, ?_, World.ownsRow_nil _ _ _ _⟩
  · exact heap_alloc2_new w _ _
  · have h := World.rowIs_made w (.bool false) N 4
    obtain ⟨c, h1, h2, h3⟩ := h
    exact ⟨c, blk_alloc h1 _, h2, Nat.le_refl _, by unfold maxLen; omega, fun i hi => by simpa using h3 i hi⟩

theorem PoolAt.alloc {w : World} {base P N : Nat} {L : List Nat} (h : PoolAt w base P N L) (o : Obj) : PoolAt (w.alloc o) base P N L := by
  obtain ⟨hp, hN, hbP, hb, lv, hb1, hP, hv, how⟩ := h
  exact ⟨hp, hN, hbP, hb, lv, hb1, blk_alloc hP o, Nf.Vec.alloc_ hv o, how.alloc o⟩
theorem seq_one {α : Type} (en : α → Value) (w : World) (x : α) (t : TypeId) : Seq en (w.alloc (.cells #[en x] t)) (some ⟨w.heap.size, 0, none⟩) 1 [x] := by
  refine ⟨rfl, by decide, fun _ => ⟨_, _, rfl, fun i y hy => ?_⟩⟩
  match i, hy with
  | 0, hy => simp at hy; subst hy; simp
theorem Below.heap_new (w : World) (o : Obj) : (w.alloc o).heap[w.heap.size]? = some o := by
  show (w.heap.push o)[w.heap.size]? = _
  simp

end Nf
end Go.Proofs.Ytnaojfhhjknejaa

/-
  Nets as they come in: their parts in memory; which are acceptors, plainly.
-/
set_option linter.unusedVariables false
namespace Go.Proofs.Ytnaojfhhjknejaa
open Go.RowKit

structure ArcV where
  f : Int
  i : ByteArray
  o : ByteArray
  t : Int
  c : Int
structure EndV where
  s : Int
  c : Int
instance : Inhabited ArcV := ⟨⟨0, ⟨#[]⟩, ⟨#[]⟩, 0, 0⟩⟩
instance : Inhabited EndV := ⟨⟨0, 0⟩⟩

namespace Nf
def ArcsAt (w : World) (ao : Option Addr) (n : Nat) (l : List ArcV) : Prop :=
  l.length = n ∧ n ≤ 2600000000000 ∧ (0 < n → ∃ b off, ao = some ⟨b, off, none⟩ ∧ ∀ k x, l[k]? = some x →
    w.cell? ⟨b, off + k * 5, none⟩ = some (.int .i64 x.f) ∧ w.cell? ⟨b, off + k * 5 + 1, none⟩ = some (.string x.i) ∧ w.cell? ⟨b, off + k * 5 + 2, none⟩ = some (.string x.o) ∧
    w.cell? ⟨b, off + k * 5 + 3, none⟩ = some (.int .i64 x.t) ∧ w.cell? ⟨b, off + k * 5 + 4, none⟩ = some (.int .i64 x.c)) ∧ ∀ x ∈ l, x.i.size ≤ maxLen ∧ x.o.size ≤ maxLen
def EndsAt (w : World) (ao : Option Addr) (n : Nat) (l : List EndV) : Prop :=
  l.length = n ∧ n ≤ 9000000000000 ∧ (0 < n → ∃ b off, ao = some ⟨b, off, none⟩ ∧ ∀ k x, l[k]? = some x →
    w.cell? ⟨b, off + k * 2, none⟩ = some (.int .i64 x.s) ∧ w.cell? ⟨b, off + k * 2 + 1, none⟩ = some (.int .i64 x.c))
theorem ArcsAt.at {w : World} {ao : Option Addr} {n : Nat} {l : List ArcV} (h : ArcsAt w ao n l) {k : Nat} (hk : k < n) :
    ∃ b off x, ao = some ⟨b, off, none⟩ ∧ (w.cell? ⟨b, off + k * 5, none⟩ = some (.int .i64 x.f) ∧ w.cell? ⟨b, off + k * 5 + 1, none⟩ = some (.string x.i) ∧ w.cell? ⟨b, off + k * 5 + 2, none⟩ = some (.string x.o) ∧
    w.cell? ⟨b, off + k * 5 + 3, none⟩ = some (.int .i64 x.t) ∧ w.cell? ⟨b, off + k * 5 + 4, none⟩ = some (.int .i64 x.c)) ∧ x.i.size ≤ 9223372036854775807 ∧ x.o.size ≤ 9223372036854775807 ∧ l[k]? = some x ∧ l.take (k + 1) = l.take k ++ [x] := by
  obtain ⟨hl, _, hc, hs⟩ := h
  obtain ⟨b, off, rfl, hcc⟩ := hc (by omega)
  have hkl : k < l.length := by omega
  have := hs _ (List.getElem_mem hkl)
  unfold maxLen at this
  exact ⟨b, off, l[k], rfl, hcc k _ (by simp [hkl]), this.1, this.2, by simp [hkl], List.take_succ_eq_append_getElem hkl⟩
theorem EndsAt.at {w : World} {ao : Option Addr} {n : Nat} {l : List EndV} (h : EndsAt w ao n l) {k : Nat} (hk : k < n) :
    ∃ b off x, ao = some ⟨b, off, none⟩ ∧ (w.cell? ⟨b, off + k * 2, none⟩ = some (.int .i64 x.s) ∧ w.cell? ⟨b, off + k * 2 + 1, none⟩ = some (.int .i64 x.c)) ∧ l[k]? = some x ∧ l.take (k + 1) = l.take k ++ [x] := by
  obtain ⟨hl, _, hc⟩ := h
  obtain ⟨b, off, rfl, hcc⟩ := hc (by omega)
  have hkl : k < l.length := by omega
  exact ⟨b, off, l[k], rfl, hcc k _ (by simp [hkl]), by simp [hkl], List.take_succ_eq_append_getElem hkl⟩
theorem ArcsAt.below {w w' : World} {ao : Option Addr} {n : Nat} {l : List ArcV} (h : ArcsAt w ao n l) (hb : Below w.heap.size w w') : ArcsAt w' ao n l := by
  obtain ⟨hl, hm, hc, hs⟩ := h
  refine ⟨hl, hm, fun hn => ?_, hs⟩
  obtain ⟨b, off, rfl, hcc⟩ := hc hn
  have key : ∀ o v, w.cell? ⟨b, o, none⟩ = some v → w'.cell? ⟨b, o, none⟩ = some v := fun o v h => by rw [hb.cell (World.block_lt_of_cell? w _ h)]; exact h
  exact ⟨b, off, rfl, fun k x hx => by
    obtain ⟨h1, h2, h3, h4, h5⟩ := hcc k x hx
    exact ⟨key _ _ h1, key _ _ h2, key _ _ h3, key _ _ h4, key _ _ h5⟩⟩
theorem EndsAt.below {w w' : World} {ao : Option Addr} {n : Nat} {l : List EndV} (h : EndsAt w ao n l) (hb : Below w.heap.size w w') : EndsAt w' ao n l := by
  obtain ⟨hl, hm, hc⟩ := h
  refine ⟨hl, hm, fun hn => ?_⟩
  obtain ⟨b, off, rfl, hcc⟩ := hc hn
  have key : ∀ o v, w.cell? ⟨b, o, none⟩ = some v → w'.cell? ⟨b, o, none⟩ = some v := fun o v h => by rw [hb.cell (World.block_lt_of_cell? w _ h)]; exact h
  exact ⟨b, off, rfl, fun k x hx => by
    obtain ⟨h1, h2⟩ := hcc k x hx
    exact ⟨key _ _ h1, key _ _ h2⟩⟩

/-- A net by value. -/
structure Net where
  so : Option Addr
  sn : Nat
  scap : Nat
  sig : List ByteArray
  st : Int
  ao : Option Addr
  an : Nat
  acap : Nat
  arcs : List ArcV
  eo : Option Addr
  en : Nat
  ecap : Nat
  ends : List EndV
def Net.cells (n : Net) : Array Value := #[.slice n.so n.sn n.scap, .int .i64 n.st, .slice n.ao n.an n.acap, .slice n.eo n.en n.ecap]
def Net.val (n : Net) : Value := .agg n.cells
structure NetAt (w : World) (n : Net) : Prop where
  sig : Sp.Row w n.so n.sn n.sig
  arcs : ArcsAt w n.ao n.an n.arcs
  ends : EndsAt w n.eo n.en n.ends
  lo : -9223372036854775808 ≤ n.st
  hi : n.st ≤ 9223372036854775807
theorem NetAt.below {w w' : World} {n : Net} (h : NetAt w n) (hb : Below w.heap.size w w') : NetAt w' n := ⟨h.sig.below hb, h.arcs.below hb, h.ends.below hb, h.lo, h.hi⟩

/-- What makes a net, an acceptor. -/
def stOk (n : Net) (q : Int) : Bool := decide (0 ≤ q) && decide (q < n.st)
noncomputable def syOk (n : Net) (s : ByteArray) : Bool := bl (s ∈ n.sig) || decide (s.size = 0)
noncomputable def arcOk (n : Net) (a : ArcV) : Bool := stOk n a.f && stOk n a.t && syOk n a.i && syOk n a.o
noncomputable def netOk (n : Net) : Bool := decide (1 ≤ n.st) && n.arcs.all (arcOk n) && n.ends.all (fun d => stOk n d.s)
noncomputable def arcFree (a : ArcV) : Bool := bl (a.o = a.i) && decide (a.c = 0)
noncomputable def accOk (n : Net) : Bool := n.arcs.all arcFree && n.ends.all (fun d => decide (d.c = 0))
noncomputable def errNet (n : Net) : Int :=
  if 3000 < n.st ∨ 60000 < n.arcs.length ∨ 60000 < n.ends.length then 3 else if Sp.errAlpha n.sig ≠ 0 then Sp.errAlpha n.sig else if netOk n = false then 1 else if accOk n = false then 6 else 0

end Nf
end Go.Proofs.Ytnaojfhhjknejaa
