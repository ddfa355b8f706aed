/-
  A copy of a row of texts; what may turn while words are listed.
-/
import Derived.Test.YthpnipkihpoooaaAuU
import Derived.Test.YthpnipkihpoooaaSpecL
import Derived.Test.YthpnipkihpoooaaShelf
import Derived.ArgAppend
import Derived.Deep.RegionLaw
set_option linter.unusedVariables false
set_option linter.unusedSimpArgs false
namespace Go.Proofs.Ythpnipkihpoooaa
open Go.RowKit
namespace Nf
theorem textInfo : (Try.prog.info? 9).map (fun i => (i.zero, i.size, i.bytes)) = some (some (.string ⟨#[]⟩), 1, 16) := by kernel_rfl
theorem rowInfoS : (Try.prog.info? 22).map (fun i => (i.zero, i.size, i.bytes)) = some (some (.slice none 0 0), 1, 24) := by kernel_rfl

/-- A row of texts, and that it lies in a block of texts. -/
def RowT (w : World) (gw : Nat) (x : Lst) : Prop := Sp.Row w x.ao x.n x.l ∧ (0 < x.n → ∃ (a : Addr) (cs : Array Value), x.ao = some a ∧ w.heap[a.block]? = some (Obj.cells cs 9 (0, 0)) ∧ a.block ≠ gw)
def CloneT (l : List ByteArray) (w w' : World) (v : Value) : Prop :=
  ∃ x : Lst, v = x.val ∧ x.l = l ∧ Sp.Row w' x.ao x.n x.l ∧ (0 < x.n → ∃ (a : Addr) (cs : Array Value), x.ao = some a ∧ w'.heap[a.block]? = some (Obj.cells cs 9 (0, 0)) ∧ w.heap.size ≤ a.block) ∧ Below w.heap.size w w'
theorem clone_of_own {w w' : World} {v : Value} {l : List ByteArray} (h : w'.ownsRow w.heap.size 9 1 v l.length (l.map Value.string)) (hs : ∀ s ∈ l, s.size ≤ maxLen) (hm : l.length ≤ maxLen) (hb : Below w.heap.size w w') : CloneT l w w' v := by
  rcases h.2 with ⟨rfl, h0⟩ | ⟨g, cap, cur, rfl, hbb, hg, hc, _, _, ht⟩
  · have : l = [] := List.length_eq_zero_iff.1 h0
    subst this
    exact ⟨⟨none, 0, 0, []⟩, rfl, rfl, ⟨rfl, by decide, fun h => absurd h (by decide), by simp⟩, fun h => absurd h (by simp), hb⟩
  · refine ⟨⟨some ⟨g, 0, none⟩, l.length, cap, l⟩, rfl, rfl, ⟨rfl, hm, fun _ => ⟨g, 0, rfl, fun i hi => ?_⟩, hs⟩, fun _ => ⟨⟨g, 0, none⟩, cur, rfl, hg, hbb⟩, hb⟩
    have hi : i < l.length := hi
    have := h.cells (g := g) rfl i (.string (l.getD i ByteArray.empty)) (by simp [List.getD, hi])
    rwa [plain_add] at this

theorem cloneT_any (ao : Option Addr) (n cap : Nat) (l : List ByteArray) (w : World) (h : Sp.Row w ao n l) (hn : n ≤ 100000) :
    Calls Try.prog 34 #[.slice ao n cap] w fun e w' => ∃ v, e = .returned v ∧ CloneT l w w' v := by
  have hl := h.1
  by_cases h0 : n = 0
  · subst h0
    have hl0 : l = [] := List.length_eq_zero_iff.1 hl
    subst hl0
    cases ao with
    | none =>
      refine (Try.slices_Clone_string_nil 0 cap w).mono ?_
      rintro e w' ⟨rfl, rfl⟩
      exact ⟨_, rfl, ⟨none, 0, 0, []⟩, rfl, rfl, ⟨rfl, by decide, fun h => absurd h (by decide), by simp⟩, fun h => absurd h (by simp), Below.refl _ _⟩
    | some ad =>
      refine (Try.slices_Clone_string_zero ad cap w).mono ?_
      rintro e w' ⟨v, rfl, hown, _, hb⟩
      exact ⟨v, rfl, clone_of_own (l := []) hown (by simp) (by decide) hb⟩
  · obtain ⟨b, off, rfl, hc⟩ := h.2.2.1 (by omega)
    refine (Try.slices_Clone_string b off n cap l w (by omega) (by omega) (fun j hj => hc j (by omega))).mono ?_
    rintro e w' ⟨v, rfl, hown, _, hb⟩
    rw [List.take_of_length_le (by omega), ← hl] at hown
    exact ⟨v, rfl, clone_of_own hown h.2.2.2 (by unfold maxLen; omega) hb⟩

/-- What may turn while words are listed: blocks of texts, of rows of texts, of lists of rows. -/
def KindW (t : TypeId) : Prop := t = 41 ∨ t = 22 ∨ t = 9
structure TF (base : Nat) (w w' : World) : Prop where
  below : Below base w w'
  keep : ∀ (k : Nat) (cs : Array Value) (t : TypeId) (fr : Nat × Nat), w.heap[k]? = some (Obj.cells cs t fr) → ¬ KindW t → w'.heap[k]? = some (Obj.cells cs t fr)
theorem TF.refl (base : Nat) (w : World) : TF base w w := ⟨Below.refl _ _, fun _ _ _ _ h _ => h⟩
theorem TF.trans {base : Nat} {a b c : World} (h : TF base a b) (k : TF base b c) : TF base a c := ⟨h.below.trans k.below, fun i cs t fr hi hn => k.keep i cs t fr (h.keep i cs t fr hi hn) hn⟩
theorem TF.of_below {base : Nat} {a b : World} (h : Below a.heap.size a b) (hB : base ≤ a.heap.size) : TF base a b := ⟨h.mono hB, fun i cs t fr hi _ => blk_below hi h (blk_lt hi)⟩
theorem TF.set {base : Nat} {w : World} {a : Addr} {cs : Array Value} {t : TypeId} {fr : Nat × Nat} (h : w.heap[a.block]? = some (Obj.cells cs t fr)) (hk : KindW t) (hb : base ≤ a.block) (u : Value) : TF base w (w.setCell a u) :=
  ⟨(Below.refl _ w).setCell hb u, fun k cs' t' fr' hk' hn => blk_far hk' (fun e => by subst e; rw [h] at hk'; injection hk' with h1; injection h1 with _ h2 _; subst h2; exact hn hk) u⟩
theorem TF.grown {base : Nat} {w w' : World} {v : Value} {n size : Nat} {e : TypeId} {xs : List Value} (hr : w.ownsRow base e size v n xs) (hk : KindW e) (hg : w.grownBy w' v.ownBlock) (hB : base ≤ w.heap.size) : TF base w w' :=
  ⟨(Below.refl _ w).grown hg hB (fun k hk => (hr.lt k hk).1), fun k cs t fr h hn => blk_grown h hg (own_ne hr h (fun e2 => by subst e2; exact hn hk))⟩

/-- The list of words so far, and the word that is under way. -/
structure LW (w : World) (base cl cw gw len : Nat) (els : List Lst) (lv : Value) (u : List ByteArray) : Prop where
  lvar : w.heap[cl]? = some (.cells #[lv] 41 (0, 0))
  lown : w.ownsRow base 22 1 lv els.length (els.map Lst.val)
  lrow : ∀ x ∈ els, RowT w gw x
  wvar : w.heap[cw]? = some (.cells #[.slice (some ⟨gw, 0, none⟩) u.length len] 22 (0, 0))
  wrow : ∃ cur : Array Value, w.heap[gw]? = some (Obj.cells cur 9 (0, 0)) ∧ cur.size = len ∧ u.length ≤ len ∧ ∀ (i : Nat) (s : ByteArray), u[i]? = some s → cur[i]? = some (Value.string s)
  ssz : ∀ s ∈ u, s.size ≤ maxLen
  ne : lv.ownBlock ≠ some cw
  bcl : base ≤ cl
  bcw : base ≤ cw
  bgw : base ≤ gw
  bw : base ≤ w.heap.size
theorem RowT.keep {w w' : World} {gw : Nat} {x : Lst} (h : RowT w gw x) (hk : ∀ (k : Nat) (cs : Array Value), w.heap[k]? = some (Obj.cells cs 9 (0, 0)) → k ≠ gw → w'.heap[k]? = some (Obj.cells cs 9 (0, 0))) : RowT w' gw x := by
  obtain ⟨⟨h1, h2, h3, h4⟩, h5⟩ := h
  by_cases h0 : 0 < x.n
  · obtain ⟨a, cs, ha, hb, hne⟩ := h5 h0
    have hb' := hk _ _ hb hne
    refine ⟨⟨h1, h2, fun hn => ?_, h4⟩, fun _ => ⟨a, cs, ha, hb', hne⟩⟩
    obtain ⟨b, off, e, hc⟩ := h3 hn
    rw [ha] at e
    injection e with e
    subst e
    exact ⟨b, off, ha, fun i hi => (World.cell?_of_block (a := ⟨b, off + i, none⟩) (hb'.trans hb.symm)).trans (hc i hi)⟩
  · exact ⟨⟨h1, h2, fun h => absurd h h0, h4⟩, fun h => absurd h h0⟩
theorem LW.below {w w' : World} {base cl cw gw len : Nat} {els : List Lst} {lv : Value} {u : List ByteArray} (h : LW w base cl cw gw len els lv u) (hb : Below w.heap.size w w') : LW w' base cl cw gw len els lv u := by
  obtain ⟨cur, h1, h2, h3, h4⟩ := h.wrow
  have hg : w.grownBy w' none := ⟨hb.os, hb.tape, hb.output, hb.size, fun k hk _ => hb.block k hk⟩
  exact ⟨blk_below h.lvar hb (blk_lt h.lvar), h.lown.kept hg (by cases lv.ownBlock <;> simp), fun x hx => (h.lrow x hx).keep fun k cs hk _ => blk_below hk hb (blk_lt hk), blk_below h.wvar hb (blk_lt h.wvar), ⟨cur, blk_below h1 hb (blk_lt h1), h2, h3, h4⟩, h.ssz, h.ne, h.bcl, h.bcw, h.bgw, Nat.le_trans h.bw hb.size⟩
theorem LW.row {w : World} {base cl cw gw len : Nat} {els : List Lst} {lv : Value} {u : List ByteArray} (h : LW w base cl cw gw len els lv u) (hm : u.length ≤ maxLen) : Sp.Row w (some ⟨gw, 0, none⟩) u.length u := by
  obtain ⟨cur, h1, h2, h3, h4⟩ := h.wrow
  refine ⟨rfl, hm, fun _ => ⟨gw, 0, rfl, fun i hi => ?_⟩, h.ssz⟩
  rw [Nat.zero_add]
  exact blk_cell h1 (h4 i _ (by simp [List.getD, hi]))
/-- The word grows by a symbol. -/
theorem LW.more {w : World} {base cl cw gw len : Nat} {els : List Lst} {lv : Value} {u : List ByteArray} {s : ByteArray} (h : LW w base cl cw gw len els lv u) (hl : u.length < len) (hs : s.size ≤ maxLen) :
    LW ((w.setCell ⟨gw, u.length, none⟩ (.string s)).setCell ⟨cw, 0, none⟩ (.slice (some ⟨gw, 0, none⟩) (u.length + 1) len)) base cl cw gw len els lv (u ++ [s]) ∧ TF base w ((w.setCell ⟨gw, u.length, none⟩ (.string s)).setCell ⟨cw, 0, none⟩ (.slice (some ⟨gw, 0, none⟩) (u.length + 1) len)) := by
  obtain ⟨cur, h1, h2, h3, h4⟩ := h.wrow
  have n1 : cl ≠ gw := blk_ne h.lvar h1 (by decide)
  have n2 : cw ≠ gw := blk_ne h.wvar h1 (by decide)
  have n3 : cl ≠ cw := blk_ne h.lvar h.wvar (by decide)
  have n4 : lv.ownBlock ≠ some gw := own_ne h.lown h1 (by decide)
  have a1 := blk_far h.lvar (a := ⟨gw, u.length, none⟩) n1 (.string s)
  have a2 := blk_far h.wvar (a := ⟨gw, u.length, none⟩) n2 (.string s)
  have a3 := blk_set (i := u.length) h1 (.string s)
  have hown := own_far (own_far h.lown (a := ⟨gw, u.length, none⟩) (u := .string s) n4) (a := ⟨cw, 0, none⟩) (u := .slice (some ⟨gw, 0, none⟩) (u.length + 1) len) h.ne
  refine ⟨⟨blk_far a1 (a := ⟨cw, 0, none⟩) n3 _, hown, fun x hx => ((h.lrow x hx).keep fun k cs hk hne => blk_far hk (a := ⟨gw, u.length, none⟩) hne _).keep fun k cs hk hne => blk_far hk (a := ⟨cw, 0, none⟩) (blk_ne hk a2 (by decide)) _, ?_, ⟨_, blk_far a3 (a := ⟨cw, 0, none⟩) n2.symm _, by simpa using h2, by simp; omega, fun i t hi => ?_⟩, fun t ht => ?_, h.ne, h.bcl, h.bcw, h.bgw, by simpa [World.setCell] using h.bw⟩, ?_⟩
  · have := blk_set (i := 0) a2 (.slice (some ⟨gw, 0, none⟩) (u.length + 1) len)
    simpa using this
  · rw [Array.getElem?_setIfInBounds]
    by_cases e : u.length = i
    · subst e
      rw [if_pos rfl, if_pos (by omega)]
      simp at hi; rw [hi]
    · rw [if_neg e]
      rw [List.getElem?_append] at hi
      split at hi
      · exact h4 i t hi
      · rename_i hh
        have : i - u.length ≠ 0 := by omega
        simp [List.getElem?_cons, this] at hi
  · rcases List.mem_append.1 ht with ht | ht
    · exact h.ssz t ht
    · simp at ht; subst ht; exact hs
  · exact (TF.set (a := ⟨gw, u.length, none⟩) h1 (.inr (.inr rfl)) h.bgw _).trans (TF.set (a := ⟨cw, 0, none⟩) a2 (.inr (.inl rfl)) h.bcw _)
/-- .. and shrinks again. -/
theorem LW.less {w : World} {base cl cw gw len : Nat} {els : List Lst} {lv : Value} {u : List ByteArray} {s : ByteArray} (h : LW w base cl cw gw len els lv (u ++ [s])) :
    LW (w.setCell ⟨cw, 0, none⟩ (.slice (some ⟨gw, 0, none⟩) u.length len)) base cl cw gw len els lv u ∧ TF base w (w.setCell ⟨cw, 0, none⟩ (.slice (some ⟨gw, 0, none⟩) u.length len)) := by
  obtain ⟨cur, h1, h2, h3, h4⟩ := h.wrow
  have n2 : cw ≠ gw := blk_ne h.wvar h1 (by decide)
  have n3 : cl ≠ cw := blk_ne h.lvar h.wvar (by decide)
  refine ⟨⟨blk_far h.lvar (a := ⟨cw, 0, none⟩) n3 _, own_far h.lown (a := ⟨cw, 0, none⟩) h.ne, fun x hx => (h.lrow x hx).keep fun k cs hk hne => blk_far hk (a := ⟨cw, 0, none⟩) (blk_ne hk h.wvar (by decide)) _, ?_, ⟨cur, blk_far h1 (a := ⟨cw, 0, none⟩) n2.symm _, h2, by simp at h3; omega, fun i t hi => h4 i t ?_⟩, fun t ht => h.ssz t (by simp [ht]), h.ne, h.bcl, h.bcw, h.bgw, by simpa [World.setCell] using h.bw⟩, TF.set (a := ⟨cw, 0, none⟩) h.wvar (.inr (.inl rfl)) h.bcw _⟩
  · have := blk_set (i := 0) h.wvar (.slice (some ⟨gw, 0, none⟩) u.length len)
    simpa using this
  · rw [List.getElem?_append_left (List.getElem?_eq_some_iff.1 hi).1]; exact hi
/-- The list grows by a word. -/
theorem LW.push {w w3 : World} {base cl cw gw len : Nat} {els : List Lst} {lv lv' : Value} {u : List ByteArray} (h : LW w base cl cw gw len els lv u) {x : Lst} (hx : RowT w gw x) (hg : w.grownBy w3 lv.ownBlock) (hown : w3.ownsRow base 22 1 lv' (els.length + 1) (els.map Lst.val ++ [x.val]))
    (hat : lv.ownBlock = lv'.ownBlock ∨ ∃ g, lv'.ownBlock = some g ∧ w.heap.size ≤ g) : LW (w3.setCell ⟨cl, 0, none⟩ lv') base cl cw gw len (els ++ [x]) lv' u ∧ TF base w (w3.setCell ⟨cl, 0, none⟩ lv') := by
  obtain ⟨cur, h1, h2, h3, h4⟩ := h.wrow
  have n1 : cl ≠ gw := blk_ne h.lvar h1 (by decide)
  have n3 : cl ≠ cw := blk_ne h.lvar h.wvar (by decide)
  have o1 : lv.ownBlock ≠ some cl := own_ne h.lown h.lvar (by decide)
  have a1 := blk_grown h.lvar hg o1
  have a2 := blk_grown h.wvar hg h.ne
  have a3 := blk_grown h1 hg (own_ne h.lown h1 (by decide))
  have o2 : lv'.ownBlock ≠ some cl := own_ne hown a1 (by decide)
  have keepT : ∀ (k : Nat) (cs : Array Value), w.heap[k]? = some (Obj.cells cs 9 (0, 0)) → (w3.setCell ⟨cl, 0, none⟩ lv').heap[k]? = some (Obj.cells cs 9 (0, 0)) := fun k cs hk => by
    have b1 := blk_grown hk hg (own_ne h.lown hk (by decide))
    exact blk_far b1 (a := ⟨cl, 0, none⟩) (blk_ne b1 a1 (by decide)) _
  refine ⟨⟨?_, ?_, fun y hy => ?_, blk_far a2 (a := ⟨cl, 0, none⟩) n3.symm _, ⟨cur, blk_far a3 (a := ⟨cl, 0, none⟩) n1.symm _, h2, h3, h4⟩, h.ssz, ?_, h.bcl, h.bcw, h.bgw, by have := hg.size; have := h.bw; simp [World.setCell]; omega⟩, ?_⟩
  · have := blk_set (i := 0) a1 lv'
    simpa using this
  · have := own_far (u := lv') hown (a := ⟨cl, 0, none⟩) o2
    simpa using this
  · rcases List.mem_append.1 hy with hy | hy
    · exact (h.lrow y hy).keep fun k cs hk _ => keepT k cs hk
    · simp at hy; subst hy
      exact hx.keep fun k cs hk _ => keepT k cs hk
  · rcases hat with hat | ⟨g, hg1, hg2⟩
    · rw [← hat]; exact h.ne
    · rw [hg1]; intro e; injection e with e; have := blk_lt h.wvar; omega
  · exact (TF.grown h.lown (.inr (.inl rfl)) hg h.bw).trans (TF.set (a := ⟨cl, 0, none⟩) a1 (.inl rfl) h.bcl _)
end Nf
end Go.Proofs.Ythpnipkihpoooaa
