/-
  A copy of a row of texts; what may turn while words are listed.
-/
import Derived.Test.YtnaojfhhjknejaaMgAuTAuU
import Derived.Test.YtnaojfhhjknejaaMgSpecL
import Derived.Test.YtnaojfhhjknejaaMgShelf
import Derived.ArgAppend
import Derived.Deep.RegionLaw
set_option linter.unusedVariables false
set_option linter.unusedSimpArgs false
namespace Go.Proofs.Ytnaojfhhjknejaa
open Go.RowKit
namespace Nf
theorem textInfo : (Try.prog.info? 9).map (fun i => (i.zero, i.size, i.bytes)) = some (some (.string ⟨#[]⟩), 1, 16) := by kernel_rfl
theorem rowInfoS : (Try.prog.info? 22).map (fun i => (i.zero, i.size, i.bytes)) = some (some (.slice none 0 0), 1, 24) := by kernel_rfl

/-- A row of texts, and that it lies in a block of texts. -/
def RowT (w : World) (gw : Nat) (x : Lst) : Prop := Sp.Row w x.ao x.n x.l ∧ (0 < x.n → ∃ (a : Addr) (cs : Array Value), x.ao = some a ∧ w.heap[a.block]? = some (Obj.cells cs 9 (0, 0)) ∧ a.block ≠ gw)
def CloneT (l : List ByteArray) (w w' : World) (v : Value) : Prop :=
  ∃ x : Lst, v = x.val ∧ x.l = l ∧ Sp.Row w' x.ao x.n x.l ∧ (0 < x.n → ∃ (a : Addr) (cs : Array Value), x.ao = some a ∧ w'.heap[a.block]? = some (Obj.cells cs 9 (0, 0)) ∧ w.heap.size ≤ a.block) ∧ Below w.heap.size w w'
theorem clone_of_own {w w' : World} {v : Value} {l : List ByteArray} (h : w'.ownsRow w.heap.size 9 1 v l.length (l.map Value.string)) (hs : ∀ s ∈ l, s.size ≤ maxLen) (hm : l.length ≤ maxLen) (hb : Below w.heap.size w w') : CloneT l w w' v := by
  rcases h.2 with ⟨rfl, h0⟩ | ⟨g, cap, cur, rfl, hbb, hg, hc, _, _, ht⟩
  · have : l = [] := List.length_eq_zero_iff.1 h0
    subst this
    exact ⟨⟨none, 0, 0, []⟩, rfl, rfl, ⟨rfl, by decide, fun h => absurd h (by decide), by simp⟩, fun h => absurd h (by simp), hb⟩
  · refine ⟨⟨some ⟨g, 0, none⟩, l.length, cap, l⟩, rfl, rfl, ⟨rfl, hm, fun _ => ⟨g, 0, rfl, fun i hi => ?_⟩, hs⟩, fun _ => ⟨⟨g, 0, none⟩, cur, rfl, hg, hbb⟩, hb⟩
    have hi : i < l.length := hi
    have := h.cells (g := g) rfl i (.string (l.getD i ByteArray.empty)) (by simp [List.getD, hi])
    rwa [plain_add] at this

theorem cloneT_any (ao : Option Addr) (n cap : Nat) (l : List ByteArray) (w : World) (h : Sp.Row w ao n l) (hn : n ≤ 100000) :
    Calls Try.prog 32 #[.slice ao n cap] w fun e w' => ∃ v, e = .returned v ∧ CloneT l w w' v := by
  have hl := h.1
  by_cases h0 : n = 0
  · subst h0
    have hl0 : l = [] := List.length_eq_zero_iff.1 hl
    subst hl0
    cases ao with
    | none =>
      refine (Try.slices_Clone_string_nil 0 cap w).mono ?_
      rintro e w' ⟨rfl, rfl⟩
      exact ⟨_, rfl, ⟨none, 0, 0, []⟩, rfl, rfl, ⟨rfl, by decide, fun h => absurd h (by decide), by simp⟩, fun h => absurd h (by simp), Below.refl _ _⟩
    | some ad =>
      refine (Try.slices_Clone_string_zero ad cap w).mono ?_
      rintro e w' ⟨v, rfl, hown, _, hb⟩
      exact ⟨v, rfl, clone_of_own (l := []) hown (by simp) (by decide) hb⟩
  · obtain ⟨b, off, rfl, hc⟩ := h.2.2.1 (by omega)
    refine (Try.slices_Clone_string b off n cap l w (by omega) (by omega) (fun j hj => hc j (by omega))).mono ?_
    rintro e w' ⟨v, rfl, hown, _, hb⟩
    rw [List.take_of_length_le (by omega), ← hl] at hown
    exact ⟨v, rfl, clone_of_own hown h.2.2.2 (by unfold maxLen; omega) hb⟩

/-- What may turn while words are listed: blocks of texts, of rows of texts, of lists of rows. -/
def KindW (t : TypeId) : Prop := t = 33 ∨ t = 22 ∨ t = 9
structure TF (base : Nat) (w w' : World) : Prop where
  below : Below base w w'
  keep : ∀ (k : Nat) (cs : Array Value) (t : TypeId) (fr : Nat × Nat), w.heap[k]? = some (Obj.cells cs t fr) → ¬ KindW t → w'.heap[k]? = some (Obj.cells cs t fr)
theorem TF.refl (base : Nat) (w : World) : TF base w w := ⟨Below.refl _ _, fun _ _ _ _ h _ => h⟩
theorem TF.trans {base : Nat} {a b c : World} (h : TF base a b) (k : TF base b c) : TF base a c := ⟨h.below.trans k.below, fun i cs t fr hi hn => k.keep i cs t fr (h.keep i cs t fr hi hn) hn⟩
theorem TF.of_below {base : Nat} {a b : World} (h : Below a.heap.size a b) (hB : base ≤ a.heap.size) : TF base a b := ⟨h.mono hB, fun i cs t fr hi _ => blk_below hi h (blk_lt hi)⟩
theorem TF.set {base : Nat} {w : World} {a : Addr} {cs : Array Value} {t : TypeId} {fr : Nat × Nat} (h : w.heap[a.block]? = some (Obj.cells cs t fr)) (hk : KindW t) (hb : base ≤ a.block) (u : Value) : TF base w (w.setCell a u) :=
  ⟨(Below.refl _ w).setCell hb u, fun k cs' t' fr' hk' hn => blk_far hk' (fun e => by subst e; rw [h] at hk'; injection hk' with h1; injection h1 with _ h2 _; subst h2; exact hn hk) u⟩
theorem TF.grown {base : Nat} {w w' : World} {v : Value} {n size : Nat} {e : TypeId} {xs : List Value} (hr : w.ownsRow base e size v n xs) (hk : KindW e) (hg : w.grownBy w' v.ownBlock) (hB : base ≤ w.heap.size) : TF base w w' :=
  ⟨(Below.refl _ w).grown hg hB (fun k hk => (hr.lt k hk).1), fun k cs t fr h hn => blk_grown h hg (own_ne hr h (fun e2 => by subst e2; exact hn hk))⟩

/-- The list of words so far, and the word that is under way. -/
structure LW (w : World) (base cl cw gw len : Nat) (els : List Lst) (lv : Value) (u : List ByteArray) : Prop where
  lvar : w.heap[cl]? = some (.cells #[lv] 33 (0, 0))
  lown : w.ownsRow base 22 1 lv els.length (els.map Lst.val)
  lrow : ∀ x ∈ els, RowT w gw x
  wvar : w.heap[cw]? = some (.cells #[.slice (some ⟨gw, 0, none⟩) u.length len] 22 (0, 0))
  wrow : ∃ cur : Array Value, w.heap[gw]? = some (Obj.cells cur 9 (0, 0)) ∧ cur.size = len ∧ u.length ≤ len ∧ ∀ (i : Nat) (s : ByteArray), u[i]? = some s → cur[i]? = some (Value.string s)
  ssz : ∀ s ∈ u, s.size ≤ maxLen
  ne : lv.ownBlock ≠ some cw
  bcl : base ≤ cl
  bcw : base ≤ cw
  bgw : base ≤ gw
  bw : base ≤ w.heap.size
theorem RowT.keep {w w' : World} {gw : Nat} {x : Lst} (h : RowT w gw x) (hk : ∀ (k : Nat) (cs : Array Value), w.heap[k]? = some (Obj.cells cs 9 (0, 0)) → k ≠ gw → w'.heap[k]? = some (Obj.cells cs 9 (0, 0))) : RowT w' gw x := by
  obtain ⟨⟨h1, h2, h3, h4⟩, h5⟩ := h
  by_cases h0 : 0 < x.n
  · obtain ⟨a, cs, ha, hb, hne⟩ := h5 h0
    have hb' := hk _ _ hb hne
    refine ⟨⟨h1, h2, fun hn => ?_, h4⟩, fun _ => ⟨a, cs, ha, hb', hne⟩⟩
    obtain ⟨b, off, e, hc⟩ := h3 hn
    rw [ha] at e
    injection e with e
    subst e
    exact ⟨b, off, ha, fun i hi => (World.cell?_of_block (a := ⟨b, off + i, none⟩) (hb'.trans hb.symm)).trans (hc i hi)⟩
  · exact ⟨⟨h1, h2, fun h => absurd h h0, h4⟩, fun h => absurd h h0⟩
theorem LW.below {w w' : World} {base cl cw gw len : Nat} {els : List Lst} {lv : Value} {u : List ByteArray} (h : LW w base cl cw gw len els lv u) (hb : Below w.heap.size w w') : LW w' base cl cw gw len els lv u := by
  obtain ⟨cur, h1, h2, h3, h4⟩ := h.wrow
  have hg : w.grownBy w' none := ⟨hb.os, hb.tape, hb.output, hb.size, fun k hk _ => hb.block k hk⟩
  exact ⟨blk_below h.lvar hb (blk_lt h.lvar), h.lown.kept hg (by cases lv.ownBlock <;> simp), fun x hx => (h.lrow x hx).keep fun k cs hk _ => blk_below hk hb (blk_lt hk), blk_below h.wvar hb (blk_lt h.wvar), ⟨cur, blk_below h1 hb (blk_lt h1), h2, h3, h4⟩, h.ssz, h.ne, h.bcl, h.bcw, h.bgw, Nat.le_trans h.bw hb.size⟩
theorem LW.row {w : World} {base cl cw gw len : Nat} {els : List Lst} {lv : Value} {u : List ByteArray} (h : LW w base cl cw gw len els lv u) (hm : u.length ≤ maxLen) : Sp.Row w (some ⟨gw, 0, none⟩) u.length u := by
  obtain ⟨cur, h1, h2, h3, h4⟩ := h.wrow
  refine ⟨rfl, hm, fun _ => ⟨gw, 0, rfl, fun i hi => ?_⟩, h.ssz⟩
  rw [Nat.zero_add]
  exact blk_cell h1 (h4 i _ (by simp [List.getD, hi]))
/-- The word grows by a symbol. -/
theorem LW.more {w : World} {base cl cw gw len : Nat} {els : List Lst} {lv : Value} {u : List ByteArray} {s : ByteArray} (h : LW w base cl cw gw len els lv u) (hl : u.length < len) (hs : s.size ≤ maxLen) :
    LW ((w.setCell ⟨gw, u.length, none⟩ (.string s)).setCell ⟨cw, 0, none⟩ (.slice (some ⟨gw, 0, none⟩) (u.length + 1) len)) base cl cw gw len els lv (u ++ [s]) ∧ TF base w ((w.setCell ⟨gw, u.length, none⟩ (.string s)).setCell ⟨cw, 0, none⟩ (.slice (some ⟨gw, 0, none⟩) (u.length + 1) len)) := by
  obtain ⟨cur, h1, h2, h3, h4⟩ := h.wrow
  have n1 : cl ≠ gw := blk_ne h.lvar h1 (by decide)
  have n2 : cw ≠ gw := blk_ne h.wvar h1 (by decide)
  have n3 : cl ≠ cw := blk_ne h.lvar h.wvar (by decide)
  have n4 : lv.ownBlock ≠ some gw := own_ne h.lown h1 (by decide)
  have a1 := blk_far h.lvar (a := ⟨gw, u.length, none⟩) n1 (.string s)
  have a2 := blk_far h.wvar (a := ⟨gw, u.length, none⟩) n2 (.string s)
  have a3 := blk_set (i := u.length) h1 (.string s)
  have hown := own_far (own_far h.lown (a := ⟨gw, u.length, none⟩) (u := .string s) n4) (a := ⟨cw, 0, none⟩) (u := .slice (some ⟨gw, 0, none⟩) (u.length + 1) len) h.ne
  refine ⟨⟨blk_far a1 (a := ⟨cw, 0, none⟩) n3 _, hown, fun x hx => ((h.lrow x hx).keep fun k cs hk hne => blk_far hk (a := ⟨gw, u.length, none⟩) hne _).keep fun k cs hk hne => blk_far hk (a := ⟨cw, 0, none⟩) (blk_ne hk a2 (by decide)) _, ?_, ⟨_, blk_far a3 (a := ⟨cw, 0, none⟩) n2.symm _, by simpa using h2, by simp; omega, fun i t hi => ?_⟩, fun t ht => ?_, h.ne, h.bcl, h.bcw, h.bgw, by simpa [World.setCell] using h.bw⟩, ?_⟩
  · have := blk_set (i := 0) a2 (.slice (some ⟨gw, 0, none⟩) (u.length + 1) len)
    simpa using this
  · rw [Array.getElem?_setIfInBounds]
    by_cases e : u.length = i
    · subst e
      rw [if_pos rfl, if_pos (by omega)]
      simp at hi; rw [hi]
    · rw [if_neg e]
      rw [List.getElem?_append] at hi
      split at hi
      · exact h4 i t hi
      · rename_i hh
        have : i - u.length ≠ 0 := by omega
        simp [List.getElem?_cons, this] at hi
  · rcases List.mem_append.1 ht with ht | ht
    · exact h.ssz t ht
    · simp at ht; subst ht; exact hs
  · exact (TF.set (a := ⟨gw, u.length, none⟩) h1 (.inr (.inr rfl)) h.bgw _).trans (TF.set (a := ⟨cw, 0, none⟩) a2 (.inr (.inl rfl)) h.bcw _)
/-- .. and shrinks again. -/
theorem LW.less {w : World} {base cl cw gw len : Nat} {els : List Lst} {lv : Value} {u : List ByteArray} {s : ByteArray} (h : LW w base cl cw gw len els lv (u ++ [s])) :
    LW (w.setCell ⟨cw, 0, none⟩ (.slice (some ⟨gw, 0, none⟩) u.length len)) base cl cw gw len els lv u ∧ TF base w (w.setCell ⟨cw, 0, none⟩ (.slice (some ⟨gw, 0, none⟩) u.length len)) := by
  obtain ⟨cur, h1, h2, h3, h4⟩ := h.wrow
  have n2 : cw ≠ gw := blk_ne h.wvar h1 (by decide)
  have n3 : cl ≠ cw := blk_ne h.lvar h.wvar (by decide)
  refine ⟨⟨blk_far h.lvar (a := ⟨cw, 0, none⟩) n3 _, own_far h.lown (a := ⟨cw, 0, none⟩) h.ne, fun x hx => (h.lrow x hx).keep fun k cs hk hne => blk_far hk (a := ⟨cw, 0, none⟩) (blk_ne hk h.wvar (by decide)) _, ?_, ⟨cur, blk_far h1 (a := ⟨cw, 0, none⟩) n2.symm _, h2, by simp at h3; omega, fun i t hi => h4 i t ?_⟩, fun t ht => h.ssz t (by simp [ht]), h.ne, h.bcl, h.bcw, h.bgw, by simpa [World.setCell] using h.bw⟩, TF.set (a := ⟨cw, 0, none⟩) h.wvar (.inr (.inl rfl)) h.bcw _⟩
  · have := blk_set (i := 0) h.wvar (.slice (some ⟨gw, 0, none⟩) u.length len)
    simpa using this
  · rw [List.getElem?_append_left (List.getElem?_eq_some_iff.1 hi).1]; exact hi
/-- The list grows by a word. -/
theorem LW.push {w w3 : World} {base cl cw gw len : Nat} {els : List Lst} {lv lv' : Value} {u : List ByteArray} (h : LW w base cl cw gw len els lv u) {x : Lst} (hx : RowT w gw x) (hg : w.grownBy w3 lv.ownBlock) (hown : w3.ownsRow base 22 1 lv' (els.length + 1) (els.map Lst.val ++ [x.val]))
    (hat : lv.ownBlock = lv'.ownBlock ∨ ∃ g, lv'.ownBlock = some g ∧ w.heap.size ≤ g) : LW (w3.setCell ⟨cl, 0, none⟩ lv') base cl cw gw len (els ++ [x]) lv' u ∧ TF base w (w3.setCell ⟨cl, 0, none⟩ lv') := by
  obtain ⟨cur, h1, h2, h3, h4⟩ := h.wrow
  have n1 : cl ≠ gw := blk_ne h.lvar h1 (by decide)
  have n3 : cl ≠ cw := blk_ne h.lvar h.wvar (by decide)
  have o1 : lv.ownBlock ≠ some cl := own_ne h.lown h.lvar (by decide)
  have a1 := blk_grown h.lvar hg o1
  have a2 := blk_grown h.wvar hg h.ne
  have a3 := blk_grown h1 hg (own_ne h.lown h1 (by decide))
  have o2 : lv'.ownBlock ≠ some cl := own_ne hown a1 (by decide)
  have keepT : ∀ (k : Nat) (cs : Array Value), w.heap[k]? = some (Obj.cells cs 9 (0, 0)) → (w3.setCell ⟨cl, 0, none⟩ lv').heap[k]? = some (Obj.cells cs 9 (0, 0)) := fun k cs hk => by
    have b1 := blk_grown hk hg (own_ne h.lown hk (by decide))
    exact blk_far b1 (a := ⟨cl, 0, none⟩) (blk_ne b1 a1 (by decide)) _
  refine ⟨⟨?_, ?_, fun y hy => ?_, blk_far a2 (a := ⟨cl, 0, none⟩) n3.symm _, ⟨cur, blk_far a3 (a := ⟨cl, 0, none⟩) n1.symm _, h2, h3, h4⟩, h.ssz, ?_, h.bcl, h.bcw, h.bgw, by have := hg.size; have := h.bw; simp [World.setCell]; omega⟩, ?_⟩
  · have := blk_set (i := 0) a1 lv'
    simpa using this
  · have := own_far (u := lv') hown (a := ⟨cl, 0, none⟩) o2
    simpa using this
  · rcases List.mem_append.1 hy with hy | hy
    · exact (h.lrow y hy).keep fun k cs hk _ => keepT k cs hk
    · simp at hy; subst hy
      exact hx.keep fun k cs hk _ => keepT k cs hk
  · rcases hat with hat | ⟨g, hg1, hg2⟩
    · rw [← hat]; exact h.ne
    · rw [hg1]; intro e; injection e with e; have := blk_lt h.wvar; omega
  · exact (TF.grown h.lown (.inr (.inl rfl)) hg h.bw).trans (TF.set (a := ⟨cl, 0, none⟩) a1 (.inl rfl) h.bcl _)
end Nf
end Go.Proofs.Ytnaojfhhjknejaa

/-
  The walk of what takes a word.
-/
set_option linter.unusedVariables false
set_option linter.unusedSimpArgs false
namespace Go.Proofs.Ytnaojfhhjknejaa
open Go.RowKit
namespace Nf
def TakePost (base cl cw gw len most : Nat) (els : List Lst) (u : List ByteArray) (w : World) (e : Ending) (w' : World) : Prop :=
  ∃ (x : Lst) (lv' : Value), e = .returned (.bool (decide (els.length + 1 ≤ most))) ∧ x.l = u ∧ LW w' base cl cw gw len (els ++ [x]) lv' u ∧ TF base w w'
end Nf

set_option maxHeartbeats 2000000 in
set_option maxRecDepth 100000 in
theorem take_any (w : World) (base cl cw gw len cm most : Nat) (els : List Lst) (lv : Value) (u : List ByteArray) (h : Nf.LW w base cl cw gw len els lv u) (hm : w.heap[cm]? = some (.cells #[.int .i64 (most : Int)] 3 (0, 0))) (hlen : len ≤ 60) (hel : els.length ≤ most) (hmost : most ≤ 1000) :
    Calls Try.prog 31 #[.slice (some ⟨gw, 0, none⟩) u.length len, .pointer (some ⟨cl, 0, none⟩), .pointer (some ⟨cm, 0, none⟩)] w (Nf.TakePost base cl cw gw len most els u w) := by
  obtain ⟨i0, hi, hz0, hz1, hz2⟩ := info_parts Nf.rowInfoS
  have hul : u.length ≤ len := h.wrow.choose_spec.2.2.1
  have HC := Sp.hid (Nf.cloneT_any (some ⟨gw, 0, none⟩) u.length len u w.drew (h.row (by unfold maxLen; omega)) (by omega))
  have k1 : w.cell? ⟨cl, 0, none⟩ = some lv := Nf.blk_cell (i := 0) h.lvar rfl
  have Hh := Sp.hid h
  have Hm := Sp.hid hm
  clear h hm
  go_enter Try.func31, Try.ntmps31
  go_wp2_with fail
  refine Open.begin (S := fun w' => w'.cell? ⟨cl, 0, none⟩ = some lv) (z := 5) (by kernel_rfl) ?_
  have HS : w.drew.cell? ⟨cl, 0, none⟩ = some lv := k1
  refine Open.take (i := 0) (v := ?_) rfl (by kernel_rfl) (by kernel_rfl) (by kernel_rfl) (by kernel_rfl) (fun _ _ _ h => h) HS (Or.inl ⟨rfl, ?_⟩) ?_
  rotate_left
  · intro w' k1
    go_simp
    try rfl
  simp only [Act.put, List.setIfInBounds_toArray, List.set_cons_zero, List.set_cons_succ]
  refine Open.take (i := 1) (v := ?_) rfl (by kernel_rfl) (by kernel_rfl) (by kernel_rfl) (by kernel_rfl) (fun _ _ _ h => h) HS (Or.inl ⟨rfl, ?_⟩) ?_
  rotate_left
  · intro w' k1
    go_simp
    try rfl
  simp only [Act.put, List.setIfInBounds_toArray, List.set_cons_zero, List.set_cons_succ]
  refine Open.one (i := 2) rfl (by kernel_rfl) rfl (fun K hK => ?_)
  go_simp
  refine HC.out.mono ?_
  rintro e w2 ⟨v, rfl, x, rfl, hxl, hxr, hxt, hb2⟩
  have hb : Below w.heap.size w w2 := (Below.refl _ w).drew.trans hb2
  have Hb := Sp.hid hb
  have hL2 := Hh.out.below hb
  have m1 : w2.cell? ⟨cl, 0, none⟩ = some lv := Nf.blk_cell (i := 0) hL2.lvar rfl
  refine hK _ _ ⟨fun _ => m1, ?_⟩
  clear hK K HS HC
  have Hxt := Sp.hid hxt
  have Hxr := Sp.hid hxr
  have Hxl := Sp.hid hxl
  have l1 := Nf.blk_lt hL2.lvar
  have o1 : lv.ownBlock ≠ some cl := Nf.own_ne hL2.lown hL2.lvar (by decide)
  have HL2 := Sp.hid hL2
  have hrow2 : ((w2.alloc (.cells #[x.val] 22))).ownsRow base 22 1 lv els.length (els.map Lst.val) := hL2.lown.alloc _
  have Hrow2 := Sp.hid hrow2
  have hbw := hL2.bw
  have f1 := Nf.blk_free (i := 0) hL2.lvar
  obtain ⟨xo, xn, xc, xl⟩ := x
  simp only at Hxt Hxr Hxl
  clear hxt hxr hxl hL2 hrow2 hb hb2
  refine Open.one (i := 3) rfl (by kernel_rfl) rfl (fun K hK => ?_)
  go_simp
  refine hK _ _ ⟨fun _ => ?_, ?_⟩
  · simpa [World.cell?_alloc_past _ _ _ l1] using m1
  clear hK K
  refine Open.one (i := 4) rfl (by kernel_rfl) rfl (fun K hK => ?_)
  refine wp_append_lies _ _ _ 33 (by rfl) base 22 i0 _ 1 24 Try.underlying33 hi hz0 hz1 hz2 rfl (by decide) lv _ _ (by rfl) Hrow2.out ⟨w2.heap.size, 0, none⟩ 1 1 [.slice xo xn xc] (by rfl) rfl (World.news_of_block (cs := #[.slice xo xn xc]) (t := 22) (fr := (0, 0)) (heap_alloc_new w2 _)) (by simp [Value.oneCell']) (by omega) ?_ ?_ ?_ (w2.heap.size + 1) (by simp) ?_
  · unfold maxLen; omega
  · omega
  · simp; omega
  intro g cap w3 hown3 hgrow3 hat3 hlt3
  have hl1 : cl < ((w2.alloc (.cells #[.slice xo xn xc] 22))).heap.size := by simp; omega
  have m2 : w3.cell? ⟨cl, 0, none⟩ = some lv := by rw [hgrow3.cell_far ⟨cl, 0, none⟩ hl1 (Ne.symm o1)]; simpa [World.cell?_alloc_past _ _ _ l1] using m1
  have m3 : w3.frozen? ⟨cl, 0, none⟩ = false := by rw [hgrow3.frozen_far ⟨cl, 0, none⟩ hl1 (Ne.symm o1)]; simpa [World.frozen?_alloc_past _ _ _ l1] using f1
  have hgr : w2.grownBy w3 lv.ownBlock := World.grownBy.trans (World.grownBy_alloc w2 (.cells #[.slice xo xn xc] 22) _) ⟨hgrow3.os, hgrow3.tape, hgrow3.output, hgrow3.size, hgrow3.block⟩
  have hat4 : lv.ownBlock = (Value.slice (some ⟨g, 0, none⟩) (els.length + 1) cap).ownBlock ∨ ∃ g', (Value.slice (some ⟨g, 0, none⟩) (els.length + 1) cap).ownBlock = some g' ∧ w2.heap.size ≤ g' := by
    rcases hat3 with h3 | h3
    · exact .inl h3
    · exact .inr ⟨g, rfl, by omega⟩
  have hgwl := Nf.blk_lt Hh.out.wrow.choose_spec.1
  have hxT : Nf.RowT w2 gw ⟨xo, xn, xc, xl⟩ := ⟨Hxr.out, fun h0 => by
    obtain ⟨a, cs, ha, hb, hc⟩ := Hxt.out h0
    have hc : w.heap.size ≤ a.block := hc
    exact ⟨a, cs, ha, hb, by omega⟩⟩
  have hp := HL2.out.push (x := ⟨xo, xn, xc, xl⟩) hxT hgr hown3 hat4
  have Hp := Sp.hid hp.1
  have Ht := Sp.hid ((Nf.TF.of_below Hb.out Hh.out.bw).trans hp.2)
  refine hK _ _ ⟨fun _ => m2, ?_⟩
  clear hK K hp hxT hat4 hgr hl1 hown3 hgrow3 hat3 hlt3 Hrow2
  have HS : w3.cell? ⟨cl, 0, none⟩ = some lv := m2
  refine Open.one (i := 5) rfl (by kernel_rfl) rfl (fun K hK => ?_)
  go_simp
  refine hK _ _ ⟨fun e => absurd rfl e, ?_⟩
  clear hK K HS m1 m2 m3
  refine Open.end (by kernel_rfl) ?_
  obtain ⟨w4, hw4⟩ : ∃ w4, w3.setCell ⟨cl, 0, none⟩ (.slice (some ⟨g, 0, none⟩) (els.length + 1) cap) = w4 := ⟨_, rfl⟩
  rw [hw4] at Hp Ht ⊢
  have q1 : w4.cell? ⟨cl, 0, none⟩ = some (.slice (some ⟨g, 0, none⟩) (els.length + 1) cap) := Nf.blk_cell (i := 0) Hp.out.lvar rfl
  have q2 : w4.cell? ⟨cm, 0, none⟩ = some (.int .i64 most) := Nf.blk_cell (i := 0) (Ht.out.keep cm _ _ _ Hm.out (by unfold Nf.KindW; decide)) rfl
  clear hw4
  go_wp2_with fail
  go_ret
  refine ⟨⟨xo, xn, xc, xl⟩, _, ?_, Hxl.out, Hp.out, Ht.out⟩
  congr 2
  simp
  omega

end Go.Proofs.Ytnaojfhhjknejaa

/-
  The words of a length, plainly, one symbol behind the other; what stands still while they are listed.
-/
set_option linter.unusedVariables false
namespace Go.Proofs.Ytnaojfhhjknejaa
open Go.RowKit
namespace Nf
open Classical in
/-- The words that go on by one symbol. -/
noncomputable def Hs (g : Gr) (k : Nat) (S : Nat → Prop) (s : ByteArray) : List (List ByteArray) := if ∃ q, StepTo g S s q ∧ Ex g k q then (F g k fun q => StepTo g S s q ∧ Ex g k q).map (s :: ·) else []
noncomputable def Fp (g : Gr) (k : Nat) (S : Nat → Prop) (x : Nat) : List (List ByteArray) := (g.sig.take x).flatMap (Hs g k S)
theorem F_succ (g : Gr) (k : Nat) (S : Nat → Prop) : F g (k + 1) S = g.sig.flatMap (Hs g k S) := rfl
theorem Fp_zero (g : Gr) (k : Nat) (S : Nat → Prop) : Fp g k S 0 = [] := by simp [Fp]
theorem Fp_succ {g : Gr} {k : Nat} {S : Nat → Prop} {x : Nat} {s : ByteArray} (h : g.sig[x]? = some s) : Fp g k S (x + 1) = Fp g k S x ++ Hs g k S s := by
  obtain ⟨h1, h2⟩ := List.getElem?_eq_some_iff.1 h
  unfold Fp
  rw [List.take_succ_eq_append_getElem h1, h2, List.flatMap_append]
  simp
theorem Fp_all {g : Gr} {k : Nat} {S : Nat → Prop} {x : Nat} (h : g.sig.length ≤ x) : Fp g k S x = F g (k + 1) S := by
  rw [F_succ, Fp, List.take_of_length_le h]
theorem Fp_rest (g : Gr) (k : Nat) (S : Nat → Prop) (x : Nat) : ∃ r, F g (k + 1) S = Fp g k S x ++ r := ⟨(g.sig.drop x).flatMap (Hs g k S), by
  rw [F_succ, Fp, ← List.flatMap_append, List.take_append_drop]⟩

theorem star_rs {g : Gr} {k r y : Nat} (h : Star (E g) r y) (hy : Ex g k y) : Star (RS g (Ex g k)) r y := by
  induction h with
  | refl a => exact .refl a
  | step h1 h2 ih => exact .step ⟨h1, Ex.back hy h2⟩ (ih hy)
theorem t2_iff {w : World} {gb : Nat} {v : Gv} {g : Gr} (hG : GrAt w gb v g) {k x : Nat} {s : ByteArray} (hs : g.sig[x]? = some s) (l : List Nat) (y : Nat) : T2 g v (Ex g k) l x y ↔ StepTo g (· ∈ l) s y ∧ Ex g k y := by
  have hinj : ∀ s', g.sig[x]? = some s' → s' = s := fun s' h => by rw [hs] at h; injection h with h; exact h.symm
  constructor
  · rintro ⟨z, ⟨h1, q, h2, h3⟩, h4⟩
    obtain ⟨s', h5, h6⟩ := (hG.mv_iff q x z).1 h3
    rw [hinj s' h5] at h6
    exact ⟨⟨q, z, h2, h6, h4.mono fun a b h => h.1⟩, Star.keeps (P := Ex g k) (fun a b h _ => h.2) h4 h1⟩
  · rintro ⟨⟨p, r, h1, h2, h3⟩, h4⟩
    exact ⟨r, ⟨Ex.back h4 h3, p, h1, (hG.mv_iff p x r).2 ⟨s, hs, h2⟩⟩, star_rs h3 h4⟩
theorem Hs_none {g : Gr} {k : Nat} {S : Nat → Prop} {s : ByteArray} {L : List Nat} (h : ∀ y, y ∈ L ↔ StepTo g S s y ∧ Ex g k y) (h0 : L = []) : Hs g k S s = [] := by
  unfold Hs
  rw [if_neg]
  rintro ⟨q, hq⟩
  have := (h q).2 hq
  rw [h0] at this
  simp at this
theorem Hs_some {g : Gr} {k : Nat} {S : Nat → Prop} {s : ByteArray} {L : List Nat} (h : ∀ y, y ∈ L ↔ StepTo g S s y ∧ Ex g k y) (h0 : L ≠ []) : Hs g k S s = (F g k (· ∈ L)).map (s :: ·) := by
  unfold Hs
  obtain ⟨a, r, rfl⟩ := List.exists_cons_of_ne_nil h0
  rw [if_pos ⟨a, (h a).1 (by simp)⟩]
  congr 1
  exact F_congr fun q => (h q).symm
theorem map_cons (u : List ByteArray) (s : ByteArray) (X : List (List ByteArray)) : X.map ((u ++ [s]) ++ ·) = (X.map (s :: ·)).map (u ++ ·) := by
  rw [List.map_map]
  apply List.map_congr_left
  intro x _
  simp
theorem take_small {α : Type} {X : List α} {m : Nat} (h : (X.take (m + 1)).length ≤ m) : X.take (m + 1) = X := by
  rw [List.length_take] at h
  exact List.take_of_length_le (by omega)
theorem take_large {α : Type} {X r : List α} {m : Nat} (h : ¬ (X.take (m + 1)).length ≤ m) : (X ++ r).take (m + 1) = X.take (m + 1) := by
  rw [List.length_take] at h
  rw [List.take_append_of_le_length (by omega)]

/-- What stands still while the words of a length are listed. -/
structure WcK where
  gb : Nat
  v : Gv
  g : Gr
  cl : Nat
  cw : Nat
  gw : Nat
  len : Nat
  cm : Nat
  most : Nat
  cL : Nat
  ct : Nat
  cs : Nat
  cc : Nat
  cg : Nat
  ck : Nat
  cr : Nat
  ccap : Nat
  bg : Nat
  bs : Nat
  sb : Nat
  sr : Nat → Nat
  cb : Nat → Nat
def WcK.caps (c : WcK) : Array Value := #[.pointer (some ⟨c.cw, 0, none⟩), .pointer (some ⟨c.cL, 0, none⟩), .pointer (some ⟨c.ct, 0, none⟩), .pointer (some ⟨c.cs, 0, none⟩), .pointer (some ⟨c.cc, 0, none⟩), .pointer (some ⟨c.cg, 0, none⟩), .pointer (some ⟨c.ck, 0, none⟩)]
structure Cst (wG w : World) (c : WcK) : Prop where
  below : Below wG.heap.size wG w
  len_ : w.heap[c.cL]? = some (.cells #[.int .i64 (c.len : Int)] 3 (0, 0))
  take : w.heap[c.ct]? = some (.cells #[.func (.func 31) #[] #[.pointer (some ⟨c.cl, 0, none⟩), .pointer (some ⟨c.cm, 0, none⟩)]] 76 (0, 0))
  steps : w.heap[c.cs]? = some (.cells #[.func (.func 55) #[] #[.pointer (some ⟨c.bg, 0, none⟩), .pointer (some ⟨c.bs, 0, none⟩)]] 82 (0, 0))
  can : w.heap[c.cc]? = some (.cells #[.slice (some ⟨c.cr, 0, none⟩) (c.len + 1) c.ccap] 77 (0, 0))
  canr : ∃ cur : Array Value, w.heap[c.cr]? = some (Obj.cells cur 47 (0, 0)) ∧ ∀ i, i ≤ c.len → cur[i]? = some (Value.slice (some ⟨c.cb i, 0, none⟩) c.g.N c.g.N)
  marks : ∀ i, i ≤ c.len → BoolsT w (c.cb i) c.g.N (Ex c.g i)
  gv : w.heap[c.cg]? = some (.cells #[.pointer (some ⟨c.gb, 0, none⟩)] 48 (0, 0))
  walk : w.heap[c.ck]? = some (.cells #[.func (.func 53) #[] c.caps] 102 (0, 0))
  most_ : w.heap[c.cm]? = some (.cells #[.int .i64 (c.most : Int)] 3 (0, 0))
  bgp : w.heap[c.bg]? = some (.cells #[.pointer (some ⟨c.gb, 0, none⟩)] 48 (0, 0))
  seen : SeenAt w c.bs c.sb c.sr c.v.sn c.g.N (fun _ _ => false)
  sep : ∀ i x, i ≤ c.len → x < c.v.sn → c.cb i ≠ c.sr x
  srb : ∀ x, x < c.v.sn → wG.heap.size ≤ c.sr x
theorem BoolsT.tf {base : Nat} {w w' : World} {hb N : Nat} {S : Nat → Prop} (h : BoolsT w hb N S) (k : TF base w w') : BoolsT w' hb N S := by
  obtain ⟨⟨cur, fr, h1⟩, h2⟩ := h
  have h3 := k.keep _ _ _ _ h1 (by unfold KindW; decide)
  exact ⟨⟨cur, fr, h3⟩, fun q hq => (World.cell?_of_block (a := ⟨hb, q, none⟩) (h3.trans h1.symm)).trans (h2 q hq)⟩
theorem Vec.tf {α : Type} {en : α → Value} {base : Nat} {w w' : World} {g : Nat} {e : TypeId} {cap n : Nat} {A : Nat → α} (h : Vec en w g e cap n A) (k : TF base w w') (he : ¬ KindW e) : Vec en w' g e cap n A := by
  obtain ⟨cur, h1, h2⟩ := h
  exact ⟨cur, k.keep _ _ _ _ h1 he, h2⟩
theorem own_tf {base b0 : Nat} {w w' : World} {e : TypeId} {size n : Nat} {v : Value} {xs : List Value} (h : w.ownsRow b0 e size v n xs) (k : TF base w w') (he : ¬ KindW e) : w'.ownsRow b0 e size v n xs := by
  refine ⟨h.1, ?_⟩
  rcases h.2 with h0 | ⟨g, cap, cur, rfl, hb, hg, rest⟩
  · exact .inl h0
  · exact .inr ⟨g, cap, cur, rfl, hb, k.keep _ _ _ _ hg he, rest⟩
theorem NextAt.tf {base b0 : Nat} {w w' : World} {k nb : Nat} {V : Nat → Value} {L : Nat → List Nat} (h : NextAt w b0 k nb V L) (t : TF base w w') : NextAt w' b0 k nb V L :=
  ⟨fun s hs => by subst hs; exact Vec.tf (IxAt.tab h 1 rfl) t (by unfold KindW tty; decide), IxAt.tbb h, IxAt.inj h, fun s i hs hi => by subst hs; exact own_tf (IxAt.row h 1 i rfl hi) t (by unfold KindW ety; decide), IxAt.apart h⟩
theorem Cst.tf {wG w w' : World} {c : WcK} (h : Cst wG w c) (k : TF wG.heap.size w w') : Cst wG w' c := by
  have key : ∀ {b : Nat} {cs : Array Value} {t : TypeId} {fr : Nat × Nat}, w.heap[b]? = some (Obj.cells cs t fr) → ¬ KindW t → w'.heap[b]? = some (Obj.cells cs t fr) := fun hb hn => k.keep _ _ _ _ hb hn
  obtain ⟨cur, hc1, hc2⟩ := h.canr
  exact ⟨h.below.trans k.below, key h.len_ (by unfold KindW; decide), key h.take (by unfold KindW; decide), key h.steps (by unfold KindW; decide), key h.can (by unfold KindW; decide), ⟨cur, key hc1 (by unfold KindW; decide), hc2⟩, fun i hi => (h.marks i hi).tf k, key h.gv (by unfold KindW; decide), key h.walk (by unfold KindW; decide), key h.most_ (by unfold KindW; decide), key h.bgp (by unfold KindW; decide),
    ⟨key h.seen.var (by unfold KindW; decide), Vec.tf h.seen.tab k (by unfold KindW; decide), fun x hx => Vec.tf (h.seen.row x hx) k (by unfold KindW; decide), h.seen.inj⟩, h.sep, h.srb⟩

def WalkPost (wG : World) (c : WcK) (els : List Lst) (u : List ByteArray) (l : List Nat) (rem : Nat) (w : World) (e : Ending) (w' : World) : Prop :=
  ∃ (b : Bool) (els' : List Lst) (lv' : Value) (u' : List ByteArray), e = .returned (.bool b) ∧ (b = true → u' = u) ∧ LW w' wG.heap.size c.cl c.cw c.gw c.len els' lv' u' ∧ TF wG.heap.size w w' ∧
    Sp.lists els' = (Sp.lists els ++ (F c.g rem (· ∈ l)).map (u ++ ·)).take (c.most + 1) ∧ b = decide (els'.length ≤ c.most)
end Nf
end Go.Proofs.Ytnaojfhhjknejaa
