/-
  The reference's words of a length, plainly: from a set, along the symbols that lead on.
-/
import Derived.Test.YtpoblcmjfcpiaaaGreatMgAuClAuVAuWp
import Derived.Test.YtpoblcmjfcpiaaaGreatMgSpecOSpecE
import Derived.Test.YtpoblcmjfcpiaaaGreatMgReSy
import Derived.Test.YtpoblcmjfcpiaaaGreatMgMapBReRaRoM
import Derived.Test.YtpoblcmjfcpiaaaGreatMgAuIxAuReg
import Derived.Test.YtpoblcmjfcpiaaaGreatMgAuX
set_option linter.unusedVariables false
namespace Go.Proofs.YtpoblcmjfcpiaaaGreat
namespace Nf
theorem flatMap_same {α β : Type} {f h : α → List β} : ∀ {l : List α}, (∀ x ∈ l, f x = h x) → l.flatMap f = l.flatMap h
  | [], _ => rfl
  | a :: r, hx => by rw [List.flatMap_cons, List.flatMap_cons, hx a (by simp), flatMap_same fun x hm => hx x (by simp [hm])]
open Classical in
/-- The words of just k symbols that lead from a set to an end. -/
noncomputable def Wk (g : Gr) (k : Nat) (S : Nat → Prop) : List (List ByteArray) := if ∃ q, S q ∧ Ex g k q then F g k (fun q => S q ∧ Ex g k q) else []
theorem Wk_none {g : Gr} {k : Nat} {S : Nat → Prop} (h : ¬ ∃ q, S q ∧ Ex g k q) : Wk g k S = [] := by unfold Wk; rw [if_neg h]
theorem Wk_zero {g : Gr} {S : Nat → Prop} (h : ∃ q, S q ∧ Ex g 0 q) : Wk g 0 S = [[]] := by unfold Wk; rw [if_pos h]; rfl
theorem Wk_succ {g : Gr} {k : Nat} {S : Nat → Prop} (h : ∃ q, S q ∧ Ex g (k + 1) q) : Wk g (k + 1) S = g.sig.flatMap fun s => (Wk g k (StepTo g (fun q => S q ∧ Ex g (k + 1) q) s)).map (s :: ·) := by
  unfold Wk
  rw [if_pos h, F_succ]
  congr 1
  funext s
  unfold Hs
  by_cases h2 : ∃ q, StepTo g (fun q => S q ∧ Ex g (k + 1) q) s q ∧ Ex g k q
  · rw [if_pos h2, if_pos h2]
  · rw [if_neg h2, if_neg h2]; rfl
theorem F_ex {g : Gr} (ok : Ok g) : ∀ (k : Nat) (S : Nat → Prop), F g k S = F g k (fun q => S q ∧ Ex g k q)
  | 0, _ => rfl
  | k + 1, S => by
    rw [F_succ, F_succ]
    refine flatMap_same fun s hs => ?_
    have e : (fun q => StepTo g S s q ∧ Ex g k q) = fun q => StepTo g (fun q => S q ∧ Ex g (k + 1) q) s q ∧ Ex g k q := by
      funext q
      apply propext
      constructor
      · rintro ⟨⟨p, r, h1, h2, h3⟩, h4⟩
        exact ⟨⟨p, r, ⟨h1, p, r, .refl p, ⟨s, ok.full s hs, h2⟩, Ex.back h4 h3⟩, h2, h3⟩, h4⟩
      · rintro ⟨⟨p, r, ⟨h1, _⟩, h2, h3⟩, h4⟩
        exact ⟨⟨p, r, h1, h2, h3⟩, h4⟩
    unfold Hs
    rw [e]
theorem W_Wk {g : Gr} (ok : Ok g) (k : Nat) : W g k = Wk g k (Beg g) := by
  have e : (∃ q, Beg g q ∧ Ex g k q) ↔ Ex g k 0 := by
    constructor
    · rintro ⟨q, ⟨p, hp, h1⟩, h2⟩
      subst hp
      exact Ex.back h2 h1
    · intro h; exact ⟨0, ⟨0, rfl, .refl 0⟩, h⟩
  unfold W Wk
  by_cases h : Ex g k 0
  · rw [if_pos h, if_pos (e.2 h), F_ex ok k (Beg g)]
  · rw [if_neg h, if_neg (fun h2 => h (e.1 h2))]
theorem flatMap_filter_of {α β : Type} (p : α → Bool) (h : α → List β) : ∀ (l : List α), (∀ x ∈ l, p x = false → h x = []) → l.flatMap h = (l.filter p).flatMap h
  | [], _ => rfl
  | a :: r, hx => by
    have ih := flatMap_filter_of p h r (fun x hm => hx x (by simp [hm]))
    rw [List.flatMap_cons, List.filter_cons]
    cases hp : p a with
    | true => simp [ih]
    | false => simp [ih, hx a (by simp) hp]
open Classical in
/-- Along the symbols that lead on, and no others. -/
theorem Wk_syms {g : Gr} (ok : Ok g) {k : Nat} {S : Nat → Prop} {T : List ByteArray} (h : ∃ q, S q ∧ Ex g (k + 1) q) (hT : Sp.Asc T) (hm : ∀ s, s ∈ T ↔ s ≠ eps ∧ ∃ p, (S p ∧ Ex g (k + 1) p) ∧ ∃ q, (p, s, q) ∈ g.arcs) :
    Wk g (k + 1) S = T.flatMap fun s => (Wk g k (StepTo g (fun q => S q ∧ Ex g (k + 1) q) s)).map (s :: ·) := by
  rw [Wk_succ h]
  have e : T = g.sig.filter fun s => decide (s ∈ T) := by
    refine Sp.asc_ext hT (Sp.asc_filter ((Sp.isSet_iff _).1 ok.asc) _) fun x => ?_
    rw [List.mem_filter, decide_eq_true_eq]
    constructor
    · intro hx
      obtain ⟨h0, p, _, q, hq⟩ := (hm x).1 hx
      exact ⟨(ok.sym _ hq).resolve_left h0, hx⟩
    · exact fun hx => hx.2
  conv => rhs; rw [e]
  refine flatMap_filter_of _ _ _ fun s hs hp => ?_
  have hs2 : s ∉ T := by simpa using hp
  rw [Wk_none, List.map_nil]
  rintro ⟨q, ⟨p, r, h1, h2, _⟩, _⟩
  exact hs2 ((hm s).2 ⟨ok.full s hs, p, h1, r, h2⟩)
theorem take_app {α : Type} (A B : List α) (n : Nat) : (A.take n ++ B).take n = (A ++ B).take n := by
  rw [List.take_append, List.take_append, List.take_take, Nat.min_self, List.length_take]
  congr 2
  omega
end Nf
end Go.Proofs.YtpoblcmjfcpiaaaGreat

/-
  The reference's lister in memory: its block, its list of words; what stays while it lists.
-/
set_option linter.unusedVariables false
namespace Go.Proofs.YtpoblcmjfcpiaaaGreat
open Go.RowKit
namespace Nf
def lsCells (eb db N : Nat) (EX : Value) (most : Nat) (lv : Value) : Array Value := #[.int .i64 0, .slice (some ⟨eb, 0, none⟩) N N, .slice (some ⟨db, 0, none⟩) N N, EX, .int .i64 most, lv]
/-- The kinds of blocks that listing changes. -/
def KindL (t : TypeId) : Prop := t = 22 ∨ t = 116
structure TL (base : Nat) (w w' : World) : Prop where
  below : Below base w w'
  keep : ∀ (k : Nat) (cs : Array Value) (t : TypeId) (fr : Nat × Nat), w.heap[k]? = some (Obj.cells cs t fr) → ¬ KindL t → w'.heap[k]? = some (Obj.cells cs t fr)
theorem TL.refl (base : Nat) (w : World) : TL base w w := ⟨Below.refl _ _, fun _ _ _ _ h _ => h⟩
theorem TL.trans {base : Nat} {a b c : World} (h : TL base a b) (k : TL base b c) : TL base a c := ⟨h.below.trans k.below, fun i cs t fr hi hn => k.keep i cs t fr (h.keep i cs t fr hi hn) hn⟩
theorem TL.of_below {base : Nat} {a b : World} (h : Below a.heap.size a b) (hB : base ≤ a.heap.size) : TL base a b := ⟨h.mono hB, fun i cs t fr hi _ => blk_below hi h (blk_lt hi)⟩
theorem TL.set {base : Nat} {w : World} {a : Addr} {cs : Array Value} {t : TypeId} {fr : Nat × Nat} (h : w.heap[a.block]? = some (Obj.cells cs t fr)) (hk : KindL t) (hb : base ≤ a.block) (u : Value) : TL base w (w.setCell a u) :=
  ⟨(Below.refl _ w).setCell hb u, fun k cs' t' fr' hk' hn => blk_far hk' (fun e => by subst e; rw [h] at hk'; injection hk' with h1; injection h1 with _ h2 _; subst h2; exact hn hk) u⟩
theorem TL.grown {base : Nat} {w w' : World} {v : Value} {n size : Nat} {e : TypeId} {xs : List Value} (hr : w.ownsRow base e size v n xs) (hk : KindL e) (hg : w.grownBy w' v.ownBlock) (hB : base ≤ w.heap.size) : TL base w w' :=
  ⟨(Below.refl _ w).grown hg hB (fun k hk => (hr.lt k hk).1), fun k cs t fr h hn => blk_grown h hg (own_ne hr h (fun e2 => by subst e2; exact hn hk))⟩
/-- Rows of other kinds stay. -/
theorem TL.own {base b size n : Nat} {w w' : World} {e : TypeId} {v : Value} {xs : List Value} (k : TL base w w') (h : w.ownsRow b e size v n xs) (hn : ¬ KindL e) : w'.ownsRow b e size v n xs := by
  refine ⟨h.1, ?_⟩
  rcases h.2 with h0 | ⟨g, cap, cur, hv, hbg, hg, hr⟩
  · exact .inl h0
  · exact .inr ⟨g, cap, cur, hv, hbg, k.keep _ _ _ _ hg hn, hr⟩
theorem TL.bools {base hb N : Nat} {w w' : World} {S : Nat → Prop} (k : TL base w w') (h : BoolsT w hb N S) : BoolsT w' hb N S := by
  obtain ⟨⟨cur, fr, h1⟩, h2⟩ := h
  have h3 := k.keep _ _ _ _ h1 (by unfold KindL; decide)
  refine ⟨⟨cur, fr, h3⟩, fun q hq => ?_⟩
  have h4 := h2 q hq
  rw [← h4]
  simp [World.cell?, h1, h3]
structure LsAt (w : World) (base xb eb db N : Nat) (EX : Value) (most : Nat) (els : List Lst) (lv : Value) : Prop where
  xblk : w.heap[xb]? = some (.cells (lsCells eb db N EX most lv) 116 (0, 0))
  lown : w.ownsRow base 22 1 lv els.length (els.map Lst.val)
  lrow : ∀ x ∈ els, RowS w x
  bxb : base ≤ xb
  bw : base ≤ w.heap.size
section
variable {w w' w3 : World} {base xb eb db N most : Nat} {EX : Value} {els : List Lst} {lv lv' : Value}
theorem LsAt.below (h : LsAt w base xb eb db N EX most els lv) (hb : Below w.heap.size w w') : LsAt w' base xb eb db N EX most els lv := by
  have hgr : w.grownBy w' none := ⟨hb.os, hb.tape, hb.output, hb.size, fun k hk _ => hb.block k hk⟩
  exact ⟨blk_below h.xblk hb (blk_lt h.xblk), h.lown.kept hgr (by cases lv.ownBlock <;> simp), fun x hx => (h.lrow x hx).below hb, h.bxb, Nat.le_trans h.bw hb.size⟩
theorem RowS.keep {w w' : World} {x : Lst} (h : RowS w x) (hk : ∀ (k : Nat) (cs : Array Value), w.heap[k]? = some (Obj.cells cs 9 (0, 0)) → w'.heap[k]? = some (Obj.cells cs 9 (0, 0))) : RowS w' x := by
  obtain ⟨h1, h2⟩ := h
  refine ⟨⟨h1.1, h1.2.1, fun hn => ?_, h1.2.2.2⟩, fun hn => ?_⟩
  · obtain ⟨b, off, e, hc⟩ := h1.2.2.1 hn
    obtain ⟨a, cs, e2, h3⟩ := h2 hn
    rw [e] at e2
    cases e2
    have h4 := hk _ _ h3
    refine ⟨b, off, e, fun i hi => ?_⟩
    rw [← hc i hi]
    simp only at h3 h4
    simp [World.cell?, h3, h4]
  · obtain ⟨a, cs, e2, h3⟩ := h2 hn
    exact ⟨a, cs, e2, hk _ _ h3⟩
theorem LsAt.push (h : LsAt w base xb eb db N EX most els lv) {x : Lst} (hx : RowS w x) (hg : w.grownBy w3 lv.ownBlock) (hown : w3.ownsRow base 22 1 lv' (els.length + 1) (els.map Lst.val ++ [x.val])) :
    LsAt (w3.setCell ⟨xb, 5, none⟩ lv') base xb eb db N EX most (els ++ [x]) lv' ∧ TL base w (w3.setCell ⟨xb, 5, none⟩ lv') := by
  have o1 : lv.ownBlock ≠ some xb := own_ne h.lown h.xblk (by decide)
  have a1 := blk_grown h.xblk hg o1
  have o2 : lv'.ownBlock ≠ some xb := own_ne hown a1 (by decide)
  have keepT : ∀ (k : Nat) (cs : Array Value), w.heap[k]? = some (Obj.cells cs 9 (0, 0)) → (w3.setCell ⟨xb, 5, none⟩ lv').heap[k]? = some (Obj.cells cs 9 (0, 0)) := fun k cs hk => by
    have b1 := blk_grown hk hg (own_ne h.lown hk (by decide))
    exact blk_far b1 (a := ⟨xb, 5, none⟩) (blk_ne b1 a1 (by decide)) _
  refine ⟨⟨?_, ?_, fun y hy => ?_, h.bxb, by have := hg.size; have := h.bw; simp [World.setCell]; omega⟩, ?_⟩
  · have := blk_set (i := 5) a1 lv'
    simpa [lsCells] using this
  · have := own_far (u := lv') hown (a := ⟨xb, 5, none⟩) o2
    simpa using this
  · rcases List.mem_append.1 hy with hy | hy
    · exact (h.lrow y hy).keep keepT
    · simp at hy; subst hy
      exact hx.keep keepT
  · exact (TL.grown h.lown (.inl rfl) hg h.bw).trans (TL.set (a := ⟨xb, 5, none⟩) a1 (.inr rfl) h.bxb _)
end
/-- The table of marks: from which states just so many symbols lead to an end. -/
def ExAt (w : World) (tb cap cnt N : Nat) (g : Gr) : Prop :=
  ∃ (b : Nat) (mb cp : Nat → Nat), w.ownsRow b 59 1 (.slice (some ⟨tb, 0, none⟩) cnt cap) cnt ((List.range cnt).map fun i => .slice (some ⟨mb i, 0, none⟩) N (cp i)) ∧ ∀ i, i < cnt → BoolsT w (mb i) N (Ex g i)
theorem ExAt.tl {base tb cap cnt N : Nat} {w w' : World} {g : Gr} (h : ExAt w tb cap cnt N g) (k : TL base w w') : ExAt w' tb cap cnt N g := by
  obtain ⟨b, mb, cp, h1, h2⟩ := h
  exact ⟨b, mb, cp, k.own h1 (by unfold KindL; decide), fun i hi => k.bools (h2 i hi)⟩
theorem ExAt.read {w : World} {tb cap cnt N : Nat} {g : Gr} (h : ExAt w tb cap cnt N g) {i : Nat} (hi : i < cnt) :
    ∃ mb cp, w.cell? ⟨tb, i, none⟩ = some (.slice (some ⟨mb, 0, none⟩) N cp) ∧ BoolsAt w mb N (Ex g i) := by
  obtain ⟨b, mb, cp, h1, h2⟩ := h
  refine ⟨mb i, cp i, ?_, (h2 i hi).2⟩
  have h3 : ((List.range cnt).map fun i => Value.slice (some ⟨mb i, 0, none⟩) N (cp i))[i]? = some (.slice (some ⟨mb i, 0, none⟩) N (cp i)) := by simp [hi]
  have := h1.cells (g := tb) rfl i _ h3
  rw [plain_add] at this
  simpa using this
/-- What the walk leaves: the words so far and those that it found, no more than one too many. -/
def WkPost (base xb eb db N most : Nat) (EX : Value) (els : List Lst) (Wd : List (List ByteArray)) (w : World) (e : Ending) (w' : World) : Prop :=
  e = .returned (.tuple #[]) ∧ ∃ (els' : List Lst) (lv' : Value), Hid (LsAt w' base xb eb db N EX most els' lv') ∧ Hid (TL base w w') ∧ Hid (Sp.lists els' = (Sp.lists els ++ Wd).take (most + 1))
section
variable {P : Program} {ops : Array Oper} {Q : Exit → Act → World → Prop} {md : Region.Mode} {S : World → Prop} {z : Nat}
/-- An operation taken first, where the kind is asked behind all. -/
theorem _root_.Go.Proofs.YtpoblcmjfcpiaaaGreat.Open.earlyN {i : Nat} {o : Oper} {v : Value} (ho : ops[i]? = some o) (hsel : ∀ (j : Nat) (x : Oper) cs b, ops[j]? = some x → x.op ≠ .select cs b) (hQ : ∀ c a w, Q (.panic c) (a.put o.dst v) w → Q (.panic c) a w)
    (hz : ops.size ≤ z) :
    ∀ (n : Nat) (done : Array Bool) (a : Act) (w : World), (∀ j x, ops[j]? = some x → j ≠ i → done.getD j true = false → (∀ e ∈ x.after, Region.binds md e = true → e.on ≠ i) → o.apart ops x = true) →
      i ∈ Region.ready md ops done → YieldsIf P ops S o v a → S w → Open P md ops Q S z n (done.setIfInBounds i true) (a.put o.dst v) w → Open P md ops Q S z (n + 1) done a w
  | 0, done, a, w, _, hr, hy, hS, H => by
    refine ⟨fun e => absurd hr (by rw [e]; simp), fun j hj => ?_⟩
    by_cases e : j = i
    · rw [e]; exact hy.wpOp ho hS ⟨fun _ => hS, H⟩
    · have h1 := ready_mono hj e
      rw [H.1] at h1; cases h1
  | n + 1, done, a, w, hfree, hr, hy, hS, H => by
    refine ⟨fun e => absurd hr (by rw [e]; simp), fun j hj => ?_⟩
    by_cases e : j = i
    · rw [e]; exact hy.wpOp ho hS ⟨fun _ => hS, H⟩
    · obtain ⟨hun, x, hx, hall⟩ := mem_ready.1 hj
      have hi0 := (mem_ready.1 hr).1
      have hjz : j ≠ z := fun ejz => by have := (Array.getElem?_eq_some_iff.1 hx).1; omega
      have hfar : ∀ e ∈ x.after, Region.binds md e = true → e.on ≠ i := by
        intro d hd hb he
        have h1 := hall d hd hb
        rw [he] at h1
        by_cases hlt : i < done.size
        · simp [hlt] at hi0 h1; rw [hi0] at h1; cases h1
        · simp [Array.getElem?_eq_none (Nat.le_of_not_lt hlt)] at h1
      have h2 := wpOp_putIf hx (hfree j x hx e hun hfar) (fun cs b => hsel i o cs b ho) (fun cs b => hsel j x cs b hx) hQ hy (H.2 j (ready_mono hj e))
      refine wpOp_mono (fun a' w' k => ?_) h2
      have hS' : S w' := k.2.1 hjz
      refine ⟨fun _ => hS', Open.earlyN ho hsel hQ hz n _ a' w' (fun m y hy1 hne hun1 hno => hfree m y hy1 hne ?_ hno) (ready_mono hr (Ne.symm e)) k.1 hS' ?_⟩
      · by_cases hm : j = m
        · subst hm; exact hun
        · rw [getD_set_ne true hm] at hun1; exact hun1
      · rw [Array.setIfInBounds_comm _ _ e]
        exact k.2.2
theorem _root_.Go.Proofs.YtpoblcmjfcpiaaaGreat.Open.takeN {i : Nat} {o : Oper} {v : Value} {n : Nat} {done : Array Bool} {a : Act} {w : World} (ho : ops[i]? = some o) (hs : Region.noSelect ops = true) (hf : Region.free md ops done i = true)
    (hr : (Region.ready md ops done).contains i = true) (hz : ops.size ≤ z) (hQ : ∀ c a w, Q (.panic c) (a.put o.dst v) w → Q (.panic c) a w) (hS : S w) (hy : YieldsIf P ops S o v a)
    (h : Open P md ops Q S z n (done.setIfInBounds i true) (a.put o.dst v) w) : Open P md ops Q S z (n + 1) done a w :=
  Open.earlyN ho (Region.noSelect_spec hs) hQ hz n done a w (Region.free_spec ho hf) (by simpa using hr) hy hS h
/-- Several operations may come up: each is looked at. -/
theorem _root_.Go.Proofs.YtpoblcmjfcpiaaaGreat.Open.pick {n : Nat} {done : Array Bool} {a : Act} {w : World} (L : List Nat) (hr : Region.ready md ops done = L) (hne : L ≠ [])
    (h : ∀ i ∈ L, ∀ K : Act → World → Prop, (∀ a' w', ((i ≠ z → S w') ∧ Open P md ops Q S z n (done.setIfInBounds i true) a' w') → K a' w') → ∃ o, ops[i]? = some o ∧ o.guard = none ∧ o.wp P a w K Q) : Open P md ops Q S z (n + 1) done a w := by
  refine ⟨fun e => absurd (hr.symm.trans e) hne, fun i hi => ?_⟩
  rw [hr] at hi
  obtain ⟨o, ho, hg, hw⟩ := h i hi (fun a' w' => (i ≠ z → S w') ∧ Open P md ops Q S z n (done.setIfInBounds i true) a' w') (fun _ _ k => k)
  have hw2 : Region.wanted o (yielded ops a.tmps) = true := by simp [Region.wanted, hg]
  unfold wpOp
  simp only [ho, hw2, if_true]
  exact .inl hw
end
/-- append(nil, a row of texts...). -/
theorem wp_app_row {o : Oper} {a : Act} {w : World} {K : Act → World → Prop} {Q : Exit → Act → World → Prop} (so : Option Addr) (sn scap : Nat) (sig : List ByteArray) (h : Sp.Row w so sn sig) (hr : sn * 16 ≤ 140737488351232)
    (s x : Operand) (ho : o.op = .call { callee := .builtin .append, args := #[s, x], argTypes := #[22, 22] }) (hs : a.eval s = .slice none 0 0) (hx : a.eval x = .slice so sn scap)
    (hK : ∀ so' sn' scap' w6, w6.ownsRow w.heap.size 9 1 (.slice so' sn' scap') sig.length (sig.map Value.string) → Below w.heap.size w w6 → K (a.put o.dst (.slice so' sn' scap')) w6) : o.wp Tryz.prog a w K Q := by
  obtain ⟨so', sn', scap', w6, hrun, hown, hbel⟩ := run_append_row w o.type w.heap.size so sn scap sig h hr (Nat.le_refl _)
  unfold Oper.wp execOp
  simp only [ho, resolve, invoke, builtin, Sem.run_bind, Sem.run_pure, Result.andThen_ok, List.map_toArray, List.map_cons, List.map_nil, hs, hx, hrun]
  exact hK _ _ _ _ hown hbel
end Nf
end Go.Proofs.YtpoblcmjfcpiaaaGreat
