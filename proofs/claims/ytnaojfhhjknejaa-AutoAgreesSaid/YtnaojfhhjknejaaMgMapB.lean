/-
  Maps of numbers to bools that the call has made, in which just the numbers of a list are, all true: looked up, stored into, ranged over.
-/
import Derived.Test.YtnaojfhhjknejaaMgAuMemAuGrAuNet
import Derived.Maps.RangeWalk
import Derived.Maps.OwnOps
import Derived.DataShut
set_option linter.unusedVariables false
set_option maxRecDepth 100000
namespace Go.Proofs.Ytnaojfhhjknejaa
open Go.RowKit
namespace Nf
theorem intKeyed : Maps.Keyed Try.prog 3 := Maps.int_keyed Try.underlying3
noncomputable def boolEl : Value → Option (DataW Unit × List MemPlace) := plainElem Try.prog 4
theorem boolEl_mk (x : Bool) : boolEl (.bool x) = some (.lit (.bool x), []) := plainElem_bool Try.underlying4 x
theorem boolEl_inv {v : Value} {y : DataW Unit × List MemPlace} (h : boolEl v = some y) : ∃ x, v = .bool x ∧ y = (.lit (.bool x), []) := by
  unfold boolEl plainElem at h
  rw [Try.underlying4] at h
  cases v <;> simp at h
  exact ⟨_, rfl, h.symm⟩
def SetD (D : DataW Unit) (A : List Nat) : Prop := Maps.IsMap D ∧ (∀ kl, Maps.has D kl = true ↔ ∃ q : Nat, q ∈ A ∧ kl = .int .i64 q) ∧ ∀ q : Nat, q ∈ A → ∀ zd, D.atKey (.int .i64 q) zd = .lit (.bool true)
/-- Block b is such a map. -/
def SetMap (w : World) (b : Nat) (A : List Nat) : Prop := ∃ D : DataW Unit, w.ownsMap Try.prog 3 boolEl b A.length D ∧ SetD D A
theorem key_ok {q : Nat} (hq : q ≤ 1000000000) : keyOf Try.prog 3 (.int .i64 q) = some (.int .i64 q) := by
  have e1 : IntKind.i64.min = -9223372036854775808 := by decide
  have e2 : IntKind.i64.max = 9223372036854775807 := by decide
  have hw : (Lit.int .i64 (q : Int)).wf = true := (Lit.wf_int_iff .i64 q).2 (by rw [e1, e2]; omega)
  exact Maps.keyOf_int_mk Try.underlying3 hw
theorem zero_bool (w : World) : (zeroValue 4).run Try.prog w = .ok (.bool false) w := by kernel_rfl
theorem SetMap.kept {w w' : World} {b : Nat} {A : List Nat} (h : SetMap w b A) {row : Option Nat} (hg : w.grownBy w' row) (hne : some b ≠ row) : SetMap w' b A := by
  obtain ⟨D, h1, h2⟩ := h
  exact ⟨D, h1.kept hg hne, h2⟩
theorem SetMap.below {w w' : World} {b : Nat} {A : List Nat} (h : SetMap w b A) (hb : Below w.heap.size w w') : SetMap w' b A :=
  h.kept (row := none) ⟨hb.os, hb.tape, hb.output, hb.size, fun k hk _ => hb.block k hk⟩ (by simp)
theorem SetMap.new (w : World) : SetMap (w.alloc (.map #[] 0)) w.heap.size [] :=
  ⟨.map [], World.ownsMap_made w _ _ _, ⟨Maps.isMap_empty, fun kl => by simp [Maps.has], by simp⟩⟩
theorem SetMap.look {w : World} {b : Nat} {A : List Nat} (h : SetMap w b A) {q : Nat} (hq : q ≤ 1000000000) :
    (Instr.lookup 53 (.map (some b)) (.int .i64 q) false).run Try.prog w = .ok (.bool (decide (q ∈ A))) w := by
  obtain ⟨D, h1, hm, h2, h3⟩ := h
  obtain ⟨v, ps, hrun, hv⟩ := h1.lookup intKeyed Try.underlying53 (zero_bool w) (boolEl_mk false) (key_ok hq)
  obtain ⟨x, rfl, hx⟩ := boolEl_inv hv
  rw [hrun]
  congr 2
  by_cases hA : q ∈ A
  · have := h3 q hA (.lit (.bool false))
    rw [Prod.mk.injEq] at hx
    rw [this] at hx
    simp at hx
    simp [hA, ← hx.1]
  · have hn : Maps.has D (.int .i64 q) = false := by
      cases hh : Maps.has D (.int .i64 q) with
      | false => rfl
      | true =>
        obtain ⟨r, hr, e⟩ := (h2 _).1 hh
        injection e with _ e
        have : q = r := by omega
        subst this
        exact absurd hr hA
    have := Maps.atKey_of_not_has hn (.lit (.bool false))
    rw [Prod.mk.injEq] at hx
    rw [this] at hx
    simp at hx
    simp [hA, ← hx.1]
theorem SetD.put {D : DataW Unit} {A : List Nat} (h : SetD D A) {q : Nat} (hq : q ≤ 1000000000) : SetD (D.put (.int .i64 q) (.lit (.bool true))) (A ++ [q]) := by
  obtain ⟨hm, h2, h3⟩ := h
  have hk : WideAt.IsKeyLit (.int .i64 (q : Int)) := intKeyed.key (key_ok hq)
  refine ⟨hm.put _ _, fun kl => ?_, fun r hr zd => ?_⟩
  · by_cases e : kl = .int .i64 q
    · subst e
      rw [Maps.has_put_same hm hk]
      exact ⟨fun _ => ⟨q, by simp, rfl⟩, fun _ => rfl⟩
    · rw [Maps.has_put_other e, h2]
      constructor
      · rintro ⟨r, hr, rfl⟩; exact ⟨r, by simp [hr], rfl⟩
      · rintro ⟨r, hr, rfl⟩
        rcases List.mem_append.1 hr with hr | hr
        · exact ⟨r, hr, rfl⟩
        · simp at hr; subst hr; exact absurd rfl e
  · by_cases e : r = q
    · subst e; exact Maps.atKey_put_same hm hk _ _
    · have hr' : r ∈ A := by
        rcases List.mem_append.1 hr with hr | hr
        · exact hr
        · simp at hr; exact absurd hr e
      rw [Maps.atKey_put_other (by intro e1; injection e1 with _ e1; omega)]
      exact h3 r hr' zd
/-- 'm[q] = true' at the operation. -/
theorem set_put {w : World} {b : Nat} {A : List Nat} {ops : Array Oper} {rest : List Oper} {o : Oper} {a : Act} {Q : Exit → Act → World → Prop} (hg : o.guard = none) (m x v : Operand) (hop : o.op = Op.mapUpdate 53 m x v)
    (q : Nat) (hm : a.eval m = .map (some b)) (hx : a.eval x = .int .i64 q) (hv : a.eval v = .bool true) (h : SetMap w b A) (hA : A.length ≤ 1000000) (hq : q ≤ 1000000000)
    (hK : ∀ w', SetMap w' b (A ++ [q]) → w.grownBy w' (some b) → wpList Try.prog ops Q rest (a.put o.dst undef) w') : wpList Try.prog ops Q (o :: rest) a w := by
  obtain ⟨D, h1, hD⟩ := h
  refine wpList_mapUpdate_own w hg m x v 53 hop 3 4 intKeyed Try.underlying53 boolEl b A.length D hm h1 (by unfold maxLen; omega) _ _ _ hx hv (key_ok hq) _ [] (boolEl_mk true) (fun w' h1 h2 => hK w' ⟨_, by simpa using h1, hD.put hq⟩ h2)

/-- A range over such a map under way: the numbers of T have come. -/
def SetRng (w : World) (b r : Nat) (T A : List Nat) (cnt : Nat) : Prop := ∃ (D : DataW Unit) (left : Lit → Bool), w.ranges Try.prog 3 boolEl b r A.length D left cnt ∧ SetD D A ∧ ∀ kl, left kl = true ↔ ∃ q : Nat, q ∈ A ∧ q ∉ T ∧ kl = .int .i64 q
theorem SetRng.left_eq {w : World} {b r : Nat} {T A : List Nat} {cnt : Nat} (h : SetRng w b r T A cnt) : w.rangeLeft b r = cnt := by
  obtain ⟨D, left, h1, _⟩ := h; exact h1.left_eq
theorem SetRng.owns {w : World} {b r : Nat} {T A : List Nat} {cnt : Nat} (h : SetRng w b r T A cnt) : SetMap w b A := by
  obtain ⟨D, left, h1, h2, _⟩ := h; exact ⟨D, h1.owns, h2⟩
theorem SetRng.kept {w w' : World} {b r : Nat} {T A : List Nat} {cnt : Nat} (h : SetRng w b r T A cnt) {row : Option Nat} (hg : w.grownBy w' row) (hb : some b ≠ row) (hr : some r ≠ row) : SetRng w' b r T A cnt := by
  obtain ⟨D, left, h1, h2, h3⟩ := h; exact ⟨D, left, h1.kept hg hb hr, h2, h3⟩
theorem set_range {w : World} {b : Nat} {A : List Nat} {ops : Array Oper} {rest : List Oper} {o : Oper} {a : Act} {Q : Exit → Act → World → Prop} (hg : o.guard = none) (m : Operand) (hop : o.op = Op.range 53 m)
    (hm : a.eval m = .map (some b)) (h : SetMap w b A)
    (hK : ∀ w' cnt, SetRng w' b w.heap.size [] A cnt → cnt ≤ A.length → w.grownBy w' none → w'.heap.size = w.heap.size + 1 → wpList Try.prog ops Q rest (a.put o.dst (.pointer (some ⟨w.heap.size, 0, none⟩))) w') : wpList Try.prog ops Q (o :: rest) a w := by
  obtain ⟨D, h1, hD⟩ := h
  refine wpList_range_own w hg m 53 hop 3 4 intKeyed Try.underlying53 boolEl b A.length D hm h1 (fun w' hrg hgr hsz => hK w' _ ⟨D, _, hrg, hD, fun kl => ?_⟩ h1.size_le hgr hsz)
  rw [hD.2.1]
  simp
theorem set_next {w : World} {b r : Nat} {T A : List Nat} {cnt : Nat} {ops : Array Oper} {rest : List Oper} {o : Oper} {a : Act} {Q : Exit → Act → World → Prop} (hg : o.guard = none) (it : Operand) (hop : o.op = Op.next it false)
    (hit : a.eval it = .pointer (some ⟨r, 0, none⟩)) (h : SetRng w b r T A cnt) (hA : ∀ q ∈ A, q ≤ 1000000000)
    (hDone : (∀ q ∈ A, q ∈ T) → wpList Try.prog ops Q rest (a.put o.dst (.tuple #[.bool false])) w)
    (hMore : ∀ (q : Nat) (w' : World) (cnt' : Nat), q ∈ A → q ∉ T → SetRng w' b r (T ++ [q]) A cnt' → cnt' < cnt → w.grownBy w' (some r) → w'.heap.size = w.heap.size →
      (Instr.entry (.pointer (some ⟨r, 0, none⟩))).run Try.prog w' = .ok (.tuple #[.int .i64 q, .bool true]) w' → wpList Try.prog ops Q rest (a.put o.dst (.tuple #[.bool true, .int .i64 q, .bool true])) w') :
    wpList Try.prog ops Q (o :: rest) a w := by
  obtain ⟨D, left, h1, hD, hiff⟩ := h
  refine wpList_next_ranges w hg it hop 3 intKeyed boolEl (Value.int .i64) Value.bool (fun key kl hkey => by obtain ⟨x, rfl, _⟩ := Maps.keyOf_int_inv Try.underlying3 hkey; exact ⟨x, rfl⟩) (fun v y hv => by obtain ⟨x, rfl, _⟩ := boolEl_inv hv; exact ⟨x, rfl⟩)
    b r A.length D left cnt hit h1 (fun hc hl => hDone fun q hq => ?_) (fun x c kl y w' cnt' hkey hlk hv hat hrg hlt hgr hsz hen => ?_)
  · refine Classical.byContradiction fun hn => ?_
    have := (hiff (.int .i64 q)).2 ⟨q, hq, hn, rfl⟩
    rw [hl] at this
    cases this
  · obtain ⟨x', ex, rfl, _⟩ := Maps.keyOf_int_inv Try.underlying3 hkey
    cases ex
    obtain ⟨q, hqA, hqT, e⟩ := (hiff _).1 hlk
    injection e with _ e
    subst e
    obtain ⟨c', ec, rfl⟩ := boolEl_inv hv
    cases ec
    have hc := hat (.lit (.bool false))
    rw [hD.2.2 q hqA] at hc
    simp at hc
    subst hc
    refine hMore q w' cnt' hqA hqT ⟨D, _, hrg, hD, fun z => ?_⟩ hlt hgr hsz hen
    have hkq : WideAt.IsKeyLit (.int .i64 (q : Int)) := intKeyed.key (key_ok (hA q hqA))
    simp only [Bool.and_eq_true, Bool.not_eq_true']
    rw [hiff]
    constructor
    · rintro ⟨⟨p, hp, hpT, rfl⟩, hs⟩
      refine ⟨p, hp, fun hm => ?_, rfl⟩
      rcases List.mem_append.1 hm with hm | hm
      · exact hpT hm
      · simp at hm
        subst hm
        rw [WideAt.sameKey_self hkq] at hs
        cases hs
    · rintro ⟨p, hp, hpT, rfl⟩
      refine ⟨⟨p, hp, fun hm => hpT (List.mem_append_left _ hm), rfl⟩, Maps.sameKey_ne fun e => ?_⟩
      injection e with _ e
      have : p = q := by omega
      exact hpT (List.mem_append_right _ (by simp [this]))

theorem SetMap.uniq {w : World} {b : Nat} {A A' : List Nat} (h : SetMap w b A) (k : SetMap w b A') (q : Nat) : q ∈ A ↔ q ∈ A' := by
  obtain ⟨D, ⟨es, clock, hb, _, _, hD⟩, hm, h2, _⟩ := h
  obtain ⟨D', ⟨es', clock', hb', _, _, hD'⟩, hm', h2', _⟩ := k
  rw [hb] at hb'
  injection hb' with e
  injection e with e1 e2
  subst e1
  rw [← hD'] at hD
  subst hD
  have key : ∀ (l : List Nat), (∃ r : Nat, r ∈ l ∧ Lit.int .i64 (q : Int) = .int .i64 r) ↔ q ∈ l := fun l => by
    constructor
    · rintro ⟨r, hr, e⟩
      injection e with _ e
      have : q = r := by omega
      rwa [this]
    · exact fun hq => ⟨q, hq, rfl⟩
  rw [← key A, ← h2, h2', key]
/-- How many numbers below N the map holds. -/
noncomputable def cntIn (w : World) (b N : Nat) : Nat := (List.range N).countP fun q => bl (∃ A, SetMap w b A ∧ q ∈ A)
theorem cntIn_eq {w : World} {b : Nat} {A : List Nat} (h : SetMap w b A) (N : Nat) : cntIn w b N = (List.range N).countP fun q => bl (q ∈ A) := by
  unfold cntIn
  congr 1
  funext q
  exact bl_congr ⟨fun ⟨A', h', hq⟩ => (h'.uniq h q).1 hq, fun hq => ⟨A, h, hq⟩⟩
theorem cnt_snoc {A : List Nat} : ∀ (N q : Nat), q < N → q ∉ A → ((List.range N).countP fun p => bl (p ∈ A ++ [q])) = ((List.range N).countP fun p => bl (p ∈ A)) + 1
  | 0, q, h, _ => absurd h (by omega)
  | N + 1, q, h, hn => by
    rw [List.range_succ, List.countP_append, List.countP_append, List.countP_singleton, List.countP_singleton]
    by_cases e : q = N
    · subst e
      have h1 : ((List.range q).countP fun p => bl (p ∈ A ++ [q])) = (List.range q).countP fun p => bl (p ∈ A) := by
        apply List.countP_congr
        intro p hp
        have := List.mem_range.1 hp
        rw [bl_iff, bl_iff]
        simp
        omega
      rw [h1, bl_true (show q ∈ A ++ [q] by simp), bl_false hn]
      simp
    · have h1 := cnt_snoc N q (by omega) hn
      have h2 : bl (N ∈ A ++ [q]) = bl (N ∈ A) := bl_congr (by simp; omega)
      rw [h1, h2]
      omega
theorem cnt_le (A : List Nat) (N : Nat) : ((List.range N).countP fun p => bl (p ∈ A)) ≤ N := by
  have := List.countP_le_length (p := fun p => bl (p ∈ A)) (l := List.range N)
  simpa using this
/-- The map's block is no row's. -/
theorem SetMap.ne {w : World} {b base : Nat} {A : List Nat} {e : TypeId} {size n : Nat} {v : Value} {xs : List Value} (h : SetMap w b A) (k : w.ownsRow base e size v n xs) : some b ≠ v.ownBlock := by
  obtain ⟨D, ⟨es, clock, hb, _⟩, _⟩ := h
  rcases k.2 with ⟨rfl, _⟩ | ⟨g, cap, cur, rfl, _, hg, _⟩
  · simp [Value.ownBlock]
  · intro e
    simp [Value.ownBlock] at e
    subst e
    rw [hb] at hg
    injection hg with hg
    cases hg
theorem SetRng.ne {w : World} {b r base : Nat} {T A : List Nat} {cnt : Nat} {e : TypeId} {size n : Nat} {v : Value} {xs : List Value} (h : SetRng w b r T A cnt) (k : w.ownsRow base e size v n xs) : some r ≠ v.ownBlock := by
  obtain ⟨D, left, ⟨es, clock, since, seen, c0, _, _, _, _, hr, _⟩, _⟩ := h
  rcases k.2 with ⟨rfl, _⟩ | ⟨g, cap, cur, rfl, _, hg, _⟩
  · simp [Value.ownBlock]
  · intro e
    simp [Value.ownBlock] at e
    subst e
    rw [hr] at hg
    injection hg with hg
    cases hg
theorem SetRng.alloc {w : World} {b r : Nat} {T A : List Nat} {cnt : Nat} (h : SetRng w b r T A cnt) (o : Obj) : SetRng (w.alloc o) b r T A cnt := h.kept (World.grownBy_alloc w o none) (by simp) (by simp)
end Nf
end Go.Proofs.Ytnaojfhhjknejaa
