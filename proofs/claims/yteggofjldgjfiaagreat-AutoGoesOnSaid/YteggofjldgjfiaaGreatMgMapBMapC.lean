/-
  Maps of numbers to bools that the call has made, in which just the numbers of a list are, all true: looked up, stored into, ranged over.
-/
import Derived.Test.YteggofjldgjfiaaGreatMgAuMemAuGrAuNet
import Derived.Maps.RangeWalk
import Derived.Maps.OwnOps
import Derived.DataShut
import Derived.Test.YteggofjldgjfiaaGreatMgReRowReMem
set_option linter.unusedVariables false
set_option maxRecDepth 100000
namespace Go.Proofs.YteggofjldgjfiaaGreat
open Go.RowKit
namespace Nf
theorem intKeyed : Maps.Keyed Tryz.prog 3 := Maps.int_keyed Tryz.underlying3
noncomputable def boolEl : Value → Option (DataW Unit × List MemPlace) := plainElem Tryz.prog 4
theorem boolEl_mk (x : Bool) : boolEl (.bool x) = some (.lit (.bool x), []) := plainElem_bool Tryz.underlying4 x
theorem boolEl_inv {v : Value} {y : DataW Unit × List MemPlace} (h : boolEl v = some y) : ∃ x, v = .bool x ∧ y = (.lit (.bool x), []) := by
  unfold boolEl plainElem at h
  rw [Tryz.underlying4] at h
  cases v <;> simp at h
  exact ⟨_, rfl, h.symm⟩
def SetD (D : DataW Unit) (A : List Nat) : Prop := Maps.IsMap D ∧ (∀ kl, Maps.has D kl = true ↔ ∃ q : Nat, q ∈ A ∧ kl = .int .i64 q) ∧ ∀ q : Nat, q ∈ A → ∀ zd, D.atKey (.int .i64 q) zd = .lit (.bool true)
/-- Block b is such a map. -/
def SetMap (w : World) (b : Nat) (A : List Nat) : Prop := ∃ D : DataW Unit, w.ownsMap Tryz.prog 3 boolEl b A.length D ∧ SetD D A
theorem key_ok {q : Nat} (hq : q ≤ 1000000000) : keyOf Tryz.prog 3 (.int .i64 q) = some (.int .i64 q) := by
  have e1 : IntKind.i64.min = -9223372036854775808 := by decide
  have e2 : IntKind.i64.max = 9223372036854775807 := by decide
  have hw : (Lit.int .i64 (q : Int)).wf = true := (Lit.wf_int_iff .i64 q).2 (by rw [e1, e2]; omega)
  exact Maps.keyOf_int_mk Tryz.underlying3 hw
theorem zero_bool (w : World) : (zeroValue 4).run Tryz.prog w = .ok (.bool false) w := by kernel_rfl
theorem SetMap.kept {w w' : World} {b : Nat} {A : List Nat} (h : SetMap w b A) {row : Option Nat} (hg : w.grownBy w' row) (hne : some b ≠ row) : SetMap w' b A := by
  obtain ⟨D, h1, h2⟩ := h
  exact ⟨D, h1.kept hg hne, h2⟩
theorem SetMap.below {w w' : World} {b : Nat} {A : List Nat} (h : SetMap w b A) (hb : Below w.heap.size w w') : SetMap w' b A :=
  h.kept (row := none) ⟨hb.os, hb.tape, hb.output, hb.size, fun k hk _ => hb.block k hk⟩ (by simp)
theorem SetMap.new (w : World) : SetMap (w.alloc (.map #[] 0)) w.heap.size [] :=
  ⟨.map [], World.ownsMap_made w _ _ _, ⟨Maps.isMap_empty, fun kl => by simp [Maps.has], by simp⟩⟩
theorem SetMap.look {w : World} {b : Nat} {A : List Nat} (h : SetMap w b A) {q : Nat} (hq : q ≤ 1000000000) :
    (Instr.lookup 57 (.map (some b)) (.int .i64 q) false).run Tryz.prog w = .ok (.bool (decide (q ∈ A))) w := by
  obtain ⟨D, h1, hm, h2, h3⟩ := h
  obtain ⟨v, ps, hrun, hv⟩ := h1.lookup intKeyed Tryz.underlying57 (zero_bool w) (boolEl_mk false) (key_ok hq)
  obtain ⟨x, rfl, hx⟩ := boolEl_inv hv
  rw [hrun]
  congr 2
  by_cases hA : q ∈ A
  · have := h3 q hA (.lit (.bool false))
    rw [Prod.mk.injEq] at hx
    rw [this] at hx
    simp at hx
    simp [hA, ← hx.1]
  · have hn : Maps.has D (.int .i64 q) = false := by
      cases hh : Maps.has D (.int .i64 q) with
      | false => rfl
      | true =>
        obtain ⟨r, hr, e⟩ := (h2 _).1 hh
        injection e with _ e
        have : q = r := by omega
        subst this
        exact absurd hr hA
    have := Maps.atKey_of_not_has hn (.lit (.bool false))
    rw [Prod.mk.injEq] at hx
    rw [this] at hx
    simp at hx
    simp [hA, ← hx.1]
theorem SetD.put {D : DataW Unit} {A : List Nat} (h : SetD D A) {q : Nat} (hq : q ≤ 1000000000) : SetD (D.put (.int .i64 q) (.lit (.bool true))) (A ++ [q]) := by
  obtain ⟨hm, h2, h3⟩ := h
  have hk : WideAt.IsKeyLit (.int .i64 (q : Int)) := intKeyed.key (key_ok hq)
  refine ⟨hm.put _ _, fun kl => ?_, fun r hr zd => ?_⟩
  · by_cases e : kl = .int .i64 q
    · subst e
      rw [Maps.has_put_same hm hk]
      exact ⟨fun _ => ⟨q, by simp, rfl⟩, fun _ => rfl⟩
    · rw [Maps.has_put_other e, h2]
      constructor
      · rintro ⟨r, hr, rfl⟩; exact ⟨r, by simp [hr], rfl⟩
      · rintro ⟨r, hr, rfl⟩
        rcases List.mem_append.1 hr with hr | hr
        · exact ⟨r, hr, rfl⟩
        · simp at hr; subst hr; exact absurd rfl e
  · by_cases e : r = q
    · subst e; exact Maps.atKey_put_same hm hk _ _
    · have hr' : r ∈ A := by
        rcases List.mem_append.1 hr with hr | hr
        · exact hr
        · simp at hr; exact absurd hr e
      rw [Maps.atKey_put_other (by intro e1; injection e1 with _ e1; omega)]
      exact h3 r hr' zd
/-- 'm[q] = true' at the operation. -/
theorem set_put {w : World} {b : Nat} {A : List Nat} {ops : Array Oper} {rest : List Oper} {o : Oper} {a : Act} {Q : Exit → Act → World → Prop} (hg : o.guard = none) (m x v : Operand) (hop : o.op = Op.mapUpdate 57 m x v)
    (q : Nat) (hm : a.eval m = .map (some b)) (hx : a.eval x = .int .i64 q) (hv : a.eval v = .bool true) (h : SetMap w b A) (hA : A.length ≤ 1000000) (hq : q ≤ 1000000000)
    (hK : ∀ w', SetMap w' b (A ++ [q]) → w.grownBy w' (some b) → wpList Tryz.prog ops Q rest (a.put o.dst undef) w') : wpList Tryz.prog ops Q (o :: rest) a w := by
  obtain ⟨D, h1, hD⟩ := h
  refine wpList_mapUpdate_own w hg m x v 57 hop 3 4 intKeyed Tryz.underlying57 boolEl b A.length D hm h1 (by unfold maxLen; omega) _ _ _ hx hv (key_ok hq) _ [] (boolEl_mk true) (fun w' h1 h2 => hK w' ⟨_, by simpa using h1, hD.put hq⟩ h2)

/-- A range over such a map under way: the numbers of T have come. -/
def SetRng (w : World) (b r : Nat) (T A : List Nat) (cnt : Nat) : Prop := ∃ (D : DataW Unit) (left : Lit → Bool), w.ranges Tryz.prog 3 boolEl b r A.length D left cnt ∧ SetD D A ∧ ∀ kl, left kl = true ↔ ∃ q : Nat, q ∈ A ∧ q ∉ T ∧ kl = .int .i64 q
theorem SetRng.left_eq {w : World} {b r : Nat} {T A : List Nat} {cnt : Nat} (h : SetRng w b r T A cnt) : w.rangeLeft b r = cnt := by
  obtain ⟨D, left, h1, _⟩ := h; exact h1.left_eq
theorem SetRng.owns {w : World} {b r : Nat} {T A : List Nat} {cnt : Nat} (h : SetRng w b r T A cnt) : SetMap w b A := by
  obtain ⟨D, left, h1, h2, _⟩ := h; exact ⟨D, h1.owns, h2⟩
theorem SetRng.kept {w w' : World} {b r : Nat} {T A : List Nat} {cnt : Nat} (h : SetRng w b r T A cnt) {row : Option Nat} (hg : w.grownBy w' row) (hb : some b ≠ row) (hr : some r ≠ row) : SetRng w' b r T A cnt := by
  obtain ⟨D, left, h1, h2, h3⟩ := h; exact ⟨D, left, h1.kept hg hb hr, h2, h3⟩
theorem set_range {w : World} {b : Nat} {A : List Nat} {ops : Array Oper} {rest : List Oper} {o : Oper} {a : Act} {Q : Exit → Act → World → Prop} (hg : o.guard = none) (m : Operand) (hop : o.op = Op.range 57 m)
    (hm : a.eval m = .map (some b)) (h : SetMap w b A)
    (hK : ∀ w' cnt, SetRng w' b w.heap.size [] A cnt → cnt ≤ A.length → w.grownBy w' none → w'.heap.size = w.heap.size + 1 → wpList Tryz.prog ops Q rest (a.put o.dst (.pointer (some ⟨w.heap.size, 0, none⟩))) w') : wpList Tryz.prog ops Q (o :: rest) a w := by
  obtain ⟨D, h1, hD⟩ := h
  refine wpList_range_own w hg m 57 hop 3 4 intKeyed Tryz.underlying57 boolEl b A.length D hm h1 (fun w' hrg hgr hsz => hK w' _ ⟨D, _, hrg, hD, fun kl => ?_⟩ h1.size_le hgr hsz)
  rw [hD.2.1]
  simp
theorem set_next {w : World} {b r : Nat} {T A : List Nat} {cnt : Nat} {ops : Array Oper} {rest : List Oper} {o : Oper} {a : Act} {Q : Exit → Act → World → Prop} (hg : o.guard = none) (it : Operand) (hop : o.op = Op.next it false)
    (hit : a.eval it = .pointer (some ⟨r, 0, none⟩)) (h : SetRng w b r T A cnt) (hA : ∀ q ∈ A, q ≤ 1000000000)
    (hDone : (∀ q ∈ A, q ∈ T) → wpList Tryz.prog ops Q rest (a.put o.dst (.tuple #[.bool false])) w)
    (hMore : ∀ (q : Nat) (w' : World) (cnt' : Nat), q ∈ A → q ∉ T → SetRng w' b r (T ++ [q]) A cnt' → cnt' < cnt → w.grownBy w' (some r) → w'.heap.size = w.heap.size →
      (Instr.entry (.pointer (some ⟨r, 0, none⟩))).run Tryz.prog w' = .ok (.tuple #[.int .i64 q, .bool true]) w' → wpList Tryz.prog ops Q rest (a.put o.dst (.tuple #[.bool true, .int .i64 q, .bool true])) w') :
    wpList Tryz.prog ops Q (o :: rest) a w := by
  obtain ⟨D, left, h1, hD, hiff⟩ := h
  refine wpList_next_ranges w hg it hop 3 intKeyed boolEl (Value.int .i64) Value.bool (fun key kl hkey => by obtain ⟨x, rfl, _⟩ := Maps.keyOf_int_inv Tryz.underlying3 hkey; exact ⟨x, rfl⟩) (fun v y hv => by obtain ⟨x, rfl, _⟩ := boolEl_inv hv; exact ⟨x, rfl⟩)
    b r A.length D left cnt hit h1 (fun hc hl => hDone fun q hq => ?_) (fun x c kl y w' cnt' hkey hlk hv hat hrg hlt hgr hsz hen => ?_)
  · refine Classical.byContradiction fun hn => ?_
    have := (hiff (.int .i64 q)).2 ⟨q, hq, hn, rfl⟩
    rw [hl] at this
    cases this
  · obtain ⟨x', ex, rfl, _⟩ := Maps.keyOf_int_inv Tryz.underlying3 hkey
    cases ex
    obtain ⟨q, hqA, hqT, e⟩ := (hiff _).1 hlk
    injection e with _ e
    subst e
    obtain ⟨c', ec, rfl⟩ := boolEl_inv hv
    cases ec
    have hc := hat (.lit (.bool false))
    rw [hD.2.2 q hqA] at hc
    simp at hc
    subst hc
    refine hMore q w' cnt' hqA hqT ⟨D, _, hrg, hD, fun z => ?_⟩ hlt hgr hsz hen
    have hkq : WideAt.IsKeyLit (.int .i64 (q : Int)) := intKeyed.key (key_ok (hA q hqA))
    simp only [Bool.and_eq_true, Bool.not_eq_true']
    rw [hiff]
    constructor
    · rintro ⟨⟨p, hp, hpT, rfl⟩, hs⟩
      refine ⟨p, hp, fun hm => ?_, rfl⟩
      rcases List.mem_append.1 hm with hm | hm
      · exact hpT hm
      · simp at hm
        subst hm
        rw [WideAt.sameKey_self hkq] at hs
        cases hs
    · rintro ⟨p, hp, hpT, rfl⟩
      refine ⟨⟨p, hp, fun hm => hpT (List.mem_append_left _ hm), rfl⟩, Maps.sameKey_ne fun e => ?_⟩
      injection e with _ e
      have : p = q := by omega
      exact hpT (List.mem_append_right _ (by simp [this]))

theorem SetMap.uniq {w : World} {b : Nat} {A A' : List Nat} (h : SetMap w b A) (k : SetMap w b A') (q : Nat) : q ∈ A ↔ q ∈ A' := by
  obtain ⟨D, ⟨es, clock, hb, _, _, hD⟩, hm, h2, _⟩ := h
  obtain ⟨D', ⟨es', clock', hb', _, _, hD'⟩, hm', h2', _⟩ := k
  rw [hb] at hb'
  injection hb' with e
  injection e with e1 e2
  subst e1
  rw [← hD'] at hD
  subst hD
  have key : ∀ (l : List Nat), (∃ r : Nat, r ∈ l ∧ Lit.int .i64 (q : Int) = .int .i64 r) ↔ q ∈ l := fun l => by
    constructor
    · rintro ⟨r, hr, e⟩
      injection e with _ e
      have : q = r := by omega
      rwa [this]
    · exact fun hq => ⟨q, hq, rfl⟩
  rw [← key A, ← h2, h2', key]
/-- How many numbers below N the map holds. -/
noncomputable def cntIn (w : World) (b N : Nat) : Nat := (List.range N).countP fun q => bl (∃ A, SetMap w b A ∧ q ∈ A)
theorem cntIn_eq {w : World} {b : Nat} {A : List Nat} (h : SetMap w b A) (N : Nat) : cntIn w b N = (List.range N).countP fun q => bl (q ∈ A) := by
  unfold cntIn
  congr 1
  funext q
  exact bl_congr ⟨fun ⟨A', h', hq⟩ => (h'.uniq h q).1 hq, fun hq => ⟨A, h, hq⟩⟩
theorem cnt_snoc {A : List Nat} : ∀ (N q : Nat), q < N → q ∉ A → ((List.range N).countP fun p => bl (p ∈ A ++ [q])) = ((List.range N).countP fun p => bl (p ∈ A)) + 1
  | 0, q, h, _ => absurd h (by omega)
  | N + 1, q, h, hn => by
    rw [List.range_succ, List.countP_append, List.countP_append, List.countP_singleton, List.countP_singleton]
    by_cases e : q = N
    · subst e
      have h1 : ((List.range q).countP fun p => bl (p ∈ A ++ [q])) = (List.range q).countP fun p => bl (p ∈ A) := by
        apply List.countP_congr
        intro p hp
        have := List.mem_range.1 hp
        rw [bl_iff, bl_iff]
        simp
        omega
      rw [h1, bl_true (show q ∈ A ++ [q] by simp), bl_false hn]
      simp
    · have h1 := cnt_snoc N q (by omega) hn
      have h2 : bl (N ∈ A ++ [q]) = bl (N ∈ A) := bl_congr (by simp; omega)
      rw [h1, h2]
      omega
theorem cnt_le (A : List Nat) (N : Nat) : ((List.range N).countP fun p => bl (p ∈ A)) ≤ N := by
  have := List.countP_le_length (p := fun p => bl (p ∈ A)) (l := List.range N)
  simpa using this
/-- The map's block is no row's. -/
theorem SetMap.ne {w : World} {b base : Nat} {A : List Nat} {e : TypeId} {size n : Nat} {v : Value} {xs : List Value} (h : SetMap w b A) (k : w.ownsRow base e size v n xs) : some b ≠ v.ownBlock := by
  obtain ⟨D, ⟨es, clock, hb, _⟩, _⟩ := h
  rcases k.2 with ⟨rfl, _⟩ | ⟨g, cap, cur, rfl, _, hg, _⟩
  · simp [Value.ownBlock]
  · intro e
    simp [Value.ownBlock] at e
    subst e
    rw [hb] at hg
    injection hg with hg
    cases hg
theorem SetRng.ne {w : World} {b r base : Nat} {T A : List Nat} {cnt : Nat} {e : TypeId} {size n : Nat} {v : Value} {xs : List Value} (h : SetRng w b r T A cnt) (k : w.ownsRow base e size v n xs) : some r ≠ v.ownBlock := by
  obtain ⟨D, left, ⟨es, clock, since, seen, c0, _, _, _, _, hr, _⟩, _⟩ := h
  rcases k.2 with ⟨rfl, _⟩ | ⟨g, cap, cur, rfl, _, hg, _⟩
  · simp [Value.ownBlock]
  · intro e
    simp [Value.ownBlock] at e
    subst e
    rw [hr] at hg
    injection hg with hg
    cases hg
theorem SetRng.alloc {w : World} {b r : Nat} {T A : List Nat} {cnt : Nat} (h : SetRng w b r T A cnt) (o : Obj) : SetRng (w.alloc o) b r T A cnt := h.kept (World.grownBy_alloc w o none) (by simp) (by simp)
end Nf
end Go.Proofs.YteggofjldgjfiaaGreat

/-
  closed, plainly: the states that have come and those still to do; and a row popped and grown.
-/
set_option linter.unusedVariables false
namespace Go.Proofs.YteggofjldgjfiaaGreat
open Go.RowKit
namespace Nf
structure Cls (g : Gr) (S L A : List Nat) : Prop where
  lt_l : ∀ q ∈ L, q < g.N
  lt_a : ∀ q ∈ A, q < g.N
  len : A.length = (List.range g.N).countP fun p => bl (p ∈ A)
  sound : ∀ q, q ∈ L ∨ q ∈ A → Cl g (· ∈ S) q
  start : ∀ q ∈ S, q ∈ L ∨ q ∈ A
  next : ∀ p ∈ A, ∀ q, E g p q → q ∈ L ∨ q ∈ A
variable {g : Gr} {S L A : List Nat}
theorem Cls.begin (h : ∀ q ∈ S, q < g.N) : Cls g S S [] := by
  refine ⟨h, by simp, ?_, fun q hq => ⟨q, by simpa using hq, .refl q⟩, fun q hq => .inl hq, by simp⟩
  rw [List.length_nil]
  symm
  rw [List.countP_eq_zero]
  intro a _
  rw [bl_iff]
  simp
theorem Cls.old {q : Nat} (h : Cls g S (L ++ [q]) A) (hq : q ∈ A) : Cls g S L A := by
  have key : ∀ x, x ∈ L ++ [q] ∨ x ∈ A → x ∈ L ∨ x ∈ A := fun x hx => by
    rcases hx with hx | hx
    · rcases List.mem_append.1 hx with hx | hx
      · exact .inl hx
      · simp at hx; subst hx; exact .inr hq
    · exact .inr hx
  exact ⟨fun x hx => h.lt_l x (List.mem_append_left _ hx), h.lt_a, h.len, fun x hx => h.sound x (hx.imp (List.mem_append_left _) id), fun x hx => key x (h.start x hx), fun p hp x hx => key x (h.next p hp x hx)⟩
theorem Cls.new {q : Nat} {R : List Nat} (h : Cls g S (L ++ [q]) A) (hq : q ∉ A) (hR : ∀ r, r ∈ R ↔ E g q r) (hlt : ∀ r ∈ R, r < g.N) : Cls g S (L ++ R) (A ++ [q]) := by
  have hqn : q < g.N := h.lt_l q (by simp)
  have hcq : Cl g (· ∈ S) q := h.sound q (.inl (by simp))
  have key : ∀ x, x ∈ L ++ [q] ∨ x ∈ A → x ∈ L ++ R ∨ x ∈ A ++ [q] := fun x hx => by
    rcases hx with hx | hx
    · rcases List.mem_append.1 hx with hx | hx
      · exact .inl (List.mem_append_left _ hx)
      · exact .inr (List.mem_append_right _ hx)
    · exact .inr (List.mem_append_left _ hx)
  refine ⟨fun x hx => ?_, fun x hx => ?_, ?_, fun x hx => ?_, fun x hx => key x (h.start x hx), fun p hp x hx => ?_⟩
  · rcases List.mem_append.1 hx with hx | hx
    · exact h.lt_l x (List.mem_append_left _ hx)
    · exact hlt x hx
  · rcases List.mem_append.1 hx with hx | hx
    · exact h.lt_a x hx
    · simp at hx; subst hx; exact hqn
  · rw [cnt_snoc _ _ hqn hq, ← h.len]; simp
  · rcases hx with hx | hx
    · rcases List.mem_append.1 hx with hx | hx
      · exact h.sound x (.inl (List.mem_append_left _ hx))
      · obtain ⟨p, hp, hs⟩ := hcq
        exact ⟨p, hp, hs.snoc ((hR x).1 hx)⟩
    · rcases List.mem_append.1 hx with hx | hx
      · exact h.sound x (.inr hx)
      · simp at hx; subst hx; exact hcq
  · rcases List.mem_append.1 hp with hp | hp
    · exact key x (h.next p hp x hx)
    · simp at hp; subst hp
      exact .inl (List.mem_append_right _ ((hR x).2 hx))
theorem Cls.done (h : Cls g S [] A) (q : Nat) : q ∈ A ↔ Cl g (· ∈ S) q := by
  constructor
  · exact fun hq => h.sound q (.inr hq)
  · rintro ⟨p, hp, hs⟩
    refine hs.keeps (P := (· ∈ A)) (fun a b hab ha => ?_) ?_
    · exact (h.next a ha b hab).resolve_left (by simp)
    · exact (h.start p hp).resolve_left (by simp)
theorem Cls.few (h : Cls g S L A) : A.length ≤ g.N := by rw [h.len]; exact cnt_le _ _

/-- A row of the call's own without its last element. -/
theorem own_pop {w : World} {base : Nat} {e : TypeId} {lo : Option Addr} {n cap : Nat} {xs : List Value} {x : Value} (h : w.ownsRow base e 1 (.slice lo (n + 1) cap) (n + 1) (xs ++ [x])) : w.ownsRow base e 1 (.slice lo n cap) n xs := by
  have hl : xs.length = n := by have := h.1; simp at this; omega
  refine ⟨by omega, ?_⟩
  rcases h.2 with ⟨e1, h0⟩ | ⟨g, c, cur, e1, hb, hg, h1, h2, h3, h4⟩
  · omega
  · injection e1 with e1 e2 e3
    subst e1 e3
    refine .inr ⟨g, cap, cur, rfl, hb, hg, by omega, h2, h3, ?_⟩
    have h5 := congrArg (List.take n) h4
    have h6 : List.take n (xs ++ [x]) = xs := by rw [← hl, List.take_left]
    rw [h6, List.take_take, Nat.mul_one, Nat.min_eq_left (by omega)] at h5
    rw [Nat.mul_one]
    exact h5
theorem run_append_none (w : World) (ty : TypeId) (c : Nat) {base n : Nat} {v : Value} {xs : List Value} (h : w.ownsRow base 3 1 v n xs) : (Builtin.append_ #[73, 73] ty #[v, .slice none 0 c]).run Tryz.prog w = .ok v w := by
  obtain ⟨i0, hi, hz0, hz1, hz2⟩ := info_parts intInfo
  rcases h.2 with ⟨rfl, rfl⟩ | ⟨g, cap, cur, rfl, _, _, h1, _⟩
  · simp [Builtin.append_, run_underlying Tryz.underlying73, sizeOf, typeInfo, hi, Builtin.lenOf, Builtin.firstCells]
  · simp [Builtin.append_, run_underlying Tryz.underlying73, sizeOf, typeInfo, hi, Builtin.lenOf, Builtin.firstCells, h1, storeCells, go_sem]
/-- A whole row of numbers appended to a row of the call's own. -/
theorem push_row {w : World} {ops : Array Oper} {rest : List Oper} {o : Oper} {a : Act} {Q : Exit → Act → World → Prop} (hgd : o.guard = none) (s x : Operand)
    (ho : o.op = .call { callee := .builtin .append, args := #[s, x], argTypes := #[73, 73] })
    (base : Nat) (v : Value) (L : List Nat) (hs : a.eval s = v) (hown : w.ownsRow base 3 1 v L.length (L.map num))
    (R : List Nat) (ao : Option Addr) (m c : Nat) (hx : a.eval x = .slice ao m c) (hR : Seq num w ao m R) (hbig : (L.length + m) * 8 ≤ 140737488351232) (hbase : base ≤ w.heap.size)
    (h : ∀ v' w', w'.ownsRow base 3 1 v' (L ++ R).length ((L ++ R).map num) → w.grownBy w' v.ownBlock → wpList Tryz.prog ops Q rest (a.put o.dst v') w') : wpList Tryz.prog ops Q (o :: rest) a w := by
  obtain ⟨i0, hi, hz0, hz1, hz2⟩ := info_parts intInfo
  have hl := hR.1
  cases ao with
  | none =>
    have h0 : m = 0 := by
      by_cases h0 : 0 < m
      · obtain ⟨b, off, e, _⟩ := hR.2.2 h0; cases e
      · omega
    subst h0
    have hR0 : R = [] := List.length_eq_zero_iff.1 hl
    subst hR0
    refine wpList_plain hgd fun K' hK' => ?_
    unfold Oper.wp execOp
    simp only [ho, resolve, invoke, builtin, Sem.run_bind, Sem.run_pure, Result.andThen_ok, List.map_toArray, List.map_cons, List.map_nil, hs, hx, run_append_none w o.type c hown]
    exact hK' _ _ (h v w (by simpa using hown) ⟨rfl, rfl, rfl, Nat.le_refl _, fun _ _ _ => rfl⟩)
  | some ad =>
    have hnews : ∀ j u, (R.map num)[j]? = some u → w.cell? (ad.add j) = some u := by
      intro j u hj
      have hjl : j < R.length := by have := (List.getElem?_eq_some_iff.1 hj).1; simpa using this
      obtain ⟨b, off, e, hc⟩ := hR.2.2 (by omega)
      cases e
      rw [plain_add, hc j R[j] (by simp [hjl])]
      rw [List.getElem?_map] at hj
      simp [hjl] at hj
      rw [← hj]
    refine wpList_append_own_at w hgd s x 73 ho base 3 i0 (.int .i64 0) 1 8 Tryz.underlying73 hi hz0 hz1 hz2 rfl (by decide) v _ _ hs hown ad m c (R.map num) hx (by simp; omega) hnews (fun u hu => by obtain ⟨z, _, rfl⟩ := List.mem_map.1 hu; rfl) (by unfold maxLen; omega) (by omega) hbase ?_
    intro v' w' hown' hgrow _ hat
    exact h v' w' (by rw [List.length_append, hl, List.map_append]; exact hown') hgrow
end Nf
end Go.Proofs.YteggofjldgjfiaaGreat
