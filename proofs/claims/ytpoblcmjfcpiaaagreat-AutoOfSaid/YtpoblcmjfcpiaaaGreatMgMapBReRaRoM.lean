/-
  Maps of numbers to bools that the call has made, in which just the numbers of a list are, all true: looked up, stored into, ranged over.
-/
import Derived.Test.YtpoblcmjfcpiaaaGreatMgAuMemAuGrAuNet
import Derived.Maps.RangeWalk
import Derived.Maps.OwnOps
import Derived.DataShut
import Derived.Test.YtpoblcmjfcpiaaaGreatMgReIl
import Derived.Laws.AppendOwn
import Derived.Laws.OwnMore
import Derived.Test.YtpoblcmjfcpiaaaGreatMgKmOfM
set_option linter.unusedVariables false
set_option maxRecDepth 100000
namespace Go.Proofs.YtpoblcmjfcpiaaaGreat
open Go.RowKit
namespace Nf
theorem intKeyed : Maps.Keyed Tryz.prog 3 := Maps.int_keyed Tryz.underlying3
noncomputable def boolEl : Value → Option (DataW Unit × List MemPlace) := plainElem Tryz.prog 4
theorem boolEl_mk (x : Bool) : boolEl (.bool x) = some (.lit (.bool x), []) := plainElem_bool Tryz.underlying4 x
theorem boolEl_inv {v : Value} {y : DataW Unit × List MemPlace} (h : boolEl v = some y) : ∃ x, v = .bool x ∧ y = (.lit (.bool x), []) := by
  unfold boolEl plainElem at h
  rw [Tryz.underlying4] at h
  cases v <;> simp at h
  exact ⟨_, rfl, h.symm⟩
def SetD (D : DataW Unit) (A : List Nat) : Prop := Maps.IsMap D ∧ (∀ kl, Maps.has D kl = true ↔ ∃ q : Nat, q ∈ A ∧ kl = .int .i64 q) ∧ ∀ q : Nat, q ∈ A → ∀ zd, D.atKey (.int .i64 q) zd = .lit (.bool true)
/-- Block b is such a map. -/
def SetMap (w : World) (b : Nat) (A : List Nat) : Prop := ∃ D : DataW Unit, w.ownsMap Tryz.prog 3 boolEl b A.length D ∧ SetD D A
theorem key_ok {q : Nat} (hq : q ≤ 1000000000) : keyOf Tryz.prog 3 (.int .i64 q) = some (.int .i64 q) := by
  have e1 : IntKind.i64.min = -9223372036854775808 := by decide
  have e2 : IntKind.i64.max = 9223372036854775807 := by decide
  have hw : (Lit.int .i64 (q : Int)).wf = true := (Lit.wf_int_iff .i64 q).2 (by rw [e1, e2]; omega)
  exact Maps.keyOf_int_mk Tryz.underlying3 hw
theorem zero_bool (w : World) : (zeroValue 4).run Tryz.prog w = .ok (.bool false) w := by kernel_rfl
theorem SetMap.kept {w w' : World} {b : Nat} {A : List Nat} (h : SetMap w b A) {row : Option Nat} (hg : w.grownBy w' row) (hne : some b ≠ row) : SetMap w' b A := by
  obtain ⟨D, h1, h2⟩ := h
  exact ⟨D, h1.kept hg hne, h2⟩
theorem SetMap.below {w w' : World} {b : Nat} {A : List Nat} (h : SetMap w b A) (hb : Below w.heap.size w w') : SetMap w' b A :=
  h.kept (row := none) ⟨hb.os, hb.tape, hb.output, hb.size, fun k hk _ => hb.block k hk⟩ (by simp)
theorem SetMap.new (w : World) : SetMap (w.alloc (.map #[] 0)) w.heap.size [] :=
  ⟨.map [], World.ownsMap_made w _ _ _, ⟨Maps.isMap_empty, fun kl => by simp [Maps.has], by simp⟩⟩
theorem SetMap.look {w : World} {b : Nat} {A : List Nat} (h : SetMap w b A) {q : Nat} (hq : q ≤ 1000000000) :
    (Instr.lookup 57 (.map (some b)) (.int .i64 q) false).run Tryz.prog w = .ok (.bool (decide (q ∈ A))) w := by
  obtain ⟨D, h1, hm, h2, h3⟩ := h
  obtain ⟨v, ps, hrun, hv⟩ := h1.lookup intKeyed Tryz.underlying57 (zero_bool w) (boolEl_mk false) (key_ok hq)
  obtain ⟨x, rfl, hx⟩ := boolEl_inv hv
  rw [hrun]
  congr 2
  by_cases hA : q ∈ A
  · have := h3 q hA (.lit (.bool false))
    rw [Prod.mk.injEq] at hx
    rw [this] at hx
    simp at hx
    simp [hA, ← hx.1]
  · have hn : Maps.has D (.int .i64 q) = false := by
      cases hh : Maps.has D (.int .i64 q) with
      | false => rfl
      | true =>
        obtain ⟨r, hr, e⟩ := (h2 _).1 hh
        injection e with _ e
        have : q = r := by omega
        subst this
        exact absurd hr hA
    have := Maps.atKey_of_not_has hn (.lit (.bool false))
    rw [Prod.mk.injEq] at hx
    rw [this] at hx
    simp at hx
    simp [hA, ← hx.1]
theorem SetD.put {D : DataW Unit} {A : List Nat} (h : SetD D A) {q : Nat} (hq : q ≤ 1000000000) : SetD (D.put (.int .i64 q) (.lit (.bool true))) (A ++ [q]) := by
  obtain ⟨hm, h2, h3⟩ := h
  have hk : WideAt.IsKeyLit (.int .i64 (q : Int)) := intKeyed.key (key_ok hq)
  refine ⟨hm.put _ _, fun kl => ?_, fun r hr zd => ?_⟩
  · by_cases e : kl = .int .i64 q
    · subst e
      rw [Maps.has_put_same hm hk]
      exact ⟨fun _ => ⟨q, by simp, rfl⟩, fun _ => rfl⟩
    · rw [Maps.has_put_other e, h2]
      constructor
      · rintro ⟨r, hr, rfl⟩; exact ⟨r, by simp [hr], rfl⟩
      · rintro ⟨r, hr, rfl⟩
        rcases List.mem_append.1 hr with hr | hr
        · exact ⟨r, hr, rfl⟩
        · simp at hr; subst hr; exact absurd rfl e
  · by_cases e : r = q
    · subst e; exact Maps.atKey_put_same hm hk _ _
    · have hr' : r ∈ A := by
        rcases List.mem_append.1 hr with hr | hr
        · exact hr
        · simp at hr; exact absurd hr e
      rw [Maps.atKey_put_other (by intro e1; injection e1 with _ e1; omega)]
      exact h3 r hr' zd
/-- 'm[q] = true' at the operation. -/
theorem set_put {w : World} {b : Nat} {A : List Nat} {ops : Array Oper} {rest : List Oper} {o : Oper} {a : Act} {Q : Exit → Act → World → Prop} (hg : o.guard = none) (m x v : Operand) (hop : o.op = Op.mapUpdate 57 m x v)
    (q : Nat) (hm : a.eval m = .map (some b)) (hx : a.eval x = .int .i64 q) (hv : a.eval v = .bool true) (h : SetMap w b A) (hA : A.length ≤ 1000000) (hq : q ≤ 1000000000)
    (hK : ∀ w', SetMap w' b (A ++ [q]) → w.grownBy w' (some b) → wpList Tryz.prog ops Q rest (a.put o.dst undef) w') : wpList Tryz.prog ops Q (o :: rest) a w := by
  obtain ⟨D, h1, hD⟩ := h
  refine wpList_mapUpdate_own w hg m x v 57 hop 3 4 intKeyed Tryz.underlying57 boolEl b A.length D hm h1 (by unfold maxLen; omega) _ _ _ hx hv (key_ok hq) _ [] (boolEl_mk true) (fun w' h1 h2 => hK w' ⟨_, by simpa using h1, hD.put hq⟩ h2)

/-- A range over such a map under way: the numbers of T have come. -/
def SetRng (w : World) (b r : Nat) (T A : List Nat) (cnt : Nat) : Prop := ∃ (D : DataW Unit) (left : Lit → Bool), w.ranges Tryz.prog 3 boolEl b r A.length D left cnt ∧ SetD D A ∧ ∀ kl, left kl = true ↔ ∃ q : Nat, q ∈ A ∧ q ∉ T ∧ kl = .int .i64 q
theorem SetRng.left_eq {w : World} {b r : Nat} {T A : List Nat} {cnt : Nat} (h : SetRng w b r T A cnt) : w.rangeLeft b r = cnt := by
  obtain ⟨D, left, h1, _⟩ := h; exact h1.left_eq
theorem SetRng.owns {w : World} {b r : Nat} {T A : List Nat} {cnt : Nat} (h : SetRng w b r T A cnt) : SetMap w b A := by
  obtain ⟨D, left, h1, h2, _⟩ := h; exact ⟨D, h1.owns, h2⟩
theorem SetRng.kept {w w' : World} {b r : Nat} {T A : List Nat} {cnt : Nat} (h : SetRng w b r T A cnt) {row : Option Nat} (hg : w.grownBy w' row) (hb : some b ≠ row) (hr : some r ≠ row) : SetRng w' b r T A cnt := by
  obtain ⟨D, left, h1, h2, h3⟩ := h; exact ⟨D, left, h1.kept hg hb hr, h2, h3⟩
theorem set_range {w : World} {b : Nat} {A : List Nat} {ops : Array Oper} {rest : List Oper} {o : Oper} {a : Act} {Q : Exit → Act → World → Prop} (hg : o.guard = none) (m : Operand) (hop : o.op = Op.range 57 m)
    (hm : a.eval m = .map (some b)) (h : SetMap w b A)
    (hK : ∀ w' cnt, SetRng w' b w.heap.size [] A cnt → cnt ≤ A.length → w.grownBy w' none → w'.heap.size = w.heap.size + 1 → wpList Tryz.prog ops Q rest (a.put o.dst (.pointer (some ⟨w.heap.size, 0, none⟩))) w') : wpList Tryz.prog ops Q (o :: rest) a w := by
  obtain ⟨D, h1, hD⟩ := h
  refine wpList_range_own w hg m 57 hop 3 4 intKeyed Tryz.underlying57 boolEl b A.length D hm h1 (fun w' hrg hgr hsz => hK w' _ ⟨D, _, hrg, hD, fun kl => ?_⟩ h1.size_le hgr hsz)
  rw [hD.2.1]
  simp
theorem set_next {w : World} {b r : Nat} {T A : List Nat} {cnt : Nat} {ops : Array Oper} {rest : List Oper} {o : Oper} {a : Act} {Q : Exit → Act → World → Prop} (hg : o.guard = none) (it : Operand) (hop : o.op = Op.next it false)
    (hit : a.eval it = .pointer (some ⟨r, 0, none⟩)) (h : SetRng w b r T A cnt) (hA : ∀ q ∈ A, q ≤ 1000000000)
    (hDone : (∀ q ∈ A, q ∈ T) → wpList Tryz.prog ops Q rest (a.put o.dst (.tuple #[.bool false])) w)
    (hMore : ∀ (q : Nat) (w' : World) (cnt' : Nat), q ∈ A → q ∉ T → SetRng w' b r (T ++ [q]) A cnt' → cnt' < cnt → w.grownBy w' (some r) → w'.heap.size = w.heap.size →
      (Instr.entry (.pointer (some ⟨r, 0, none⟩))).run Tryz.prog w' = .ok (.tuple #[.int .i64 q, .bool true]) w' → wpList Tryz.prog ops Q rest (a.put o.dst (.tuple #[.bool true, .int .i64 q, .bool true])) w') :
    wpList Tryz.prog ops Q (o :: rest) a w := by
  obtain ⟨D, left, h1, hD, hiff⟩ := h
  refine wpList_next_ranges w hg it hop 3 intKeyed boolEl (Value.int .i64) Value.bool (fun key kl hkey => by obtain ⟨x, rfl, _⟩ := Maps.keyOf_int_inv Tryz.underlying3 hkey; exact ⟨x, rfl⟩) (fun v y hv => by obtain ⟨x, rfl, _⟩ := boolEl_inv hv; exact ⟨x, rfl⟩)
    b r A.length D left cnt hit h1 (fun hc hl => hDone fun q hq => ?_) (fun x c kl y w' cnt' hkey hlk hv hat hrg hlt hgr hsz hen => ?_)
  · refine Classical.byContradiction fun hn => ?_
    have := (hiff (.int .i64 q)).2 ⟨q, hq, hn, rfl⟩
    rw [hl] at this
    cases this
  · obtain ⟨x', ex, rfl, _⟩ := Maps.keyOf_int_inv Tryz.underlying3 hkey
    cases ex
    obtain ⟨q, hqA, hqT, e⟩ := (hiff _).1 hlk
    injection e with _ e
    subst e
    obtain ⟨c', ec, rfl⟩ := boolEl_inv hv
    cases ec
    have hc := hat (.lit (.bool false))
    rw [hD.2.2 q hqA] at hc
    simp at hc
    subst hc
    refine hMore q w' cnt' hqA hqT ⟨D, _, hrg, hD, fun z => ?_⟩ hlt hgr hsz hen
    have hkq : WideAt.IsKeyLit (.int .i64 (q : Int)) := intKeyed.key (key_ok (hA q hqA))
    simp only [Bool.and_eq_true, Bool.not_eq_true']
    rw [hiff]
    constructor
    · rintro ⟨⟨p, hp, hpT, rfl⟩, hs⟩
      refine ⟨p, hp, fun hm => ?_, rfl⟩
      rcases List.mem_append.1 hm with hm | hm
      · exact hpT hm
      · simp at hm
        subst hm
        rw [WideAt.sameKey_self hkq] at hs
        cases hs
    · rintro ⟨p, hp, hpT, rfl⟩
      refine ⟨⟨p, hp, fun hm => hpT (List.mem_append_left _ hm), rfl⟩, Maps.sameKey_ne fun e => ?_⟩
      injection e with _ e
      have : p = q := by omega
      exact hpT (List.mem_append_right _ (by simp [this]))

theorem SetMap.uniq {w : World} {b : Nat} {A A' : List Nat} (h : SetMap w b A) (k : SetMap w b A') (q : Nat) : q ∈ A ↔ q ∈ A' := by
  obtain ⟨D, ⟨es, clock, hb, _, _, hD⟩, hm, h2, _⟩ := h
  obtain ⟨D', ⟨es', clock', hb', _, _, hD'⟩, hm', h2', _⟩ := k
  rw [hb] at hb'
  injection hb' with e
  injection e with e1 e2
  subst e1
  rw [← hD'] at hD
  subst hD
  have key : ∀ (l : List Nat), (∃ r : Nat, r ∈ l ∧ Lit.int .i64 (q : Int) = .int .i64 r) ↔ q ∈ l := fun l => by
    constructor
    · rintro ⟨r, hr, e⟩
      injection e with _ e
      have : q = r := by omega
      rwa [this]
    · exact fun hq => ⟨q, hq, rfl⟩
  rw [← key A, ← h2, h2', key]
/-- How many numbers below N the map holds. -/
noncomputable def cntIn (w : World) (b N : Nat) : Nat := (List.range N).countP fun q => bl (∃ A, SetMap w b A ∧ q ∈ A)
theorem cntIn_eq {w : World} {b : Nat} {A : List Nat} (h : SetMap w b A) (N : Nat) : cntIn w b N = (List.range N).countP fun q => bl (q ∈ A) := by
  unfold cntIn
  congr 1
  funext q
  exact bl_congr ⟨fun ⟨A', h', hq⟩ => (h'.uniq h q).1 hq, fun hq => ⟨A, h, hq⟩⟩
theorem cnt_snoc {A : List Nat} : ∀ (N q : Nat), q < N → q ∉ A → ((List.range N).countP fun p => bl (p ∈ A ++ [q])) = ((List.range N).countP fun p => bl (p ∈ A)) + 1
  | 0, q, h, _ => absurd h (by omega)
  | N + 1, q, h, hn => by
    rw [List.range_succ, List.countP_append, List.countP_append, List.countP_singleton, List.countP_singleton]
    by_cases e : q = N
    · subst e
      have h1 : ((List.range q).countP fun p => bl (p ∈ A ++ [q])) = (List.range q).countP fun p => bl (p ∈ A) := by
        apply List.countP_congr
        intro p hp
        have := List.mem_range.1 hp
        rw [bl_iff, bl_iff]
        simp
        omega
      rw [h1, bl_true (show q ∈ A ++ [q] by simp), bl_false hn]
      simp
    · have h1 := cnt_snoc N q (by omega) hn
      have h2 : bl (N ∈ A ++ [q]) = bl (N ∈ A) := bl_congr (by simp; omega)
      rw [h1, h2]
      omega
theorem cnt_le (A : List Nat) (N : Nat) : ((List.range N).countP fun p => bl (p ∈ A)) ≤ N := by
  have := List.countP_le_length (p := fun p => bl (p ∈ A)) (l := List.range N)
  simpa using this
/-- The map's block is no row's. -/
theorem SetMap.ne {w : World} {b base : Nat} {A : List Nat} {e : TypeId} {size n : Nat} {v : Value} {xs : List Value} (h : SetMap w b A) (k : w.ownsRow base e size v n xs) : some b ≠ v.ownBlock := by
  obtain ⟨D, ⟨es, clock, hb, _⟩, _⟩ := h
  rcases k.2 with ⟨rfl, _⟩ | ⟨g, cap, cur, rfl, _, hg, _⟩
  · simp [Value.ownBlock]
  · intro e
    simp [Value.ownBlock] at e
    subst e
    rw [hb] at hg
    injection hg with hg
    cases hg
theorem SetRng.ne {w : World} {b r base : Nat} {T A : List Nat} {cnt : Nat} {e : TypeId} {size n : Nat} {v : Value} {xs : List Value} (h : SetRng w b r T A cnt) (k : w.ownsRow base e size v n xs) : some r ≠ v.ownBlock := by
  obtain ⟨D, left, ⟨es, clock, since, seen, c0, _, _, _, _, hr, _⟩, _⟩ := h
  rcases k.2 with ⟨rfl, _⟩ | ⟨g, cap, cur, rfl, _, hg, _⟩
  · simp [Value.ownBlock]
  · intro e
    simp [Value.ownBlock] at e
    subst e
    rw [hr] at hg
    injection hg with hg
    cases hg
theorem SetRng.alloc {w : World} {b r : Nat} {T A : List Nat} {cnt : Nat} (h : SetRng w b r T A cnt) (o : Obj) : SetRng (w.alloc o) b r T A cnt := h.kept (World.grownBy_alloc w o none) (by simp) (by simp)
end Nf
end Go.Proofs.YtpoblcmjfcpiaaaGreat

/-
  append(nil, a list of texts that came in ...) at a step of a region that draws its order.
-/
set_option linter.unusedVariables false
namespace Go.Proofs.YtpoblcmjfcpiaaaGreat
open Go.RowKit
namespace Nf
theorem run_append_nil0 (w : World) (ty : TypeId) (c : Nat) : (Builtin.append_ #[22, 22] ty #[.slice none 0 0, .slice none 0 c]).run Tryz.prog w = .ok (.slice none 0 0) w := by
  obtain ⟨i0, hi, hz0, hz1, hz2⟩ := info_parts strInfo
  simp [Builtin.append_, run_underlying Tryz.underlying22, sizeOf, typeInfo, hi, Builtin.lenOf, Builtin.firstCells]
theorem run_append_row (w : World) (ty : TypeId) (base : Nat) (so : Option Addr) (sn scap : Nat) (sig : List ByteArray) (h : Sp.Row w so sn sig) (hr : sn * 16 ≤ 140737488351232) (hb : base ≤ w.heap.size) :
    ∃ so' sn' scap' w', (Builtin.append_ #[22, 22] ty #[.slice none 0 0, .slice so sn scap]).run Tryz.prog w = .ok (.slice so' sn' scap') w' ∧ w'.ownsRow base 9 1 (.slice so' sn' scap') sig.length (sig.map Value.string) ∧ Below w.heap.size w w' := by
  obtain ⟨i0, hi, hz0, hz1, hz2⟩ := info_parts strInfo
  have hl := h.1
  cases so with
  | none =>
    have h0 : sn = 0 := by
      by_cases h0 : 0 < sn
      · obtain ⟨b, off, e, _⟩ := h.2.2.1 h0; cases e
      · omega
    subst h0
    have hl0 : sig = [] := List.length_eq_zero_iff.1 hl
    subst hl0
    exact ⟨none, 0, 0, w, run_append_nil0 w ty scap, World.ownsRow_nil _ _ _ _, Below.refl _ _⟩
  | some ad =>
    have hnews : ∀ j u, (sig.map Value.string)[j]? = some u → w.cell? (ad.add j) = some u := by
      intro j u hj
      have hjl : j < sig.length := by have := (List.getElem?_eq_some_iff.1 hj).1; simpa using this
      obtain ⟨b, off, e, hc⟩ := h.2.2.1 (by omega)
      cases e
      rw [plain_add, hc j (by omega)]
      rw [List.getElem?_map] at hj
      simp [hjl] at hj
      simp [List.getD, hjl, ← hj]
    obtain ⟨v', w', hrun, hown, hg, _⟩ := run_append_own (P := Tryz.prog) w base 22 ty 9 i0 (.string ⟨#[]⟩) 1 16 Tryz.underlying22 hi hz0 hz1 hz2 rfl (by decide) (.slice none 0 0) 0 [] (World.ownsRow_nil _ _ _ _) ad sn scap (sig.map Value.string) (by simp; omega) hnews (fun u hu => by obtain ⟨s, _, rfl⟩ := List.mem_map.1 hu; rfl) (by unfold maxLen; omega) (by omega) hb
    rw [Nat.zero_add, List.nil_append] at hown
    have hb' : Below w.heap.size w w' := ⟨hg.os, hg.tape, hg.output, hg.size, fun k hk => hg.block k hk (by simp [Value.ownBlock])⟩
    rcases hown.2 with ⟨rfl, h0⟩ | ⟨g, cap, cur, rfl, _⟩
    · exact ⟨none, 0, 0, w', hrun, by rw [hl]; exact hown, hb'⟩
    · exact ⟨_, _, _, w', hrun, by rw [hl]; exact hown, hb'⟩

/-- The step. -/
theorem step_app {ops : Array Oper} {o : Oper} {a : Act} {K : Act → World → Prop} {Q : Exit → Act → World → Prop} {E : Prop} {w0 w2 w5 : World} {B : Nat} {so : Option Addr} {sn scap : Nat} {st : Int} {d2 d3 : Value} {sig : List ByteArray}
    (NB2 : w2.heap[B]? = some (.cells #[.slice so sn scap, .int .i64 st, d2, d3] 26 (0, 0))) (h02 : Below w0.heap.size w0 w2) (h25 : Below w2.heap.size w2 w5) (hrow : Sp.Row w0 so sn sig) (hr : sn * 16 ≤ 140737488351232)
    (hgd : o.guard = none) (s x : Operand) (ho : o.op = .call { callee := .builtin .append, args := #[s, x], argTypes := #[22, 22] }) (hs : a.eval s = .slice none 0 0) (hx : a.eval x = .slice so sn scap)
    (h : ∀ so' sn' scap' w6, RowKit.Hid (w6.ownsRow w0.heap.size 9 1 (.slice so' sn' scap') sig.length (sig.map Value.string)) → RowKit.Hid (Below w2.heap.size w2 w6) → RowKit.Hid (Below w5.heap.size w5 w6) → w6.cell? ⟨B, 0, none⟩ = some (.slice so sn scap) → w6.cell? ⟨B, 1, none⟩ = some (.int .i64 st) → B < w6.heap.size → K (a.put o.dst (.slice so' sn' scap')) w6) :
    if Region.wanted o (yielded ops a.tmps) = true then Oper.wp Tryz.prog o a w5 K Q else E := by
  have hw : Region.wanted o (yielded ops a.tmps) = true := by simp [Region.wanted, hgd]
  rw [if_pos hw]
  have hb5 := h02.trans (h25.mono h02.size)
  obtain ⟨so', sn', scap', w6, hrun, hown, hbel⟩ := run_append_row w5 o.type w0.heap.size so sn scap sig (hrow.below hb5) hr hb5.size
  have hb6 := h25.trans (hbel.mono h25.size)
  have k := blk_below NB2 hb6 (blk_lt NB2)
  unfold Oper.wp execOp
  simp only [ho, resolve, invoke, builtin, Sem.run_bind, Sem.run_pure, Result.andThen_ok, List.map_toArray, List.map_cons, List.map_nil, hs, hx, hrun]
  exact h _ _ _ _ (Sp.hid hown) (Sp.hid hb6) (Sp.hid hbel) (blk_cell (i := 0) k rfl) (blk_cell (i := 1) k rfl) (blk_lt k)
/-- .. where a net's block has been laid already. -/
theorem step_appZ {ops : Array Oper} {o : Oper} {a : Act} {K : Act → World → Prop} {Q : Exit → Act → World → Prop} {E : Prop} {w0 w2 w5 : World} {B : Nat} {so : Option Addr} {sn scap : Nat} {st : Int} {d2 d3 : Value} {sig : List ByteArray}
    (NB2 : w2.heap[B]? = some (.cells #[.slice so sn scap, .int .i64 st, d2, d3] 26 (0, 0))) (h02 : Below w0.heap.size w0 w2) (h25 : Below w2.heap.size w2 w5) (hrow : Sp.Row w0 so sn sig) (hr : sn * 16 ≤ 140737488351232)
    (zb : Nat) (hz : w5.heap[zb]? = some (.cells #[.slice none 0 0, .int .i64 0, .slice none 0 0, .slice none 0 0] 26 (0, 0)))
    (hgd : o.guard = none) (s x : Operand) (ho : o.op = .call { callee := .builtin .append, args := #[s, x], argTypes := #[22, 22] }) (hs : a.eval s = .slice none 0 0) (hx : a.eval x = .slice so sn scap)
    (h : ∀ so' sn' scap' w6, RowKit.Hid (w6.ownsRow w0.heap.size 9 1 (.slice so' sn' scap') sig.length (sig.map Value.string)) → RowKit.Hid (Below w2.heap.size w2 w6) → RowKit.Hid (Below w5.heap.size w5 w6) → w6.cell? ⟨B, 0, none⟩ = some (.slice so sn scap) → w6.cell? ⟨B, 1, none⟩ = some (.int .i64 st) → B < w6.heap.size →
      RowKit.Hid (w6.heap[zb]? = some (.cells #[.slice none 0 0, .int .i64 0, .slice none 0 0, .slice none 0 0] 26 (0, 0))) →
      (w6.cell? ⟨zb, 0, none⟩ = some (.slice none 0 0) ∧ w6.cell? ⟨zb, 1, none⟩ = some (.int .i64 0) ∧ w6.cell? ⟨zb, 2, none⟩ = some (.slice none 0 0) ∧ w6.cell? ⟨zb, 3, none⟩ = some (.slice none 0 0)) → (w6.frozen? ⟨zb, 0, none⟩ = false ∧ w6.frozen? ⟨zb, 1, none⟩ = false ∧ w6.frozen? ⟨zb, 2, none⟩ = false ∧ w6.frozen? ⟨zb, 3, none⟩ = false) → zb < w6.heap.size →
      K (a.put o.dst (.slice so' sn' scap')) w6) :
    if Region.wanted o (yielded ops a.tmps) = true then Oper.wp Tryz.prog o a w5 K Q else E :=
  step_app NB2 h02 h25 hrow hr hgd s x ho hs hx fun so' sn' scap' w6 ho6 hb6 hb56 k0 k1 lB => by
    have kz := blk_below hz hb56.out (blk_lt hz)
    exact h so' sn' scap' w6 ho6 hb6 hb56 k0 k1 lB (Sp.hid kz) ⟨blk_cell (i := 0) kz rfl, blk_cell (i := 1) kz rfl, blk_cell (i := 2) kz rfl, blk_cell (i := 3) kz rfl⟩ ⟨blk_free (i := 0) kz, blk_free (i := 1) kz, blk_free (i := 2) kz, blk_free (i := 3) kz⟩ (blk_lt kz)
end Nf
end Go.Proofs.YtpoblcmjfcpiaaaGreat

/-
  The reference's Of under way: a list of maps, one for each state: what lies in memory.
-/
set_option linter.unusedVariables false
namespace Go.Proofs.YtpoblcmjfcpiaaaGreat
open Go.RowKit
namespace Nf
def RMap (w : World) (b n i : Nat) (A : TrA) : Prop := KMap 9 Value.string (fun s : ByteArray => s.size ≤ maxLen) w b n (fun s => trFind A i s)
def mapV (b : Nat) : Value := .map (some b)
theorem mapInfo : (Tryz.prog.info? 92).map (fun i => (i.zero, i.size, i.bytes)) = some (some (.map none), 1, 8) := by kernel_rfl
/-- One map appended to a row of the call's own. -/
theorem push_map {w : World} {ops : Array Oper} {rest : List Oper} {o : Oper} {a : Act} {Q : Exit → Act → World → Prop} (hgd : o.guard = none) (s x : Operand)
    (ho : o.op = .call { callee := .builtin .append, args := #[s, x], argTypes := #[93, 93] })
    (base : Nat) (v : Value) (L : List Nat) (hs : a.eval s = v) (hown : w.ownsRow base 92 1 v L.length (L.map mapV))
    (q : Nat) (ad : Addr) (c : Nat) (hx : a.eval x = .slice (some ad) 1 c) (hc : w.cell? ad = some (.map (some q))) (hbig : L.length ≤ 1000000) (hbase : base ≤ w.heap.size)
    (h : ∀ v' w', w'.ownsRow base 92 1 v' (L ++ [q]).length ((L ++ [q]).map mapV) → w.grownBy w' v.ownBlock → wpList Tryz.prog ops Q rest (a.put o.dst v') w') : wpList Tryz.prog ops Q (o :: rest) a w := by
  obtain ⟨i0, hi, hz0, hz1, hz2⟩ := info_parts mapInfo
  have hnews : ∀ j u, ([Value.map (some q)])[j]? = some u → w.cell? (ad.add j) = some u := by
    intro j u hj
    match j, hj with
    | 0, hj =>
      simp at hj; subst hj
      have : ad.add 0 = ad := by unfold Addr.add; obtain ⟨b, o, sp⟩ := ad; cases sp <;> simp
      rw [this]; exact hc
  refine wpList_append_own_at w hgd s x 93 ho base 92 i0 (.map none) 1 8 Tryz.underlying93 hi hz0 hz1 hz2 rfl (by decide) v _ _ hs hown ad 1 c [.map (some q)] hx rfl hnews (fun u hu => by simp at hu; subst hu; rfl) (by unfold maxLen; omega) (by omega) hbase ?_
  intro v' w' hown' hgrow _ hat
  exact h v' w' (by simpa [mapV] using hown') hgrow
structure RoAt (w0 w : World) (R oB xb K : Nat) (mbs : Nat → Nat) (A : TrA) (nv : Value) (sv : Value) (l : List ArcV) (lv : Value) (E : List EndV) (ev : Value) (X : List Nat) : Prop where
  zblk : w.heap[R]? = some (.cells #[.slice none 0 0, .int .i64 0, .slice none 0 0, .slice none 0 0] 26 (0, 0))
  rblk : w.heap[oB]? = some (.cells #[sv, .int .i64 1, lv, ev] 26 (0, 0))
  lown : w.ownsRow w0.heap.size 51 5 lv l.length (l.flatMap arcCells)
  eown : w.ownsRow w0.heap.size 53 2 ev E.length (E.flatMap endCells)
  nown : w.ownsRow w0.heap.size 92 1 nv K (((List.range K).map mbs).map mapV)
  maps : ∀ i, i < K → RMap w (mbs i) A.length i A
  inj : ∀ i j, i < K → j < K → mbs i = mbs j → i = j
  xs : SetMap w xb X
  xne : ∀ i, i < K → mbs i ≠ xb
  below : RowKit.Below w0.heap.size w0 w
  rbase : w0.heap.size ≤ R
  bbase : w0.heap.size ≤ oB
  mbase : ∀ i, i < K → w0.heap.size ≤ mbs i
  xbase : w0.heap.size ≤ xb
  neR : oB ≠ R
theorem SetMap.blk {w : World} {b : Nat} {A : List Nat} (h : SetMap w b A) : ∃ es c, w.heap[b]? = some (.map es c) := by
  obtain ⟨D, ⟨es, c, h1, _⟩, _⟩ := h
  exact ⟨es, c, h1⟩
theorem SetMap.far {w : World} {b : Nat} {A : List Nat} (h : SetMap w b A) {a : Addr} {cs : Array Value} {t : TypeId} {fr : Nat × Nat} (hg : w.heap[a.block]? = some (.cells cs t fr)) (u : Value) : SetMap (w.setCell a u) b A := by
  obtain ⟨es, c, hb⟩ := h.blk
  refine h.kept (row := some a.block) ⟨rfl, rfl, rfl, by simp [World.setCell], fun k hk hn => Below.heap_setCell _ _ _ _ (fun e => hn (by rw [e]))⟩ (fun e => ?_)
  injection e with e
  subst e
  rw [hb] at hg
  cases hg
section
variable {w0 w w1 : World} {R oB xb K : Nat} {mbs : Nat → Nat} {A : TrA} {nv sv lv ev : Value} {l : List ArcV} {E : List EndV} {X : List Nat}
theorem RoAt.under (h : RoAt w0 w R oB xb K mbs A nv sv l lv E ev X) (hb : RowKit.Below w.heap.size w w1) : RoAt w0 w1 R oB xb K mbs A nv sv l lv E ev X := by
  have hg : w.grownBy w1 none := ⟨hb.os, hb.tape, hb.output, hb.size, fun i hi _ => hb.block i hi⟩
  have kp : ∀ v : Value, v.ownBlock = none ∨ v.ownBlock ≠ none := fun v => by cases v.ownBlock <;> simp
  exact ⟨blk_below h.zblk hb (blk_lt h.zblk), blk_below h.rblk hb (blk_lt h.rblk), h.lown.kept hg (kp _), h.eown.kept hg (kp _), h.nown.kept hg (kp _), fun i hi => (h.maps i hi).below hb, h.inj, h.xs.below hb, h.xne, h.below.trans (hb.mono h.below.size), h.rbase, h.bbase, h.mbase, h.xbase, h.neR⟩
theorem RoAt.alloc (h : RoAt w0 w R oB xb K mbs A nv sv l lv E ev X) (o : Obj) : RoAt w0 (w.alloc o) R oB xb K mbs A nv sv l lv E ev X := h.under ((RowKit.Below.refl _ w).alloc (Nat.le_refl _) o)
theorem RoAt.drew (h : RoAt w0 w R oB xb K mbs A nv sv l lv E ev X) : RoAt w0 w.drew R oB xb K mbs A nv sv l lv E ev X := h.under ((RowKit.Below.refl _ w).drew)
/-- A map of the list stored into. -/
theorem RoAt.put (h : RoAt w0 w R oB xb K mbs A nv sv l lv E ev X) {q : Nat} {s : ByteArray} (hq : q < K) (hn : trFind A q s = none) (hg : w.grownBy w1 (some (mbs q))) (hm : RMap w1 (mbs q) (A.length + 1) q (A ++ [(q, s, A.length + 1)])) : RoAt w0 w1 R oB xb K mbs (A ++ [(q, s, A.length + 1)]) nv sv l lv E ev X := by
  obtain ⟨es, c, hb⟩ := (h.maps q hq).blk
  have n1 : mbs q ≠ R := (h.maps q hq).ne h.zblk
  have n2 : mbs q ≠ oB := (h.maps q hq).ne h.rblk
  have hlen : (A ++ [(q, s, A.length + 1)]).length = A.length + 1 := by simp
  refine ⟨blk_grown h.zblk hg (fun e => n1 (by injection e)), blk_grown h.rblk hg (fun e => n2 (by injection e)), h.lown.kept hg (.inr (own_map_ne h.lown hb)), h.eown.kept hg (.inr (own_map_ne h.eown hb)), h.nown.kept hg (.inr (own_map_ne h.nown hb)), fun i hi => ?_, h.inj, h.xs.kept hg (fun e => h.xne q hq (by injection e with e; exact e.symm)), h.xne, Below.grownMap h.below hg h.below.size (h.mbase q hq), h.rbase, h.bbase, h.mbase, h.xbase, h.neR⟩
  rw [hlen]
  by_cases e : i = q
  · subst e; exact hm
  · have hk := ((h.maps i hi).kept hg (fun e2 => e (h.inj i q hi hq (by injection e2)))).mono (Nat.le_succ _)
    obtain ⟨D, h1, h2, h3⟩ := hk
    refine ⟨D, h1, h2, fun x hx kl hkl => ?_⟩
    have h4 := h3 x hx kl hkl
    simp only [trFind_snoc _ hn, if_neg (fun hh : q = i ∧ s = x => e hh.1.symm)]
    exact h4
/-- One map more. -/
theorem RoAt.more (h : RoAt w0 w R oB xb K mbs A nv sv l lv E ev X) (hA : ∀ s, trFind A K s = none) {c : Obj} {v' : Value} (hg : ((w.alloc (.map #[] 0)).alloc c).grownBy w1 nv.ownBlock)
    (hown : w1.ownsRow w0.heap.size 92 1 v' (((List.range K).map mbs) ++ [w.heap.size]).length ((((List.range K).map mbs) ++ [w.heap.size]).map mapV)) :
    RoAt w0 w1 R oB xb (K + 1) (fun i => if i < K then mbs i else w.heap.size) A v' sv l lv E ev X := by
  have h2 := (h.alloc (.map #[] 0)).alloc c
  have hgr : w.grownBy w1 nv.ownBlock := World.grownBy.trans (World.grownBy_alloc w (.map #[] 0) _) (World.grownBy.trans (World.grownBy_alloc _ c _) hg)
  have z1 := blk_grown h.zblk hgr (own_ne h.nown h.zblk (by decide))
  have r1 := blk_grown h.rblk hgr (own_ne h.nown h.rblk (by decide))
  have hnew : ((w.alloc (.map #[] 0)).alloc c).heap[w.heap.size]? = some (.map #[] 0) := blk_alloc (Below.heap_new w (.map #[] 0)) c
  have hnm : RMap ((w.alloc (.map #[] 0)).alloc c) w.heap.size 0 K A := by
    have h5 : KMap 9 Value.string (fun s : ByteArray => s.size ≤ maxLen) (w.alloc (.map #[] 0)) w.heap.size 0 (fun _ => none) := KMap.new w
    have h6 := h5.below ((RowKit.Below.refl _ (w.alloc (.map #[] 0))).alloc (Nat.le_refl _) c)
    have e : (fun s => trFind A K s) = fun _ => none := funext hA
    unfold RMap
    rw [e]
    exact h6
  have hnm1 : RMap w1 w.heap.size 0 K A := hnm.kept hg (fun e => own_map_ne h2.nown hnew e.symm)
  have lt : ∀ i, i < K → mbs i < w.heap.size := fun i hi => by obtain ⟨es, c, hb⟩ := (h.maps i hi).blk; exact blk_lt hb
  refine ⟨z1, r1, h.lown.kept hgr (own_own_ne h.lown h.nown (by decide)), h.eown.kept hgr (own_own_ne h.eown h.nown (by decide)), ?_, fun i hi => ?_, fun i j hi hj e => ?_, ?_, fun i hi => ?_, ?_, h.rbase, h.bbase, fun i hi => ?_, h.xbase, h.neR⟩
  · have e : (List.range (K + 1)).map (fun i => if i < K then mbs i else w.heap.size) = ((List.range K).map mbs) ++ [w.heap.size] := by
      rw [List.range_succ, List.map_append]
      congr 1
      · apply List.map_congr_left
        intro i hi
        simp [List.mem_range.1 hi]
      · simp
    rw [e]
    have e2 : (((List.range K).map mbs) ++ [w.heap.size]).length = K + 1 := by simp
    rw [e2] at hown
    exact hown
  · by_cases e : i < K
    · simp only [e, if_true]
      obtain ⟨es, c', hb⟩ := (h.maps i e).blk
      exact (h.maps i e).kept hgr (fun e2 => own_map_ne h.nown hb e2.symm)
    · have e2 : i = K := by omega
      subst e2
      simp only [Nat.lt_irrefl, if_false]
      exact hnm1.mono (Nat.zero_le _)
  · by_cases e1 : i < K <;> by_cases e2 : j < K <;> simp only [e1, e2, if_true, if_false] at e
    · exact h.inj i j e1 e2 e
    · have := lt i e1; omega
    · have := lt j e2; omega
    · omega
  · obtain ⟨es, c', hb⟩ := h.xs.blk
    exact h.xs.kept hgr (fun e2 => own_map_ne h.nown hb e2.symm)
  · by_cases e1 : i < K
    · simp only [e1, if_true]; exact h.xne i e1
    · simp only [e1, if_false]
      obtain ⟨es, c', hb⟩ := h.xs.blk
      have := blk_lt hb
      omega
  · exact RowKit.Below.grown h.below hgr h.below.size (fun k hk => (h.nown.lt k hk).1)
  · by_cases e1 : i < K
    · simp only [e1, if_true]; exact h.mbase i e1
    · simp only [e1, if_false]; exact h.below.size
/-- An arc appended. -/
theorem RoAt.push (h : RoAt w0 w R oB xb K mbs A nv sv l lv E ev X) {a : ArcV} {v' : Value} (hg : w.grownBy w1 lv.ownBlock) (hown : w1.ownsRow w0.heap.size 51 5 v' (l ++ [a]).length ((l ++ [a]).flatMap arcCells)) :
    RoAt w0 (w1.setCell ⟨oB, 2, none⟩ v') R oB xb K mbs A nv sv (l ++ [a]) v' E ev X := by
  have z1 := blk_grown h.zblk hg (own_ne h.lown h.zblk (by decide))
  have r1 := blk_grown h.rblk hg (own_ne h.lown h.rblk (by decide))
  have e1 := h.eown.kept hg (own_own_ne h.eown h.lown (by decide))
  have n1 := h.nown.kept hg (own_own_ne h.nown h.lown (by decide))
  have b1 := RowKit.Below.grown h.below hg h.below.size (fun k hk => (h.lown.lt k hk).1)
  refine ⟨blk_far z1 (a := ⟨oB, 2, none⟩) (fun e => h.neR e.symm) _, ?_, own_far hown (a := ⟨oB, 2, none⟩) (own_ne hown r1 (by decide)), own_far e1 (a := ⟨oB, 2, none⟩) (own_ne e1 r1 (by decide)), own_far n1 (a := ⟨oB, 2, none⟩) (own_ne n1 r1 (by decide)), fun i hi => ?_, h.inj, ?_, h.xne,
    b1.setCell (p := ⟨oB, 2, none⟩) h.bbase _, h.rbase, h.bbase, h.mbase, h.xbase, h.neR⟩
  · have := blk_set (i := 2) r1 v'
    simpa using this
  · obtain ⟨es, c', hb⟩ := (h.maps i hi).blk
    exact ((h.maps i hi).kept hg (fun e2 => own_map_ne h.lown hb e2.symm)).far (a := ⟨oB, 2, none⟩) r1 _
  · obtain ⟨es, c', hb⟩ := h.xs.blk
    exact (h.xs.kept hg (fun e2 => own_map_ne h.lown hb e2.symm)).far (a := ⟨oB, 2, none⟩) r1 _
/-- An end appended. -/
theorem RoAt.pushE (h : RoAt w0 w R oB xb K mbs A nv sv l lv E ev X) {a : EndV} {v' : Value} (hg : w.grownBy w1 ev.ownBlock) (hown : w1.ownsRow w0.heap.size 53 2 v' (E ++ [a]).length ((E ++ [a]).flatMap endCells)) :
    RoAt w0 (w1.setCell ⟨oB, 3, none⟩ v') R oB xb K mbs A nv sv l lv (E ++ [a]) v' X := by
  have z1 := blk_grown h.zblk hg (own_ne h.eown h.zblk (by decide))
  have r1 := blk_grown h.rblk hg (own_ne h.eown h.rblk (by decide))
  have e1 := h.lown.kept hg (own_own_ne h.lown h.eown (by decide))
  have n1 := h.nown.kept hg (own_own_ne h.nown h.eown (by decide))
  have b1 := RowKit.Below.grown h.below hg h.below.size (fun k hk => (h.eown.lt k hk).1)
  refine ⟨blk_far z1 (a := ⟨oB, 3, none⟩) (fun e => h.neR e.symm) _, ?_, own_far e1 (a := ⟨oB, 3, none⟩) (own_ne e1 r1 (by decide)), own_far hown (a := ⟨oB, 3, none⟩) (own_ne hown r1 (by decide)), own_far n1 (a := ⟨oB, 3, none⟩) (own_ne n1 r1 (by decide)), fun i hi => ?_, h.inj, ?_, h.xne,
    b1.setCell (p := ⟨oB, 3, none⟩) h.bbase _, h.rbase, h.bbase, h.mbase, h.xbase, h.neR⟩
  · have := blk_set (i := 3) r1 v'
    simpa using this
  · obtain ⟨es, c', hb⟩ := (h.maps i hi).blk
    exact ((h.maps i hi).kept hg (fun e2 => own_map_ne h.eown hb e2.symm)).far (a := ⟨oB, 3, none⟩) r1 _
  · obtain ⟨es, c', hb⟩ := h.xs.blk
    exact (h.xs.kept hg (fun e2 => own_map_ne h.eown hb e2.symm)).far (a := ⟨oB, 3, none⟩) r1 _
/-- The set of ends stored into. -/
theorem RoAt.putX (h : RoAt w0 w R oB xb K mbs A nv sv l lv E ev X) {X' : List Nat} (hg : w.grownBy w1 (some xb)) (hm : SetMap w1 xb X') : RoAt w0 w1 R oB xb K mbs A nv sv l lv E ev X' := by
  obtain ⟨es, c, hb⟩ := h.xs.blk
  have n1 : xb ≠ R := fun e => by have := h.zblk; rw [e] at hb; rw [this] at hb; cases hb
  have n2 : xb ≠ oB := fun e => by have := h.rblk; rw [e] at hb; rw [this] at hb; cases hb
  exact ⟨blk_grown h.zblk hg (fun e => n1 (by injection e)), blk_grown h.rblk hg (fun e => n2 (by injection e)), h.lown.kept hg (.inr (own_map_ne h.lown hb)), h.eown.kept hg (.inr (own_map_ne h.eown hb)), h.nown.kept hg (.inr (own_map_ne h.nown hb)), fun i hi => (h.maps i hi).kept hg (fun e => h.xne i hi (by injection e)), h.inj, hm, h.xne, Below.grownMap h.below hg h.below.size h.xbase, h.rbase, h.bbase, h.mbase, h.xbase, h.neR⟩
/-- The number of states set: nothing else is asked any more. -/
theorem RoAt.cell (h : RoAt w0 w R oB xb K mbs A nv sv l lv E ev X) {q : Nat} (hq : q < K) : ∃ nb cap, nv = .slice (some ⟨nb, 0, none⟩) K cap ∧ w.cell? ⟨nb, q, none⟩ = some (.map (some (mbs q))) := by
  have hk : K = ((List.range K).map mbs).length := by simp
  rcases h.nown.2 with ⟨rfl, h0⟩ | ⟨g, cap, cur, hv, hb, hblk, hr⟩
  · omega
  · subst hv
    refine ⟨g, cap, rfl, ?_⟩
    have hm := h.nown
    have hml : ((List.range K).map mbs).length ≤ maxLen := by rw [← hk]; exact Nat.le_trans hr.1 hr.2.1
    have hs := seq_of_own (en := mapV) (xs := (List.range K).map mbs) (e := 92) (by rw [← hk]; exact hm) hml
    obtain ⟨ao', cap', hv', hseq, _⟩ := hs
    injection hv' with e1 e2 e3
    subst e1
    obtain ⟨b, off, e, hcc⟩ := hseq.2.2 (by rw [← hk]; omega)
    cases e
    have := hcc q (mbs q) (by simp [hq])
    simpa [mapV] using this
end
end Nf
end Go.Proofs.YtpoblcmjfcpiaaaGreat
