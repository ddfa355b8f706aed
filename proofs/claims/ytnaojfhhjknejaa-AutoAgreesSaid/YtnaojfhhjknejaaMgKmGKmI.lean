/-
  Maps to numbers that the call has made, by what they hold: looked up with whether they are there; stored into; keys that are texts.
-/
import Derived.Test.YtnaojfhhjknejaaMgAuMemAuGrAuNet
import Derived.Maps.OwnOps
import Derived.Maps.OwnSet
import Derived.DeepKeys4
import Derived.DataShut
import Derived.StringKeys
import Derived.Test.YtnaojfhhjknejaaMgMapB
set_option linter.unusedVariables false
set_option maxRecDepth 100000
namespace Go.Proofs.Ytnaojfhhjknejaa
open Go.RowKit Go.Maps
namespace Nf
/-- What a kind of key must be good for. -/
structure KeyK (K : TypeId) {κ : Type} (kv : κ → Value) (dom : κ → Prop) : Prop where
  keyed : Maps.Keyed Try.prog K
  inj : ∀ x y, kv x = kv y → x = y
  key : ∀ x, dom x → ∃ kl, keyOf Try.prog K (kv x) = some kl
/-- Block b is a map with at most n entries that holds f. -/
def KMap (K : TypeId) {κ : Type} (kv : κ → Value) (dom : κ → Prop) (w : World) (b n : Nat) (f : κ → Option Nat) : Prop :=
  ∃ D : DataW Unit, w.ownsMap Try.prog K (plainElem Try.prog 3) b n D ∧ Maps.IsMap D ∧ ∀ x, dom x → ∀ kl, keyOf Try.prog K (kv x) = some kl → (Maps.has D kl = (f x).isSome ∧ ∀ t, f x = some t → ∀ zd, D.atKey kl zd = .lit (.int .i64 t))
section
variable {K : TypeId} {κ : Type} {kv : κ → Value} {dom : κ → Prop} {w w' : World} {b n : Nat} {f : κ → Option Nat}
theorem KMap.kept (h : KMap K kv dom w b n f) {row : Option Nat} (hg : w.grownBy w' row) (hne : some b ≠ row) : KMap K kv dom w' b n f := by
  obtain ⟨D, h1, h2⟩ := h
  exact ⟨D, h1.kept hg hne, h2⟩
theorem KMap.below (h : KMap K kv dom w b n f) (hb : Below w.heap.size w w') : KMap K kv dom w' b n f :=
  h.kept (row := none) ⟨hb.os, hb.tape, hb.output, hb.size, fun k hk _ => hb.block k hk⟩ (by simp)
theorem KMap.at (h : KMap K kv dom w b n f) (hw : w'.heap[b]? = w.heap[b]?) : KMap K kv dom w' b n f := by
  obtain ⟨D, ⟨es, c, h1, h2⟩, h3⟩ := h
  exact ⟨D, ⟨es, c, hw.trans h1, h2⟩, h3⟩
theorem KMap.blk (h : KMap K kv dom w b n f) : ∃ es c, w.heap[b]? = some (.map es c) := by
  obtain ⟨D, ⟨es, c, h1, _⟩, _⟩ := h
  exact ⟨es, c, h1⟩
theorem KMap.ne (h : KMap K kv dom w b n f) {g : Nat} {cs : Array Value} {t : TypeId} {fr : Nat × Nat} (hg : w.heap[g]? = some (.cells cs t fr)) : b ≠ g := by
  obtain ⟨es, c, h1⟩ := h.blk
  rintro rfl
  rw [h1] at hg
  cases hg
theorem KMap.far (h : KMap K kv dom w b n f) {a : Addr} {cs : Array Value} {t : TypeId} {fr : Nat × Nat} (hg : w.heap[a.block]? = some (.cells cs t fr)) (u : Value) : KMap K kv dom (w.setCell a u) b n f := by
  obtain ⟨D, ⟨es, c, h1, h2⟩, h3⟩ := h
  exact ⟨D, ⟨es, c, blk_far h1 (a := a) (KMap.ne ⟨D, ⟨es, c, h1, h2⟩, h3⟩ hg) u, h2⟩, h3⟩
theorem KMap.mono (h : KMap K kv dom w b n f) {m : Nat} (hm : n ≤ m) : KMap K kv dom w b m f := by
  obtain ⟨D, h1, h2⟩ := h
  exact ⟨D, h1.mono hm, h2⟩
theorem KMap.new (w : World) : KMap K kv dom (w.alloc (.map #[] 0)) w.heap.size 0 (fun _ => none) :=
  ⟨.map [], World.ownsMap_made w _ _ _, Maps.isMap_empty, fun x _ kl _ => ⟨by simp [Maps.has], by simp⟩⟩
theorem zero_int (w : World) : (zeroValue 3).run Try.prog w = .ok (.int .i64 0) w := by kernel_rfl
/-- 'v, ok := m[k]' at the operation. -/
theorem kmap_look {ops : Array Oper} {rest : List Oper} {o : Oper} {a : Act} {Q : Exit → Act → World → Prop} (hk : KeyK K kv dom) (hgd : o.guard = none) (m x : Operand) (T : TypeId) (hop : o.op = Op.lookup T m x true)
    (hT : Try.prog.underlying T = some (.map K 3)) (h : KMap K kv dom w b n f) (y : κ) (hy : dom y) (hm : a.eval m = .map (some b)) (hx : a.eval x = kv y)
    (hK : ∀ c : Int, (∀ t : Nat, f y = some t → c = (t : Int)) → wpList Try.prog ops Q rest (a.put o.dst (.tuple #[.int .i64 c, .bool (f y).isSome])) w) : wpList Try.prog ops Q (o :: rest) a w := by
  obtain ⟨D, h1, h2, h3⟩ := h
  obtain ⟨kl, hkl⟩ := hk.key y hy
  obtain ⟨h4, h5⟩ := h3 y hy kl hkl
  refine wpList_lookup_own_ok_int w hgd m x T hop K 3 .i64 hk.keyed hT Try.underlying3 (zero_int w) b n D hm h1 (kv y) kl hx hkl (fun c hc _ => ?_)
  rw [h4]
  refine hK c fun t ht => ?_
  have := h5 t ht (.lit (.int .i64 0))
  rw [hc] at this
  injection this with this
  injection this
/-- 'v, ok := m[k]' at the operation: there. -/
theorem kmap_some {ops : Array Oper} {rest : List Oper} {o : Oper} {a : Act} {Q : Exit → Act → World → Prop} (hk : KeyK K kv dom) (hgd : o.guard = none) (m x : Operand) (T : TypeId) (hop : o.op = Op.lookup T m x true)
    (hT : Try.prog.underlying T = some (.map K 3)) (h : KMap K kv dom w b n f) (y : κ) (hy : dom y) (t : Nat) (hf : f y = some t) (hm : a.eval m = .map (some b)) (hx : a.eval x = kv y)
    (hK : wpList Try.prog ops Q rest (a.put o.dst (.tuple #[.int .i64 (t : Int), .bool true])) w) : wpList Try.prog ops Q (o :: rest) a w := by
  refine kmap_look hk hgd m x T hop hT h y hy hm hx (fun c hc => ?_)
  rw [hc t hf, hf]
  exact hK
/-- .. not there. -/
theorem kmap_none {ops : Array Oper} {rest : List Oper} {o : Oper} {a : Act} {Q : Exit → Act → World → Prop} (hk : KeyK K kv dom) (hgd : o.guard = none) (m x : Operand) (T : TypeId) (hop : o.op = Op.lookup T m x true)
    (hT : Try.prog.underlying T = some (.map K 3)) (h : KMap K kv dom w b n f) (y : κ) (hy : dom y) (hf : f y = none) (hm : a.eval m = .map (some b)) (hx : a.eval x = kv y)
    (hK : ∀ c : Int, wpList Try.prog ops Q rest (a.put o.dst (.tuple #[.int .i64 c, .bool false])) w) : wpList Try.prog ops Q (o :: rest) a w := by
  refine kmap_look hk hgd m x T hop hT h y hy hm hx (fun c hc => ?_)
  rw [hf]
  exact hK c
/-- 'm[k]' at the operation. -/
theorem kmap_get {ops : Array Oper} {rest : List Oper} {o : Oper} {a : Act} {Q : Exit → Act → World → Prop} (hk : KeyK K kv dom) (hgd : o.guard = none) (m x : Operand) (T : TypeId) (hop : o.op = Op.lookup T m x false)
    (hT : Try.prog.underlying T = some (.map K 3)) (h : KMap K kv dom w b n f) (y : κ) (hy : dom y) (t : Nat) (hf : f y = some t) (hm : a.eval m = .map (some b)) (hx : a.eval x = kv y)
    (hK : wpList Try.prog ops Q rest (a.put o.dst (.int .i64 (t : Int))) w) : wpList Try.prog ops Q (o :: rest) a w := by
  obtain ⟨D, h1, h2, h3⟩ := h
  obtain ⟨kl, hkl⟩ := hk.key y hy
  obtain ⟨h4, h5⟩ := h3 y hy kl hkl
  refine wpList_lookup_own_int w hgd m x T hop K 3 .i64 hk.keyed hT Try.underlying3 (zero_int w) b n D hm h1 (kv y) kl hx hkl (fun c hc _ => ?_)
  rw [h5 t hf] at hc
  injection hc with hc
  injection hc with _ hc
  rw [← hc]
  exact hK
/-- 'm[k] = t' at the operation. -/
theorem kmap_put {ops : Array Oper} {rest : List Oper} {o : Oper} {a : Act} {Q : Exit → Act → World → Prop} (hk : KeyK K kv dom) (hgd : o.guard = none) (m x v : Operand) (T : TypeId) (hop : o.op = Op.mapUpdate T m x v)
    (hT : Try.prog.underlying T = some (.map K 3)) (h : KMap K kv dom w b n f) (y : κ) (hy : dom y) (t : Nat) (ht : t ≤ 1000000000) (hn : n ≤ 1000000) (f' : κ → Option Nat) (hf : ∀ z, dom z → (z = y → f' z = some t) ∧ (z ≠ y → f' z = f z))
    (hm : a.eval m = .map (some b)) (hx : a.eval x = kv y) (hv : a.eval v = .int .i64 (t : Int))
    (hK : ∀ w', KMap K kv dom w' b (n + 1) f' → w.grownBy w' (some b) → wpList Try.prog ops Q rest (a.put o.dst undef) w') : wpList Try.prog ops Q (o :: rest) a w := by
  obtain ⟨D, h1, h2, h3⟩ := h
  obtain ⟨kl, hkl⟩ := hk.key y hy
  have e1 : IntKind.i64.min = -9223372036854775808 := by decide
  have e2 : IntKind.i64.max = 9223372036854775807 := by decide
  have hw : (Lit.int .i64 (t : Int)).wf = true := (Lit.wf_int_iff .i64 t).2 (by rw [e1, e2]; omega)
  refine wpList_mapUpdate_own w hgd m x v T hop K 3 hk.keyed hT _ b n D hm h1 (by unfold maxLen; omega) (kv y) _ kl hx hv hkl (.lit (.int .i64 t)) [] (plainElem_int Try.underlying3 hw) (fun w' r1 r2 => hK w' ⟨_, r1, h2.put _ _, fun z hz lz hlz => ?_⟩ r2)
  by_cases e : z = y
  · subst e
    rw [hkl] at hlz
    cases hlz
    rw [((hf z hz).1 rfl)]
    have hkk := hk.keyed.key hkl
    exact ⟨by rw [Maps.has_put_same h2 hkk]; rfl, fun t' ht' zd => by cases ht'; exact Maps.atKey_put_same h2 hkk _ _⟩
  · have hne : lz ≠ kl := fun e2 => e (hk.inj _ _ (hk.keyed.inj (l := kl) (by rw [← e2]; exact hlz) hkl))
    rw [((hf z hz).2 e)]
    obtain ⟨h4, h5⟩ := h3 z hz lz hlz
    exact ⟨by rw [Maps.has_put_other hne]; exact h4, fun t' ht' zd => by rw [Maps.atKey_put_other hne]; exact h5 t' ht' zd⟩
/-- 'v, ok := m[k]' as a run, whatever is drawn: there. -/
theorem KMap.run_some (h : KMap K kv dom w b n f) (hk : KeyK K kv dom) {T : TypeId} (hT : Try.prog.underlying T = some (.map K 3)) {y : κ} (hy : dom y) {t : Nat} (hf : f y = some t) :
    (Instr.lookup T (.map (some b)) (kv y) true).run Try.prog w = .ok (.tuple #[.int .i64 (t : Int), .bool true]) w := by
  obtain ⟨D, h1, h2, h3⟩ := h
  obtain ⟨kl, hkl⟩ := hk.key y hy
  obtain ⟨h4, h5⟩ := h3 y hy kl hkl
  obtain ⟨v, ps, hrun, hv⟩ := h1.look_ok hk.keyed hT (zero_int w) (plainElem_int Try.underlying3 (by decide)) hkl
  obtain ⟨c, rfl, hc, hwc⟩ := plainElem_int_inv Try.underlying3 hv
  have e := congrArg Prod.fst hc
  simp only at e
  rw [h5 t hf] at e
  injection e with e
  injection e with _ e
  rw [hrun, h4, hf, ← e]
  rfl
/-- .. not there. -/
theorem KMap.run_none (h : KMap K kv dom w b n f) (hk : KeyK K kv dom) {T : TypeId} (hT : Try.prog.underlying T = some (.map K 3)) {y : κ} (hy : dom y) (hf : f y = none) :
    (Instr.lookup T (.map (some b)) (kv y) true).run Try.prog w = .ok (.tuple #[.int .i64 0, .bool false]) w := by
  obtain ⟨D, h1, h2, h3⟩ := h
  obtain ⟨kl, hkl⟩ := hk.key y hy
  obtain ⟨h4, h5⟩ := h3 y hy kl hkl
  obtain ⟨v, ps, hrun, hv⟩ := h1.look_ok hk.keyed hT (zero_int w) (plainElem_int Try.underlying3 (by decide)) hkl
  obtain ⟨c, rfl, hc, hwc⟩ := plainElem_int_inv Try.underlying3 hv
  have hn : Maps.has D kl = false := by rw [h4, hf]; rfl
  have e := congrArg Prod.fst hc
  simp only at e
  rw [Maps.atKey_of_not_has hn] at e
  injection e with e
  injection e with _ e
  rw [hrun, h4, hf, ← e]
  rfl
/-- 'm[k] = t' at a step of a region that draws its order. -/
theorem kmap_wp {o : Oper} {a : Act} {Kt : Act → World → Prop} {Q : Exit → Act → World → Prop} (hk : KeyK K kv dom) (m x v : Operand) (T : TypeId) (hop : o.op = Op.mapUpdate T m x v)
    (hT : Try.prog.underlying T = some (.map K 3)) (h : KMap K kv dom w b n f) (y : κ) (hy : dom y) (t : Nat) (ht : t ≤ 1000000000) (hn : n ≤ 1000000) (f' : κ → Option Nat) (hf : ∀ z, dom z → (z = y → f' z = some t) ∧ (z ≠ y → f' z = f z))
    (hm : a.eval m = .map (some b)) (hx : a.eval x = kv y) (hv : a.eval v = .int .i64 (t : Int))
    (hK : ∀ w', KMap K kv dom w' b (n + 1) f' → w.grownBy w' (some b) → Kt (a.put o.dst undef) w') : o.wp Try.prog a w Kt Q := by
  obtain ⟨D, h1, h2, h3⟩ := h
  obtain ⟨kl, hkl⟩ := hk.key y hy
  have e1 : IntKind.i64.min = -9223372036854775808 := by decide
  have e2 : IntKind.i64.max = 9223372036854775807 := by decide
  have hw : (Lit.int .i64 (t : Int)).wf = true := (Lit.wf_int_iff .i64 t).2 (by rw [e1, e2]; omega)
  obtain ⟨w', hrun, r1, r2⟩ := h1.update hk.keyed hT (by unfold maxLen; omega) hkl (plainElem_int Try.underlying3 hw)
  unfold Oper.wp
  simp [execOp, hop, hm, hx, hv, hrun, Result.andThen]
  refine hK w' ⟨_, r1, h2.put _ _, fun z hz lz hlz => ?_⟩ r2
  by_cases e : z = y
  · subst e
    rw [hkl] at hlz
    cases hlz
    rw [((hf z hz).1 rfl)]
    have hkk := hk.keyed.key hkl
    exact ⟨by rw [Maps.has_put_same h2 hkk]; rfl, fun t' ht' zd => by cases ht'; exact Maps.atKey_put_same h2 hkk _ _⟩
  · have hne : lz ≠ kl := fun e2 => e (hk.inj _ _ (hk.keyed.inj (l := kl) (by rw [← e2]; exact hlz) hkl))
    rw [((hf z hz).2 e)]
    obtain ⟨h4, h5⟩ := h3 z hz lz hlz
    exact ⟨by rw [Maps.has_put_other hne]; exact h4, fun t' ht' zd => by rw [Maps.atKey_put_other hne]; exact h5 t' ht' zd⟩
end

/-- Keys that are texts. -/
theorem strK : KeyK 9 Value.string (fun s : ByteArray => s.size ≤ maxLen) :=
  ⟨Maps.string_keyed Try.underlying9, fun x y h => by injection h, fun x hx => ⟨_, WideMaps.keyOf_string_mk Try.underlying9 hx⟩⟩
end Nf
end Go.Proofs.Ytnaojfhhjknejaa

/-
  Maps of numbers to numbers; a key that is not there reads as nought.
-/
set_option linter.unusedVariables false
set_option maxRecDepth 100000
namespace Go.Proofs.Ytnaojfhhjknejaa
open Go.RowKit Go.Maps
namespace Nf
def numV (k : Nat) : Value := .int .i64 (k : Int)
def numDom (k : Nat) : Prop := k ≤ 1000000000
theorem intK : KeyK 3 numV numDom :=
  ⟨intKeyed, fun x y h => by unfold numV at h; injection h with _ h; omega, fun x hx => ⟨_, key_ok hx⟩⟩
section
variable {K : TypeId} {κ : Type} {kv : κ → Value} {dom : κ → Prop} {w w' : World} {b n : Nat} {f : κ → Option Nat}
/-- 'm[k]' at the operation, there or not. -/
theorem kmap_get0 {ops : Array Oper} {rest : List Oper} {o : Oper} {a : Act} {Q : Exit → Act → World → Prop} (hk : KeyK K kv dom) (hg2 : o.guard = none) (m x : Operand) (T : TypeId) (hop : o.op = Op.lookup T m x false)
    (hT : Try.prog.underlying T = some (.map K 3)) (h : KMap K kv dom w b n f) (y : κ) (hy : dom y) (hm : a.eval m = .map (some b)) (hx : a.eval x = kv y)
    (hK : wpList Try.prog ops Q rest (a.put o.dst (.int .i64 (((f y).getD 0 : Nat) : Int))) w) : wpList Try.prog ops Q (o :: rest) a w := by
  obtain ⟨D, h1, h2, h3⟩ := h
  obtain ⟨kl, hkl⟩ := hk.key y hy
  obtain ⟨h4, h5⟩ := h3 y hy kl hkl
  refine wpList_lookup_own_int w hg2 m x T hop K 3 .i64 hk.keyed hT Try.underlying3 (zero_int w) b n D hm h1 (kv y) kl hx hkl (fun c hc _ => ?_)
  cases hf : f y with
  | some t =>
    rw [h5 t hf] at hc
    injection hc with hc
    injection hc with _ hc
    rw [← hc]
    rw [hf] at hK
    exact hK
  | none =>
    have hn : Maps.has D kl = false := by rw [h4, hf]; rfl
    rw [Maps.atKey_of_not_has hn] at hc
    injection hc with hc
    injection hc with _ hc
    rw [← hc]
    rw [hf] at hK
    exact hK
/-- 'm[k]' as a run. -/
theorem KMap.run_get0 (h : KMap K kv dom w b n f) (hk : KeyK K kv dom) {T : TypeId} (hT : Try.prog.underlying T = some (.map K 3)) {y : κ} (hy : dom y) :
    (Instr.lookup T (.map (some b)) (kv y) false).run Try.prog w = .ok (.int .i64 (((f y).getD 0 : Nat) : Int)) w := by
  obtain ⟨D, h1, h2, h3⟩ := h
  obtain ⟨kl, hkl⟩ := hk.key y hy
  obtain ⟨h4, h5⟩ := h3 y hy kl hkl
  obtain ⟨v, ps, hrun, hv⟩ := h1.lookup hk.keyed hT (zero_int w) (plainElem_int Try.underlying3 (by decide)) hkl
  obtain ⟨c, rfl, hc, hwc⟩ := plainElem_int_inv Try.underlying3 hv
  have e := congrArg Prod.fst hc
  simp only at e
  rw [hrun]
  cases hf : f y with
  | some t =>
    rw [h5 t hf] at e
    injection e with e
    injection e with _ e
    rw [← e]; rfl
  | none =>
    have hn : Maps.has D kl = false := by rw [h4, hf]; rfl
    rw [Maps.atKey_of_not_has hn] at e
    injection e with e
    injection e with _ e
    rw [← e]; rfl
end
end Nf
end Go.Proofs.Ytnaojfhhjknejaa
