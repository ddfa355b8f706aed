/-
  Maps to numbers that the call has made, by what they hold: keys read off a letter; looked up with whether they are there; stored into.
-/
import Derived.Test.YtpoblcmjfcpiaaaGreatMgTePTeQTr
import Derived.Test.YtpoblcmjfcpiaaaGreatMgAuMemAuGrAuNet
import Derived.Maps.OwnOps
import Derived.Maps.OwnSet
import Derived.DeepKeys4
import Derived.DataShut
import Derived.StringKeys
import Derived.Test.YtpoblcmjfcpiaaaGreatMgOpenOpenW
import Derived.Test.YtpoblcmjfcpiaaaGreatMgAcP
set_option linter.unusedVariables false
set_option maxRecDepth 100000
namespace Go.Proofs.YtpoblcmjfcpiaaaGreat
open Go.RowKit Go.Maps
namespace Nf
/-- What a kind of key must be good for. -/
structure KeyK (K : TypeId) {κ : Type} (kv : κ → Value) (dom : κ → Prop) : Prop where
  keyed : Maps.Keyed Tryz.prog K
  inj : ∀ x y, kv x = kv y → x = y
  key : ∀ x, dom x → ∃ kl, keyOf Tryz.prog K (kv x) = some kl
/-- Block b is a map with at most n entries that holds f. -/
def KMap (K : TypeId) {κ : Type} (kv : κ → Value) (dom : κ → Prop) (w : World) (b n : Nat) (f : κ → Option Nat) : Prop :=
  ∃ D : DataW Unit, w.ownsMap Tryz.prog K (plainElem Tryz.prog 3) b n D ∧ Maps.IsMap D ∧ ∀ x, dom x → ∀ kl, keyOf Tryz.prog K (kv x) = some kl → (Maps.has D kl = (f x).isSome ∧ ∀ t, f x = some t → ∀ zd, D.atKey kl zd = .lit (.int .i64 t))
section
variable {K : TypeId} {κ : Type} {kv : κ → Value} {dom : κ → Prop} {w w' : World} {b n : Nat} {f : κ → Option Nat}
theorem KMap.kept (h : KMap K kv dom w b n f) {row : Option Nat} (hg : w.grownBy w' row) (hne : some b ≠ row) : KMap K kv dom w' b n f := by
  obtain ⟨D, h1, h2⟩ := h
  exact ⟨D, h1.kept hg hne, h2⟩
theorem KMap.below (h : KMap K kv dom w b n f) (hb : Below w.heap.size w w') : KMap K kv dom w' b n f :=
  h.kept (row := none) ⟨hb.os, hb.tape, hb.output, hb.size, fun k hk _ => hb.block k hk⟩ (by simp)
theorem KMap.blk (h : KMap K kv dom w b n f) : ∃ es c, w.heap[b]? = some (.map es c) := by
  obtain ⟨D, ⟨es, c, h1, _⟩, _⟩ := h
  exact ⟨es, c, h1⟩
theorem KMap.ne (h : KMap K kv dom w b n f) {g : Nat} {cs : Array Value} {t : TypeId} {fr : Nat × Nat} (hg : w.heap[g]? = some (.cells cs t fr)) : b ≠ g := by
  obtain ⟨es, c, h1⟩ := h.blk
  rintro rfl
  rw [h1] at hg
  cases hg
theorem KMap.far (h : KMap K kv dom w b n f) {a : Addr} {cs : Array Value} {t : TypeId} {fr : Nat × Nat} (hg : w.heap[a.block]? = some (.cells cs t fr)) (u : Value) : KMap K kv dom (w.setCell a u) b n f := by
  obtain ⟨D, ⟨es, c, h1, h2⟩, h3⟩ := h
  exact ⟨D, ⟨es, c, blk_far h1 (a := a) (KMap.ne ⟨D, ⟨es, c, h1, h2⟩, h3⟩ hg) u, h2⟩, h3⟩
theorem KMap.mono (h : KMap K kv dom w b n f) {m : Nat} (hm : n ≤ m) : KMap K kv dom w b m f := by
  obtain ⟨D, h1, h2⟩ := h
  exact ⟨D, h1.mono hm, h2⟩
theorem KMap.new (w : World) : KMap K kv dom (w.alloc (.map #[] 0)) w.heap.size 0 (fun _ => none) :=
  ⟨.map [], World.ownsMap_made w _ _ _, Maps.isMap_empty, fun x _ kl _ => ⟨by simp [Maps.has], by simp⟩⟩
theorem zero_int (w : World) : (zeroValue 3).run Tryz.prog w = .ok (.int .i64 0) w := by kernel_rfl
/-- 'v, ok := m[k]' at the operation. -/
theorem kmap_look {ops : Array Oper} {rest : List Oper} {o : Oper} {a : Act} {Q : Exit → Act → World → Prop} (hk : KeyK K kv dom) (hgd : o.guard = none) (m x : Operand) (T : TypeId) (hop : o.op = Op.lookup T m x true)
    (hT : Tryz.prog.underlying T = some (.map K 3)) (h : KMap K kv dom w b n f) (y : κ) (hy : dom y) (hm : a.eval m = .map (some b)) (hx : a.eval x = kv y)
    (hK : ∀ c : Int, (∀ t : Nat, f y = some t → c = (t : Int)) → wpList Tryz.prog ops Q rest (a.put o.dst (.tuple #[.int .i64 c, .bool (f y).isSome])) w) : wpList Tryz.prog ops Q (o :: rest) a w := by
  obtain ⟨D, h1, h2, h3⟩ := h
  obtain ⟨kl, hkl⟩ := hk.key y hy
  obtain ⟨h4, h5⟩ := h3 y hy kl hkl
  refine wpList_lookup_own_ok_int w hgd m x T hop K 3 .i64 hk.keyed hT Tryz.underlying3 (zero_int w) b n D hm h1 (kv y) kl hx hkl (fun c hc _ => ?_)
  rw [h4]
  refine hK c fun t ht => ?_
  have := h5 t ht (.lit (.int .i64 0))
  rw [hc] at this
  injection this with this
  injection this
/-- 'm[k] = t' at the operation. -/
theorem kmap_put {ops : Array Oper} {rest : List Oper} {o : Oper} {a : Act} {Q : Exit → Act → World → Prop} (hk : KeyK K kv dom) (hgd : o.guard = none) (m x v : Operand) (T : TypeId) (hop : o.op = Op.mapUpdate T m x v)
    (hT : Tryz.prog.underlying T = some (.map K 3)) (h : KMap K kv dom w b n f) (y : κ) (hy : dom y) (t : Nat) (ht : t ≤ 1000000000) (hn : n ≤ 1000000) (f' : κ → Option Nat) (hf : ∀ z, dom z → (z = y → f' z = some t) ∧ (z ≠ y → f' z = f z))
    (hm : a.eval m = .map (some b)) (hx : a.eval x = kv y) (hv : a.eval v = .int .i64 (t : Int))
    (hK : ∀ w', KMap K kv dom w' b (n + 1) f' → w.grownBy w' (some b) → wpList Tryz.prog ops Q rest (a.put o.dst undef) w') : wpList Tryz.prog ops Q (o :: rest) a w := by
  obtain ⟨D, h1, h2, h3⟩ := h
  obtain ⟨kl, hkl⟩ := hk.key y hy
  have e1 : IntKind.i64.min = -9223372036854775808 := by decide
  have e2 : IntKind.i64.max = 9223372036854775807 := by decide
  have hw : (Lit.int .i64 (t : Int)).wf = true := (Lit.wf_int_iff .i64 t).2 (by rw [e1, e2]; omega)
  refine wpList_mapUpdate_own w hgd m x v T hop K 3 hk.keyed hT _ b n D hm h1 (by unfold maxLen; omega) (kv y) _ kl hx hv hkl (.lit (.int .i64 t)) [] (plainElem_int Tryz.underlying3 hw) (fun w' r1 r2 => hK w' ⟨_, r1, h2.put _ _, fun z hz lz hlz => ?_⟩ r2)
  by_cases e : z = y
  · subst e
    rw [hkl] at hlz
    cases hlz
    rw [((hf z hz).1 rfl)]
    have hkk := hk.keyed.key hkl
    exact ⟨by rw [Maps.has_put_same h2 hkk]; rfl, fun t' ht' zd => by cases ht'; exact Maps.atKey_put_same h2 hkk _ _⟩
  · have hne : lz ≠ kl := fun e2 => e (hk.inj _ _ (hk.keyed.inj (l := kl) (by rw [← e2]; exact hlz) hkl))
    rw [((hf z hz).2 e)]
    obtain ⟨h4, h5⟩ := h3 z hz lz hlz
    exact ⟨by rw [Maps.has_put_other hne]; exact h4, fun t' ht' zd => by rw [Maps.atKey_put_other hne]; exact h5 t' ht' zd⟩
/-- 'v, ok := m[k]' as a run, whatever is drawn: there. -/
theorem KMap.run_some (h : KMap K kv dom w b n f) (hk : KeyK K kv dom) {T : TypeId} (hT : Tryz.prog.underlying T = some (.map K 3)) {y : κ} (hy : dom y) {t : Nat} (hf : f y = some t) :
    (Instr.lookup T (.map (some b)) (kv y) true).run Tryz.prog w = .ok (.tuple #[.int .i64 (t : Int), .bool true]) w := by
  obtain ⟨D, h1, h2, h3⟩ := h
  obtain ⟨kl, hkl⟩ := hk.key y hy
  obtain ⟨h4, h5⟩ := h3 y hy kl hkl
  obtain ⟨v, ps, hrun, hv⟩ := h1.look_ok hk.keyed hT (zero_int w) (plainElem_int Tryz.underlying3 (by decide)) hkl
  obtain ⟨c, rfl, hc, hwc⟩ := plainElem_int_inv Tryz.underlying3 hv
  have e := congrArg Prod.fst hc
  simp only at e
  rw [h5 t hf] at e
  injection e with e
  injection e with _ e
  rw [hrun, h4, hf, ← e]
  rfl
/-- .. not there. -/
theorem KMap.run_none (h : KMap K kv dom w b n f) (hk : KeyK K kv dom) {T : TypeId} (hT : Tryz.prog.underlying T = some (.map K 3)) {y : κ} (hy : dom y) (hf : f y = none) :
    (Instr.lookup T (.map (some b)) (kv y) true).run Tryz.prog w = .ok (.tuple #[.int .i64 0, .bool false]) w := by
  obtain ⟨D, h1, h2, h3⟩ := h
  obtain ⟨kl, hkl⟩ := hk.key y hy
  obtain ⟨h4, h5⟩ := h3 y hy kl hkl
  obtain ⟨v, ps, hrun, hv⟩ := h1.look_ok hk.keyed hT (zero_int w) (plainElem_int Tryz.underlying3 (by decide)) hkl
  obtain ⟨c, rfl, hc, hwc⟩ := plainElem_int_inv Tryz.underlying3 hv
  have hn : Maps.has D kl = false := by rw [h4, hf]; rfl
  have e := congrArg Prod.fst hc
  simp only at e
  rw [Maps.atKey_of_not_has hn] at e
  injection e with e
  injection e with _ e
  rw [hrun, h4, hf, ← e]
  rfl
/-- 'm[k] = t' at a step of a region that draws its order. -/
theorem kmap_wp {o : Oper} {a : Act} {Kt : Act → World → Prop} {Q : Exit → Act → World → Prop} (hk : KeyK K kv dom) (m x v : Operand) (T : TypeId) (hop : o.op = Op.mapUpdate T m x v)
    (hT : Tryz.prog.underlying T = some (.map K 3)) (h : KMap K kv dom w b n f) (y : κ) (hy : dom y) (t : Nat) (ht : t ≤ 1000000000) (hn : n ≤ 1000000) (f' : κ → Option Nat) (hf : ∀ z, dom z → (z = y → f' z = some t) ∧ (z ≠ y → f' z = f z))
    (hm : a.eval m = .map (some b)) (hx : a.eval x = kv y) (hv : a.eval v = .int .i64 (t : Int))
    (hK : ∀ w', KMap K kv dom w' b (n + 1) f' → w.grownBy w' (some b) → Kt (a.put o.dst undef) w') : o.wp Tryz.prog a w Kt Q := by
  obtain ⟨D, h1, h2, h3⟩ := h
  obtain ⟨kl, hkl⟩ := hk.key y hy
  have e1 : IntKind.i64.min = -9223372036854775808 := by decide
  have e2 : IntKind.i64.max = 9223372036854775807 := by decide
  have hw : (Lit.int .i64 (t : Int)).wf = true := (Lit.wf_int_iff .i64 t).2 (by rw [e1, e2]; omega)
  obtain ⟨w', hrun, r1, r2⟩ := h1.update hk.keyed hT (by unfold maxLen; omega) hkl (plainElem_int Tryz.underlying3 hw)
  unfold Oper.wp
  simp [execOp, hop, hm, hx, hv, hrun, Result.andThen]
  refine hK w' ⟨_, r1, h2.put _ _, fun z hz lz hlz => ?_⟩ r2
  by_cases e : z = y
  · subst e
    rw [hkl] at hlz
    cases hlz
    rw [((hf z hz).1 rfl)]
    have hkk := hk.keyed.key hkl
    exact ⟨by rw [Maps.has_put_same h2 hkk]; rfl, fun t' ht' zd => by cases ht'; exact Maps.atKey_put_same h2 hkk _ _⟩
  · have hne : lz ≠ kl := fun e2 => e (hk.inj _ _ (hk.keyed.inj (l := kl) (by rw [← e2]; exact hlz) hkl))
    rw [((hf z hz).2 e)]
    obtain ⟨h4, h5⟩ := h3 z hz lz hlz
    exact ⟨by rw [Maps.has_put_other hne]; exact h4, fun t' ht' zd => by rw [Maps.atKey_put_other hne]; exact h5 t' ht' zd⟩
end

/-- Keys that are texts. -/
theorem strK : KeyK 9 Value.string (fun s : ByteArray => s.size ≤ maxLen) :=
  ⟨Maps.string_keyed Tryz.underlying9, fun x y h => by injection h, fun x hx => ⟨_, WideMaps.keyOf_string_mk Tryz.underlying9 hx⟩⟩
theorem cellsStep : Tryz.prog.cellsOf 89 = 2 := by kernel_rfl
theorem cellsInt : Tryz.prog.cellsOf 3 = 1 := by kernel_rfl
def stepV (x : Nat × ByteArray) : Value := .agg #[.int .i64 (x.1 : Int), .string x.2]
def stepDom (x : Nat × ByteArray) : Prop := x.1 ≤ 1000000 ∧ x.2.size ≤ maxLen
theorem stepK : KeyK 89 stepV stepDom := by
  refine ⟨Maps.Keyed.of_law (deep_law_laid laidOut (m := 2) (by omega) (of_decide_eq_true (by kernel_rfl)) (by kernel_rfl) (by rw [Tryz.underlying89])), fun x y h => ?_, fun x hx => ?_⟩
  · unfold stepV at h
    simp at h
    obtain ⟨h1, h2⟩ := h
    exact Prod.ext (by omega) h2
  · obtain ⟨h1, h2⟩ := hx
    have e1 : IntKind.i64.min = -9223372036854775808 := by decide
    have e2 : IntKind.i64.max = 9223372036854775807 := by decide
    have hw : (Lit.int .i64 (x.1 : Int)).wf = true := (Lit.wf_int_iff .i64 x.1).2 (by rw [e1, e2]; omega)
    have hkt : Tryz.prog.keyType 89 = true := by kernel_rfl
    have hfm : (stepV x).formed Tryz.prog 89 = true := by simp [stepV, Value.formed, Tryz.underlying89, cellsStep]
    obtain ⟨d, hd⟩ : ∃ d, Tryz.prog.types.size + 1 = d + 2 := ⟨Tryz.prog.types.size - 1, by kernel_rfl⟩
    refine ⟨.string (keyBytes [.int .i64 (x.1 : Int), .string x.2.data.toList]), ?_⟩
    unfold keyOf
    rw [Tryz.underlying89]
    simp only [hkt, hfm, Bool.and_self, if_true, hd]
    simp [Program.keyLits, Tryz.underlying89, cellsStep, Tryz.underlying3, Tryz.underlying9, stepV, Value.cells, hw, h2, cellsInt, cellsStr]
end Nf
end Go.Proofs.YtpoblcmjfcpiaaaGreat

/-
  A net under way whose arcs are those of a tree of words: what lies in memory.
-/
set_option linter.unusedVariables false
namespace Go.Proofs.YtpoblcmjfcpiaaaGreat
open Go.RowKit
namespace Nf
def arcT (a : Nat × ByteArray × Nat) : ArcV := ⟨(a.1 : Int), a.2.1, a.2.1, (a.2.2 : Int), 0⟩
def endT (q : Nat) : EndV := ⟨(q : Int), 0⟩
def SMap (w : World) (b : Nat) (n : Nat) (A : TrA) : Prop := KMap 89 stepV stepDom w b n (fun x => trFind A x.1 x.2)
theorem own_map_ne {w : World} {base : Nat} {e : TypeId} {size n : Nat} {v : Value} {xs : List Value} {b : Nat} {es : Array MapEntry} {c : Nat} (h : w.ownsRow base e size v n xs) (k : w.heap[b]? = some (.map es c)) : v.ownBlock ≠ some b := by
  rcases h.2 with ⟨rfl, _⟩ | ⟨g, cap, cur, rfl, _, hg, _⟩
  · simp [Value.ownBlock]
  · intro e1
    simp [Value.ownBlock] at e1
    subst e1
    rw [hg] at k
    cases k
theorem trFind_snoc {A : TrA} {q : Nat} {s : ByteArray} (t : Nat) (hn : trFind A q s = none) (p : Nat) (x : ByteArray) : trFind (A ++ [(q, s, t)]) p x = if q = p ∧ s = x then some t else trFind A p x := by
  induction A with
  | nil => simp [trFind]
  | cons a r ih =>
    have hh := hn
    unfold trFind at hn
    split at hn
    · cases hn
    · rename_i hc
      show (if a.1 = p ∧ a.2.1 = x then some a.2.2 else trFind (r ++ [(q, s, t)]) p x) = _
      rw [ih hn]
      show _ = if q = p ∧ s = x then some t else (if a.1 = p ∧ a.2.1 = x then some a.2.2 else trFind r p x)
      by_cases h1 : a.1 = p ∧ a.2.1 = x
      · have h2 : ¬ (q = p ∧ s = x) := fun h2 => hc ⟨h1.1.trans h2.1.symm, h1.2.trans h2.2.symm⟩
        rw [if_pos h1, if_neg h2, if_pos h1]
      · rw [if_neg h1, if_neg h1]
theorem Below.grownMap {w0 w w1 : World} {base mb : Nat} (h : RowKit.Below base w0 w) (hg : w.grownBy w1 (some mb)) (hb : base ≤ w.heap.size) (hm : base ≤ mb) : RowKit.Below base w0 w1 :=
  RowKit.Below.grown h hg hb (fun k hk => by cases hk; exact hm)
/-- A net under way: its own block is rB, the result's R, the map's mb. -/
structure OfAt (w0 w : World) (R rB mb : Nat) (sv : Value) (sig : List ByteArray) (st : Int) (M : TrA) (l : List ArcV) (lv : Value) (E : List EndV) (ev : Value) : Prop where
  zblk : w.heap[R]? = some (.cells #[.slice none 0 0, .int .i64 0, .slice none 0 0, .slice none 0 0] 26 (0, 0))
  rblk : w.heap[rB]? = some (.cells #[sv, .int .i64 st, lv, ev] 26 (0, 0))
  sown : w.ownsRow w0.heap.size 9 1 sv sig.length (sig.map Value.string)
  lown : w.ownsRow w0.heap.size 51 5 lv l.length (l.flatMap arcCells)
  eown : w.ownsRow w0.heap.size 53 2 ev E.length (E.flatMap endCells)
  mp : SMap w mb M.length M
  below : RowKit.Below w0.heap.size w0 w
  rbase : w0.heap.size ≤ R
  bbase : w0.heap.size ≤ rB
  mbase : w0.heap.size ≤ mb
  neR : rB ≠ R
section
variable {w0 w w1 : World} {R rB mb : Nat} {sv lv ev : Value} {sig : List ByteArray} {st : Int} {M : TrA} {l : List ArcV} {E : List EndV}
theorem OfAt.under (h : OfAt w0 w R rB mb sv sig st M l lv E ev) (hb : RowKit.Below w.heap.size w w1) : OfAt w0 w1 R rB mb sv sig st M l lv E ev := by
  have hg : w.grownBy w1 none := ⟨hb.os, hb.tape, hb.output, hb.size, fun i hi _ => hb.block i hi⟩
  have kp : ∀ v : Value, v.ownBlock = none ∨ v.ownBlock ≠ none := fun v => by cases v.ownBlock <;> simp
  exact ⟨blk_below h.zblk hb (blk_lt h.zblk), blk_below h.rblk hb (blk_lt h.rblk), h.sown.kept hg (kp _), h.lown.kept hg (kp _), h.eown.kept hg (kp _), h.mp.below hb, h.below.trans (hb.mono h.below.size), h.rbase, h.bbase, h.mbase, h.neR⟩
theorem OfAt.alloc (h : OfAt w0 w R rB mb sv sig st M l lv E ev) (o : Obj) : OfAt w0 (w.alloc o) R rB mb sv sig st M l lv E ev := h.under ((RowKit.Below.refl _ w).alloc (Nat.le_refl _) o)
theorem OfAt.drew (h : OfAt w0 w R rB mb sv sig st M l lv E ev) : OfAt w0 w.drew R rB mb sv sig st M l lv E ev := h.under ((RowKit.Below.refl _ w).drew)
/-- The number of states set. -/
theorem OfAt.setSt (h : OfAt w0 w R rB mb sv sig st M l lv E ev) (st' : Int) : OfAt w0 (w.setCell ⟨rB, 1, none⟩ (.int .i64 st')) R rB mb sv sig st' M l lv E ev := by
  refine ⟨blk_far h.zblk (a := ⟨rB, 1, none⟩) (fun e => h.neR e.symm) _, ?_, own_far h.sown (a := ⟨rB, 1, none⟩) (own_ne h.sown h.rblk (by decide)), own_far h.lown (a := ⟨rB, 1, none⟩) (own_ne h.lown h.rblk (by decide)), own_far h.eown (a := ⟨rB, 1, none⟩) (own_ne h.eown h.rblk (by decide)),
    h.mp.far (a := ⟨rB, 1, none⟩) h.rblk _, h.below.setCell (p := ⟨rB, 1, none⟩) h.bbase _, h.rbase, h.bbase, h.mbase, h.neR⟩
  have := blk_set (i := 1) h.rblk (.int .i64 st')
  simpa using this
/-- The map stored into. -/
theorem OfAt.put (h : OfAt w0 w R rB mb sv sig st M l lv E ev) {M' : TrA} (hg : w.grownBy w1 (some mb)) (hm : SMap w1 mb M'.length M') : OfAt w0 w1 R rB mb sv sig st M' l lv E ev := by
  obtain ⟨es, c, hb⟩ := h.mp.blk
  have n1 : mb ≠ R := h.mp.ne h.zblk
  have n2 : mb ≠ rB := h.mp.ne h.rblk
  exact ⟨blk_grown h.zblk hg (fun e => n1 (by injection e)), blk_grown h.rblk hg (fun e => n2 (by injection e)), h.sown.kept hg (.inr (own_map_ne h.sown hb)), h.lown.kept hg (.inr (own_map_ne h.lown hb)), h.eown.kept hg (.inr (own_map_ne h.eown hb)), hm, Below.grownMap h.below hg h.below.size h.mbase, h.rbase, h.bbase, h.mbase, h.neR⟩
theorem SMap.grown {w w1 : World} {mb n : Nat} {M : TrA} (h : SMap w mb n M) {base size k : Nat} {e : TypeId} {v : Value} {xs : List Value} (hr : w.ownsRow base e size v k xs) (hg : w.grownBy w1 v.ownBlock) : SMap w1 mb n M := by
  obtain ⟨es, c, hb⟩ := KMap.blk h
  exact KMap.kept h hg (fun e => own_map_ne hr hb e.symm)
/-- An arc appended. -/
theorem OfAt.push (h : OfAt w0 w R rB mb sv sig st M l lv E ev) {a : ArcV} {v' : Value} (hg : w.grownBy w1 lv.ownBlock) (hown : w1.ownsRow w0.heap.size 51 5 v' (l ++ [a]).length ((l ++ [a]).flatMap arcCells)) :
    OfAt w0 (w1.setCell ⟨rB, 2, none⟩ v') R rB mb sv sig st M (l ++ [a]) v' E ev := by
  have z1 := blk_grown h.zblk hg (own_ne h.lown h.zblk (by decide))
  have r1 := blk_grown h.rblk hg (own_ne h.lown h.rblk (by decide))
  have s1 := h.sown.kept hg (own_own_ne h.sown h.lown (by decide))
  have e1 := h.eown.kept hg (own_own_ne h.eown h.lown (by decide))
  have m1 : SMap w1 mb M.length M := h.mp.grown h.lown hg
  have b1 := RowKit.Below.grown h.below hg h.below.size (fun k hk => (h.lown.lt k hk).1)
  refine ⟨blk_far z1 (a := ⟨rB, 2, none⟩) (fun e => h.neR e.symm) _, ?_, own_far s1 (a := ⟨rB, 2, none⟩) (own_ne s1 r1 (by decide)), own_far hown (a := ⟨rB, 2, none⟩) (own_ne hown r1 (by decide)), own_far e1 (a := ⟨rB, 2, none⟩) (own_ne e1 r1 (by decide)),
    KMap.far m1 (a := ⟨rB, 2, none⟩) r1 _, b1.setCell (p := ⟨rB, 2, none⟩) h.bbase _, h.rbase, h.bbase, h.mbase, h.neR⟩
  have := blk_set (i := 2) r1 v'
  simpa using this
/-- An end appended. -/
theorem OfAt.pushE (h : OfAt w0 w R rB mb sv sig st M l lv E ev) {a : EndV} {v' : Value} (hg : w.grownBy w1 ev.ownBlock) (hown : w1.ownsRow w0.heap.size 53 2 v' (E ++ [a]).length ((E ++ [a]).flatMap endCells)) :
    OfAt w0 (w1.setCell ⟨rB, 3, none⟩ v') R rB mb sv sig st M l lv (E ++ [a]) v' := by
  have z1 := blk_grown h.zblk hg (own_ne h.eown h.zblk (by decide))
  have r1 := blk_grown h.rblk hg (own_ne h.eown h.rblk (by decide))
  have s1 := h.sown.kept hg (own_own_ne h.sown h.eown (by decide))
  have l1 := h.lown.kept hg (own_own_ne h.lown h.eown (by decide))
  have m1 : SMap w1 mb M.length M := h.mp.grown h.eown hg
  have b1 := RowKit.Below.grown h.below hg h.below.size (fun k hk => (h.eown.lt k hk).1)
  refine ⟨blk_far z1 (a := ⟨rB, 3, none⟩) (fun e => h.neR e.symm) _, ?_, own_far s1 (a := ⟨rB, 3, none⟩) (own_ne s1 r1 (by decide)), own_far l1 (a := ⟨rB, 3, none⟩) (own_ne l1 r1 (by decide)), own_far hown (a := ⟨rB, 3, none⟩) (own_ne hown r1 (by decide)),
    KMap.far m1 (a := ⟨rB, 3, none⟩) r1 _, b1.setCell (p := ⟨rB, 3, none⟩) h.bbase _, h.rbase, h.bbase, h.mbase, h.neR⟩
  have := blk_set (i := 3) r1 v'
  simpa using this
/-- What is handed back: the net's cells in the result's block. -/
theorem OfAt.res (h : OfAt w0 w R rB mb sv sig st M l lv E ev) (hl : l.length ≤ 60000) (he : E.length ≤ 60000) (hs : ∀ x ∈ l, x.i.size ≤ maxLen ∧ x.o.size ≤ maxLen) (hsg : ∀ s ∈ sig, s.size ≤ maxLen) (hsl : sig.length ≤ maxLen) (h1 : -9223372036854775808 ≤ st) (h2 : st ≤ 9223372036854775807) :
    ∃ m : Net, #[sv, .int .i64 st, lv, ev] = m.cells ∧ m.sig = sig ∧ m.st = st ∧ m.arcs = l ∧ m.ends = E ∧
      ∀ a b c d : Value, NetAt ((((w.setCell ⟨R, 0, none⟩ a).setCell ⟨R, 1, none⟩ b).setCell ⟨R, 2, none⟩ c).setCell ⟨R, 3, none⟩ d) m ∧
        ((((w.setCell ⟨R, 0, none⟩ a).setCell ⟨R, 1, none⟩ b).setCell ⟨R, 2, none⟩ c).setCell ⟨R, 3, none⟩ d).heap[R]? = some (.cells #[a, b, c, d] 26 (0, 0)) ∧
        RowKit.Below w0.heap.size w0 ((((w.setCell ⟨R, 0, none⟩ a).setCell ⟨R, 1, none⟩ b).setCell ⟨R, 2, none⟩ c).setCell ⟨R, 3, none⟩ d) := by
  have key : ∀ {e : TypeId} {size n : Nat} {v : Value} {xs : List Value} {ao : Option Addr} {cap : Nat}, w.ownsRow w0.heap.size e size v n xs → v = .slice ao n cap → v.ownBlock ≠ some R → ∀ a, ao = some a → a.block ≠ R := by
    intro e size n v xs ao cap hown hv hne a ha e1
    subst ha
    apply hne
    rcases hown.2 with ⟨hv2, _⟩ | ⟨g, cap2, cur, hv2, _⟩
    · rw [hv] at hv2
      injection hv2 with hv2 _ _
      cases hv2
    · rw [hv] at hv2
      injection hv2 with hv2 _ _
      injection hv2 with hv2
      subst hv2
      rw [hv]
      simp only [Value.ownBlock]
      rw [← e1]
  have k1 := own_ne h.sown h.zblk (by decide)
  have k2 := own_ne h.lown h.zblk (by decide)
  have k3 := own_ne h.eown h.zblk (by decide)
  obtain ⟨so, scap, hsv, hrow, _⟩ := row_of_own h.sown hsl hsg
  obtain ⟨ao, acap, hlv, harcs, hab⟩ := arcs_of_own h.lown (by omega) hs
  obtain ⟨eo, ecap, hev, hends, heb⟩ := ends_of_own h.eown (by omega)
  have sne := key h.sown hsv k1
  have ane := key h.lown hlv k2
  have ene := key h.eown hev k3
  refine ⟨⟨so, sig.length, scap, sig, st, ao, l.length, acap, l, eo, E.length, ecap, E⟩, by rw [hsv, hlv, hev]; rfl, rfl, rfl, rfl, rfl, fun a b c d => ⟨⟨?_, ?_, ?_, h1, h2⟩, ?_, ?_⟩⟩
  · exact row_far (row_far (row_far (row_far hrow (fun _ => sne) a) (fun _ => sne) b) (fun _ => sne) c) (fun _ => sne) d
  · exact arcs_far (arcs_far (arcs_far (arcs_far harcs ane a) ane b) ane c) ane d
  · exact ends_far (ends_far (ends_far (ends_far hends ene a) ene b) ene c) ene d
  · exact blk_set (i := 3) (blk_set (i := 2) (blk_set (i := 1) (blk_set (i := 0) h.zblk a) b) c) d
  · exact (((h.below.setCell (p := ⟨R, 0, none⟩) h.rbase a).setCell (p := ⟨R, 1, none⟩) h.rbase b).setCell (p := ⟨R, 2, none⟩) h.rbase c).setCell (p := ⟨R, 3, none⟩) h.rbase d
end
/-- One end appended to a row of the call's own. -/
theorem push_end {w : World} {ops : Array Oper} {rest : List Oper} {o : Oper} {a : Act} {Q : Exit → Act → World → Prop} (hgd : o.guard = none) (s x : Operand)
    (ho : o.op = .call { callee := .builtin .append, args := #[s, x], argTypes := #[24, 24] })
    (base : Nat) (v : Value) (L : List EndV) (hs : a.eval s = v) (hown : w.ownsRow base 53 2 v L.length (L.flatMap endCells))
    (q : EndV) (b : Nat) (c : Nat) (hx : a.eval x = .slice (some ⟨b, 0, none⟩) 1 c) (hc : w.heap[b]? = some (.cells #[.int .i64 q.s, .int .i64 q.c] 53 (0, 0))) (hbig : L.length ≤ 1000000) (hbase : base ≤ w.heap.size)
    (h : ∀ v' w', w'.ownsRow base 53 2 v' (L ++ [q]).length ((L ++ [q]).flatMap endCells) → w.grownBy w' v.ownBlock → (v'.ownBlock = v.ownBlock ∨ v'.ownBlock = some w.heap.size) → wpList Tryz.prog ops Q rest (a.put o.dst v') w') : wpList Tryz.prog ops Q (o :: rest) a w := by
  obtain ⟨i0, hi, hz0, hz1, hz2⟩ := info_parts endInfo
  have hnews : ∀ j u, (endCells q)[j]? = some u → w.cell? ((⟨b, 0, none⟩ : Addr).add j) = some u := by
    intro j u hj
    rw [plain_add, Nat.zero_add]
    refine blk_cell (i := j) hc ?_
    match j, hj with
    | 0, hj => simpa [endCells] using hj
    | 1, hj => simpa [endCells] using hj
  refine wpList_append_own_at w hgd s x 24 ho base 53 i0 (.agg #[.int .i64 0, .int .i64 0]) 2 16 Tryz.underlying24 hi hz0 hz1 hz2 rfl (by decide) v _ _ hs hown ⟨b, 0, none⟩ 1 c (endCells q) hx rfl hnews (fun u hu => by simp [endCells] at hu; rcases hu with rfl | rfl <;> rfl) (by unfold maxLen; omega) (by omega) hbase ?_
  intro v' w' hown' hgrow _ hat
  exact h v' w' (by simpa using hown') hgrow hat
/-- 'next[step{at, s}]' at the operation: there. -/
theorem smap_some {w : World} {b : Nat} {A : TrA} {ops : Array Oper} {rest : List Oper} {o : Oper} {a : Act} {Q : Exit → Act → World → Prop} (hgd : o.guard = none) (m x : Operand) (hop : o.op = Op.lookup 86 m x true)
    (h : SMap w b A.length A) (q : Nat) (s : ByteArray) (t : Nat) (hq : q ≤ 1000000) (hs : s.size ≤ maxLen) (hf : trFind A q s = some t) (hm : a.eval m = .map (some b)) (hx : a.eval x = .agg #[.int .i64 (q : Int), .string s])
    (hK : wpList Tryz.prog ops Q rest (a.put o.dst (.tuple #[.int .i64 (t : Int), .bool true])) w) : wpList Tryz.prog ops Q (o :: rest) a w := by
  refine kmap_look stepK hgd m x 86 hop Tryz.underlying86 h (q, s) ⟨hq, hs⟩ hm hx (fun c hc => ?_)
  have e : (trFind A (q, s).1 (q, s).2) = some t := hf
  rw [hc t e, e]
  exact hK
/-- .. not there. -/
theorem smap_none {w : World} {b : Nat} {A : TrA} {ops : Array Oper} {rest : List Oper} {o : Oper} {a : Act} {Q : Exit → Act → World → Prop} (hgd : o.guard = none) (m x : Operand) (hop : o.op = Op.lookup 86 m x true)
    (h : SMap w b A.length A) (q : Nat) (s : ByteArray) (hq : q ≤ 1000000) (hs : s.size ≤ maxLen) (hf : trFind A q s = none) (hm : a.eval m = .map (some b)) (hx : a.eval x = .agg #[.int .i64 (q : Int), .string s])
    (hK : ∀ c : Int, wpList Tryz.prog ops Q rest (a.put o.dst (.tuple #[.int .i64 c, .bool false])) w) : wpList Tryz.prog ops Q (o :: rest) a w := by
  refine kmap_look stepK hgd m x 86 hop Tryz.underlying86 h (q, s) ⟨hq, hs⟩ hm hx (fun c hc => ?_)
  have e : (trFind A (q, s).1 (q, s).2) = none := hf
  rw [e]
  exact hK c
/-- 'next[step{at, s}] = to' at the operation. -/
theorem smap_put {w : World} {b : Nat} {A : TrA} {ops : Array Oper} {rest : List Oper} {o : Oper} {a : Act} {Q : Exit → Act → World → Prop} (hgd : o.guard = none) (m x v : Operand) (hop : o.op = Op.mapUpdate 86 m x v)
    (h : SMap w b A.length A) (q : Nat) (s : ByteArray) (hq : q ≤ 1000000) (hs : s.size ≤ maxLen) (hf : trFind A q s = none) (hl : A.length ≤ 900000) (hm : a.eval m = .map (some b)) (hx : a.eval x = .agg #[.int .i64 (q : Int), .string s]) (hv : a.eval v = .int .i64 ((A.length : Int) + 1))
    (hK : ∀ w', SMap w' b (A ++ [(q, s, A.length + 1)]).length (A ++ [(q, s, A.length + 1)]) → w.grownBy w' (some b) → wpList Tryz.prog ops Q rest (a.put o.dst undef) w') : wpList Tryz.prog ops Q (o :: rest) a w := by
  refine kmap_put stepK hgd m x v 86 hop Tryz.underlying86 h (q, s) ⟨hq, hs⟩ (A.length + 1) (by omega) (by omega) (fun z => trFind (A ++ [(q, s, A.length + 1)]) z.1 z.2) (fun z _ => ?_) hm hx (by rw [hv]; simp) (fun w' h1 h2 => hK w' (by rw [show (A ++ [(q, s, A.length + 1)]).length = A.length + 1 by simp]; exact h1) h2)
  rw [trFind_snoc _ hf]
  constructor
  · rintro rfl; simp
  · intro hne
    rw [if_neg]
    rintro ⟨rfl, rfl⟩
    exact hne rfl
end Nf
end Go.Proofs.YtpoblcmjfcpiaaaGreat
