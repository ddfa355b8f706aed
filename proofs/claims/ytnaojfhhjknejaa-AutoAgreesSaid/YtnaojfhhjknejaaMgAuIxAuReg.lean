/-
  The four tables of a graph while they grow.
-/
import Derived.Test.YtnaojfhhjknejaaMgAuMemAuGrAuNet
import Derived.OrdersHeld
import Derived.WalkKit
import Derived.Deep.OwnRows
set_option linter.unusedVariables false
namespace Go.Proofs.Ytnaojfhhjknejaa
open Go.RowKit
namespace Nf

/-- Table 0 has moves, tables 1, 2 and 3 have numbers. -/
def ety (t : Nat) : TypeId := if t = 0 then 72 else 3
def tty (t : Nat) : TypeId := if t = 0 then 70 else 67
def szt (t : Nat) : Nat := if t = 0 then 2 else 1
def enc (t : Nat) (x : Nat × Nat) : List Value := if t = 0 then [num x.1, num x.2] else [num x.1]
theorem ety_tty (s t : Nat) : ety s ≠ tty t := by unfold ety tty; split <;> split <;> decide

structure IxAt (w : World) (T : Nat → Prop) (base N : Nat) (tb : Nat → Nat) (V : Nat → Nat → Value) (R : Nat → Nat → List (Nat × Nat)) : Prop where
  tab : ∀ t, T t → Vec id w (tb t) (tty t) N N (V t)
  tbb : ∀ t, T t → base ≤ tb t
  inj : ∀ t t', T t → T t' → tb t = tb t' → t = t'
  row : ∀ t i, T t → i < N → w.ownsRow base (ety t) (szt t) (V t i) (R t i).length ((R t i).flatMap (enc t))
  apart : ∀ t i t' i', T t → i < N → T t' → i' < N → (t, i) ≠ (t', i') → (V t i).ownBlock = none ∨ (V t i).ownBlock ≠ (V t' i').ownBlock

def upd {α : Type} (f : Nat → Nat → α) (t i : Nat) (v : α) : Nat → Nat → α := fun t' i' => if t' = t ∧ i' = i then v else f t' i'
theorem upd_same {α : Type} (f : Nat → Nat → α) (t i : Nat) (v : α) : upd f t i v t i = v := by simp [upd]
theorem upd_ne {α : Type} (f : Nat → Nat → α) {t i t' i' : Nat} (v : α) (h : ¬ (t' = t ∧ i' = i)) : upd f t i v t' i' = f t' i' := by simp [upd, h]

variable {w w1 : World} {T : Nat → Prop} {base N : Nat} {tb : Nat → Nat} {V : Nat → Nat → Value} {R : Nat → Nat → List (Nat × Nat)}
theorem own_vec_ne {e e' : TypeId} {size n cap m g : Nat} {v : Value} {xs : List Value} {A : Nat → Value} (h : w.ownsRow base e size v n xs) (k : Vec id w g e' cap m A) (hne : e ≠ e') : v.ownBlock ≠ some g := by
  obtain ⟨cur, hc⟩ := Vec.blk k
  exact own_ne h hc hne

theorem IxAt.push (h : IxAt w T base N tb V R) {t i : Nat} (ht : T t) (hi : i < N) {v' : Value} {x : Nat × Nat} (hg : w.grownBy w1 (V t i).ownBlock)
    (hown : w1.ownsRow base (ety t) (szt t) v' ((R t i).length + 1) ((R t i).flatMap (enc t) ++ enc t x)) (hat : (V t i).ownBlock = v'.ownBlock ∨ ∃ g, v'.ownBlock = some g ∧ w.heap.size ≤ g) :
    IxAt (w1.setCell ⟨tb t, i, none⟩ v') T base N tb (upd V t i v') (upd R t i (R t i ++ [x])) := by
  have htab1 : ∀ t', T t' → Vec id w1 (tb t') (tty t') N N (V t') := fun t' ht' => (h.tab t' ht').grown hg (fun e => own_vec_ne (h.row t i ht hi) (h.tab t' ht') (ety_tty t t') e.symm)
  have hrow1 : ∀ t' i', T t' → i' < N → ¬ (t' = t ∧ i' = i) → w1.ownsRow base (ety t') (szt t') (V t' i') (R t' i').length ((R t' i').flatMap (enc t')) := fun t' i' ht' hi' hne =>
    (h.row t' i' ht' hi').kept hg (h.apart t' i' t i ht' hi' ht hi (fun e => hne (by injection e with e1 e2; exact ⟨e1, e2⟩)))
  have hlt : ∀ t' i', T t' → i' < N → ∀ k, (V t' i').ownBlock = some k → k < w.heap.size := fun t' i' ht' hi' k hk => ((h.row t' i' ht' hi').lt k hk).2
  refine ⟨fun t' ht' => ?_, h.tbb, h.inj, fun t' i' ht' hi' => ?_, fun t' i' t'' i'' ht' hi' ht'' hi'' hne => ?_⟩
  · by_cases e : t' = t
    · subst e
      exact ((htab1 t' ht).set (i := i) v').congr fun j hj => by
        show (if j = i then v' else V t' j) = upd V t' i v' t' j
        unfold upd
        by_cases e : j = i <;> simp [e]
    · exact (Vec.far (htab1 t' ht') (a := ⟨tb t, i, none⟩) (fun e1 => e (h.inj t' t ht' ht e1)) v').congr fun j hj => by rw [upd_ne]; exact fun e1 => e e1.1
  · by_cases e : t' = t ∧ i' = i
    · obtain ⟨rfl, rfl⟩ := e
      rw [upd_same, upd_same]
      have := own_far (u := v') hown (a := ⟨tb t', i', none⟩) (own_vec_ne hown (htab1 t' ht) (ety_tty t' t'))
      simpa using this
    · rw [upd_ne _ _ e, upd_ne _ _ e]
      exact own_far (hrow1 t' i' ht' hi' e) (a := ⟨tb t, i, none⟩) (own_vec_ne (hrow1 t' i' ht' hi' e) (htab1 t ht) (ety_tty t' t))
  · by_cases e : t' = t ∧ i' = i
    · obtain ⟨rfl, rfl⟩ := e
      rw [upd_same]
      have e2 : ¬ (t'' = t' ∧ i'' = i') := fun e2 => hne (by rw [e2.1, e2.2])
      rw [upd_ne _ _ e2]
      rcases hat with hat | ⟨g, hg1, hg2⟩
      · rw [← hat]; exact h.apart _ _ _ _ ht hi ht'' hi'' hne
      · right
        rw [hg1]
        intro e3
        have := hlt t'' i'' ht'' hi'' g e3.symm
        omega
    · rw [upd_ne _ _ e]
      by_cases e2 : t'' = t ∧ i'' = i
      · obtain ⟨rfl, rfl⟩ := e2
        rw [upd_same]
        rcases hat with hat | ⟨g, hg1, hg2⟩
        · rw [← hat]; exact h.apart _ _ _ _ ht' hi' ht hi hne
        · cases hk : (V t' i').ownBlock with
          | none => exact .inl rfl
          | some k =>
            right
            rw [hg1]
            intro e3
            have := hlt t' i' ht' hi' k hk
            injection e3 with e3
            omega
      · rw [upd_ne _ _ e2]; exact h.apart _ _ _ _ ht' hi' ht'' hi'' hne

theorem IxAt.below (h : IxAt w T base N tb V R) (hb : Below w.heap.size w w1) : IxAt w1 T base N tb V R := by
  have hg : w.grownBy w1 none := ⟨hb.os, hb.tape, hb.output, hb.size, fun k hk _ => hb.block k hk⟩
  exact ⟨fun t ht => (h.tab t ht).grown hg (by simp), h.tbb, h.inj, fun t i ht hi => (h.row t i ht hi).kept hg (by cases (V t i).ownBlock <;> simp), h.apart⟩
/-- A store elsewhere. -/
theorem IxAt.far (h : IxAt w T base N tb V R) {a : Addr} {c : Array Value} {ty : TypeId} {f : Nat × Nat} (hb : w.heap[a.block]? = some (.cells c ty f)) (h1 : ty ≠ 72) (h2 : ty ≠ 3) (h3 : ty ≠ 70) (h4 : ty ≠ 67) (u : Value) : IxAt (w.setCell a u) T base N tb V R := by
  have ha : ∀ t, ety t ≠ ty := fun t e => by unfold ety at e; split at e; exact h1 e.symm; exact h2 e.symm
  have hc : ∀ t, tty t ≠ ty := fun t e => by unfold tty at e; split at e; exact h3 e.symm; exact h4 e.symm
  refine ⟨fun t ht => ?_, h.tbb, h.inj, fun t i ht hi => own_far (h.row t i ht hi) (own_ne (h.row t i ht hi) hb (ha t)), h.apart⟩
  obtain ⟨cur, hcur⟩ := Vec.blk (h.tab t ht)
  exact Vec.far (h.tab t ht) (blk_ne hcur hb (hc t)) u

theorem flat_num (t : Nat) (ht : t ≠ 0) (l : List (Nat × Nat)) : l.flatMap (enc t) = (l.map Prod.fst).map num := by
  induction l with
  | nil => rfl
  | cons a r ih => simp [enc, ht, ih]
theorem IxAt.tabAt (h : IxAt w T base N tb V R) {t : Nat} (ht : T t) (h0 : t ≠ 0) (hs : ∀ i, (R t i).length ≤ 1000000) : TabAt w (tb t) N (fun i => (R t i).map Prod.fst) := by
  intro i hi
  have hr := h.row t i ht hi
  rw [flat_num t h0, show szt t = 1 by simp [szt, h0], show (R t i).length = ((R t i).map Prod.fst).length by simp] at hr
  have hsz := hs i
  obtain ⟨ao, cap, hv, hseq, _⟩ := seq_of_own hr (by unfold maxLen; simp; omega)
  refine ⟨ao, _, cap, ?_, hseq, by simpa using hs i⟩
  rw [(h.tab t ht).cell hi, ← hv]; rfl
theorem flat_pairs : ∀ (l : List (Nat × Nat)) (j : Nat) (x : Nat × Nat), l[j]? = some x → (l.flatMap (enc 0))[j * 2]? = some (num x.1) ∧ (l.flatMap (enc 0))[j * 2 + 1]? = some (num x.2)
  | [], j, x, h => by simp at h
  | a :: r, 0, x, h => by simp at h; subst h; simp [enc]
  | a :: r, j + 1, x, h => by
    have := flat_pairs r j x (by simpa using h)
    simp only [List.flatMap_cons]
    have e : enc 0 a = [num a.1, num a.2] := by simp [enc]
    rw [e, show (j + 1) * 2 = j * 2 + 1 + 1 by omega]
    simpa using this
theorem IxAt.movAt (h : IxAt w T base N tb V R) (h00 : T 0) (hs : ∀ i, (R 0 i).length ≤ 1000000) : MovAt w (tb 0) N (R 0) := by
  intro i hi
  have hr := h.row 0 i h00 hi
  have hc := (h.tab 0 h00).cell hi
  rcases hr.2 with ⟨hv, h0⟩ | ⟨g, cap, cur, hv, _, _⟩
  · refine ⟨none, 0, by rw [hc, hv, h0]; rfl, by omega, fun h1 => by omega⟩
  · refine ⟨some ⟨g, 0, none⟩, cap, by rw [hc, hv]; rfl, hs i, fun _ => ⟨g, 0, rfl, fun j x hx => ?_⟩⟩
    rw [hv] at hr
    have hp := flat_pairs _ j x hx
    have h1 := hr.cells (g := g) rfl (j * 2) _ hp.1
    have h2 := hr.cells (g := g) rfl (j * 2 + 1) _ hp.2
    rw [plain_add] at h1 h2
    exact ⟨h1, h2⟩

end Nf
end Go.Proofs.Ytnaojfhhjknejaa

/-
  Regions whose order is open: an operation that yields the same in every world of a kind may be taken first; the kind is not asked behind the last operation (so that the last store may hit a cell that was read).
-/
set_option linter.unusedVariables false
namespace Go.Proofs.Ytnaojfhhjknejaa
open Go.RowKit

section
variable {P : Program} {ops : Array Oper} {Q : Exit → Act → World → Prop} {md : Region.Mode} {S : World → Prop} {z : Nat}

/-- Any order from here on; behind each operation but number z the world is of the kind S. -/
def Open (P : Program) (md : Region.Mode) (ops : Array Oper) (Q : Exit → Act → World → Prop) (S : World → Prop) (z : Nat) : Nat → Array Bool → Act → World → Prop
  | 0, done, a, w => Region.ready md ops done = [] ∧ Q .normal a w
  | n + 1, done, a, w => (Region.ready md ops done = [] → Q .normal a w) ∧
      ∀ i ∈ Region.ready md ops done, wpOp P ops Q i (fun a' w' => (i ≠ z → S w') ∧ Open P md ops Q S z n (done.setIfInBounds i true) a' w') a w

theorem Open.any : ∀ (n : Nat) (done : Array Bool) (a : Act) (w : World), Open P md ops Q S z n done a w → wpAny P md ops Q n done a w
  | 0, _, _, _, h => h
  | n + 1, _, _, _, h => ⟨h.1, fun i hi => wpOp_mono (fun a' w' k => Open.any n _ a' w' k.2) (h.2 i hi)⟩

/-- Does operation z wait for operation i? -/
def waitsFor (md : Region.Mode) (ops : Array Oper) (z i : Nat) : Bool := ((ops[z]?).map fun x => x.after.any fun e => Region.binds md e && e.on == i).getD false
theorem waits_spec {i : Nat} (h : waitsFor md ops z i = true) {done : Array Bool} (hi : done.getD i true = false) (hr : z ∈ Region.ready md ops done) : False := by
  obtain ⟨_, x, hx, hall⟩ := mem_ready.1 hr
  simp only [waitsFor, hx, Option.map_some, Option.getD_some, Array.any_eq_true, Bool.and_eq_true, beq_iff_eq] at h
  obtain ⟨k, hk, hb, he⟩ := h
  have h1 := hall _ (Array.getElem_mem hk) hb
  rw [he] at h1
  by_cases hlt : i < done.size
  · simp [hlt] at hi h1; rw [hi] at h1; cases h1
  · simp [Array.getElem?_eq_none (Nat.le_of_not_lt hlt)] at h1

theorem Open.early {i : Nat} {o : Oper} {v : Value} (ho : ops[i]? = some o) (hsel : ∀ (j : Nat) (x : Oper) cs b, ops[j]? = some x → x.op ≠ .select cs b) (hQ : ∀ c a w, Q (.panic c) (a.put o.dst v) w → Q (.panic c) a w)
    (hz : waitsFor md ops z i = true) :
    ∀ (n : Nat) (done : Array Bool) (a : Act) (w : World), (∀ j x, ops[j]? = some x → j ≠ i → done.getD j true = false → (∀ e ∈ x.after, Region.binds md e = true → e.on ≠ i) → o.apart ops x = true) →
      i ∈ Region.ready md ops done → YieldsIf P ops S o v a → S w → Open P md ops Q S z n (done.setIfInBounds i true) (a.put o.dst v) w → Open P md ops Q S z (n + 1) done a w
  | 0, done, a, w, _, hr, hy, hS, H => by
    refine ⟨fun e => absurd hr (by rw [e]; simp), fun j hj => ?_⟩
    by_cases e : j = i
    · rw [e]; exact hy.wpOp ho hS ⟨fun _ => hS, H⟩
    · have h1 := ready_mono hj e
      rw [H.1] at h1; cases h1
  | n + 1, done, a, w, hfree, hr, hy, hS, H => by
    refine ⟨fun e => absurd hr (by rw [e]; simp), fun j hj => ?_⟩
    by_cases e : j = i
    · rw [e]; exact hy.wpOp ho hS ⟨fun _ => hS, H⟩
    · obtain ⟨hun, x, hx, hall⟩ := mem_ready.1 hj
      have hi0 := (mem_ready.1 hr).1
      have hjz : j ≠ z := fun ejz => waits_spec hz hi0 (ejz ▸ hj)
      have hfar : ∀ e ∈ x.after, Region.binds md e = true → e.on ≠ i := by
        intro d hd hb he
        have h1 := hall d hd hb
        rw [he] at h1
        by_cases hlt : i < done.size
        · simp [hlt] at hi0 h1; rw [hi0] at h1; cases h1
        · simp [Array.getElem?_eq_none (Nat.le_of_not_lt hlt)] at h1
      have h2 := wpOp_putIf hx (hfree j x hx e hun hfar) (fun cs b => hsel i o cs b ho) (fun cs b => hsel j x cs b hx) hQ hy (H.2 j (ready_mono hj e))
      refine wpOp_mono (fun a' w' k => ?_) h2
      have hS' : S w' := k.2.1 hjz
      refine ⟨fun _ => hS', Open.early ho hsel hQ hz n _ a' w' (fun m y hy1 hne hun1 hno => hfree m y hy1 hne ?_ hno) (ready_mono hr (Ne.symm e)) k.1 hS' ?_⟩
      · by_cases hm : j = m
        · subst hm; exact hun
        · rw [getD_set_ne true hm] at hun1; exact hun1
      · rw [Array.setIfInBounds_comm _ _ e]
        exact k.2.2

theorem Open.take {i : Nat} {o : Oper} {v : Value} {n : Nat} {done : Array Bool} {a : Act} {w : World} (ho : ops[i]? = some o) (hs : Region.noSelect ops = true) (hf : Region.free md ops done i = true)
    (hr : (Region.ready md ops done).contains i = true) (hz : waitsFor md ops z i = true) (hQ : ∀ c a w, Q (.panic c) (a.put o.dst v) w → Q (.panic c) a w) (hS : S w) (hy : YieldsIf P ops S o v a)
    (h : Open P md ops Q S z n (done.setIfInBounds i true) (a.put o.dst v) w) : Open P md ops Q S z (n + 1) done a w :=
  Open.early ho (Region.noSelect_spec hs) hQ hz n done a w (Region.free_spec ho hf) (by simpa using hr) hy hS h

/-- One operation alone may come up. -/
theorem Open.one {i : Nat} {o : Oper} {n : Nat} {done : Array Bool} {a : Act} {w : World} (ho : ops[i]? = some o) (hr : Region.ready md ops done = [i]) (hg : o.guard = none)
    (h : ∀ K : Act → World → Prop, (∀ a' w', ((i ≠ z → S w') ∧ Open P md ops Q S z n (done.setIfInBounds i true) a' w') → K a' w') → o.wp P a w K Q) : Open P md ops Q S z (n + 1) done a w := by
  refine ⟨fun e => by rw [hr] at e; simp at e, fun j hj => ?_⟩
  rw [hr] at hj
  simp at hj
  subst hj
  have hw : Region.wanted o (yielded ops a.tmps) = true := by simp [Region.wanted, hg]
  unfold wpOp
  simp only [ho, hw, if_true]
  exact .inl (h _ fun _ _ k => k)
theorem Open.end {n : Nat} {done : Array Bool} {a : Act} {w : World} (hr : Region.ready md ops done = []) (h : Q .normal a w) : Open P md ops Q S z n done a w := by
  cases n with
  | zero => exact ⟨hr, h⟩
  | succ n => exact ⟨fun _ => h, by rw [hr]; simp⟩
theorem Open.begin {id : Nat} {a : Act} {w : World} (hm : P.follows .mixedOrders = true) (h : Open P .any ops Q S z ops.size (Array.replicate ops.size false) a w.drew) : (Code.region id ops true).wp P Q a w :=
  wp_region_any hm (Open.any _ _ _ _ h)
end

/-- One number's answer turned. -/
def up1 {α : Type} (c : Nat → α) (j : Nat) (v : α) : Nat → α := fun k => if k = j then v else c k
theorem up1_same {α : Type} (c : Nat → α) (j : Nat) (v : α) : up1 c j v j = v := by simp [up1]
theorem up1_ne {α : Type} (c : Nat → α) {j k : Nat} (v : α) (h : k ≠ j) : up1 c j v k = c k := by simp [up1, h]
def cnt5 (c : Nat → Option Nat) : Nat := (if c 0 = none then 1 else 0) + (if c 1 = none then 1 else 0) + (if c 2 = none then 1 else 0) + (if c 3 = none then 1 else 0) + (if c 4 = none then 1 else 0)
theorem cnt5_up {c : Nat → Option Nat} {j b : Nat} (hj : j < 5) (hc : c j = none) : cnt5 c = cnt5 (up1 c j (some b)) + 1 := by
  have : j = 0 ∨ j = 1 ∨ j = 2 ∨ j = 3 ∨ j = 4 := by omega
  rcases this with rfl | rfl | rfl | rfl | rfl <;> (unfold cnt5 up1; simp [hc]; try omega)
theorem cnt5_zero {c : Nat → Option Nat} (h : cnt5 c = 0) : ∀ j, j < 5 → ∃ b, c j = some b := by
  have key : ∀ x : Option Nat, (if x = none then 1 else 0) = 0 → ∃ b, x = some b := fun x hx => by cases x with | none => simp at hx | some b => exact ⟨b, rfl⟩
  intro j hj
  unfold cnt5 at h
  have : j = 0 ∨ j = 1 ∨ j = 2 ∨ j = 3 ∨ j = 4 := by omega
  rcases this with rfl | rfl | rfl | rfl | rfl <;> exact key _ (by omega)

/-- Five new rows, made in any order. -/
structure Five (w0 w : World) (S : World → Prop) (N : Nat) (ex : Nat → TypeId) (zx : Nat → Value) (c : Nat → Option Nat) : Prop where
  below : Below w0.heap.size w0 w
  kind : S w
  at_ : ∀ j b, j < 5 → c j = some b → w0.heap.size ≤ b ∧ w.heap[b]? = some (.cells (madeCells #[zx j] N) (ex j) (0, 0))
  apart : ∀ j k b d, j < 5 → k < 5 → j ≠ k → c j = some b → c k = some d → b ≠ d

theorem Open.five {P : Program} {ops : Array Oper} {Q : Exit → Act → World → Prop} {md : Region.Mode} {S : World → Prop} {z n N : Nat} {w0 : World} (ix : Nat → Nat) (ex : Nat → TypeId) (zx : Nat → Value) (L : (Nat → Bool) → Array Bool) (A : (Nat → Option Nat) → Act)
    (hLx : ∀ u v : Nat → Bool, (∀ j, j < 5 → u j = v j) → L u = L v) (hL : ∀ u j, j < 5 → (L u).setIfInBounds (ix j) true = L (up1 u j true)) (hr : ∀ u : Nat → Bool, (u 0 && u 1 && u 2 && u 3 && u 4) = false → ∀ i ∈ Region.ready md ops (L u), ∃ j, j < 5 ∧ i = ix j ∧ u j = false) (hne : ∀ u : Nat → Bool, (u 0 && u 1 && u 2 && u 3 && u 4) = false → Region.ready md ops (L u) ≠ [])
    (hS : ∀ w o, S w → S (w.alloc o))
    (hw : ∀ (c : Nat → Option Nat) (j : Nat) (w : World) (K : Act → World → Prop), j < 5 → c j = none → K (A (up1 c j (some w.heap.size))) (w.alloc (.cells (madeCells #[zx j] N) (ex j))) → wpOp P ops Q (ix j) K (A c) w)
    (hend : ∀ (c : Nat → Option Nat) (w : World), (∀ j, j < 5 → ∃ b, c j = some b) → Five w0 w S N ex zx c → Open P md ops Q S z n (L fun _ => true) (A c) w) :
    ∀ (m : Nat) (c : Nat → Option Nat) (w : World) (u : Nat → Bool), cnt5 c = m → (∀ j, j < 5 → u j = (c j).isSome) → Five w0 w S N ex zx c → Open P md ops Q S z (n + m) (L u) (A c) w
  | 0, c, w, u, hc, hu, hF => by
    have h1 := cnt5_zero hc
    have h2 : L u = L fun _ => true := hLx _ _ fun j hj => by obtain ⟨b, hb⟩ := h1 j hj; rw [hu j hj, hb]; rfl
    rw [h2]
    exact hend c w h1 hF
  | m + 1, c, w, u, hc, hu, hF => by
    have hex : (u 0 && u 1 && u 2 && u 3 && u 4) = false := by
      cases hh : (u 0 && u 1 && u 2 && u 3 && u 4) with
      | false => rfl
      | true =>
        simp only [Bool.and_eq_true] at hh
        obtain ⟨⟨⟨⟨a0, a1⟩, a2⟩, a3⟩, a4⟩ := hh
        rw [hu 0 (by omega)] at a0; rw [hu 1 (by omega)] at a1; rw [hu 2 (by omega)] at a2; rw [hu 3 (by omega)] at a3; rw [hu 4 (by omega)] at a4
        have key : ∀ x : Option Nat, x.isSome = true → (if x = none then 1 else 0) = 0 := fun x hx => by cases x <;> simp_all
        unfold cnt5 at hc
        have := key _ a0; have := key _ a1; have := key _ a2; have := key _ a3; have := key _ a4
        omega
    refine ⟨fun e => absurd e (hne u hex), fun i hi => ?_⟩
    obtain ⟨j, hj, rfl, huj⟩ := hr u hex i hi
    have hcj : c j = none := by
      have := hu j hj
      rw [huj] at this
      cases hx : c j with
      | none => rfl
      | some b => rw [hx] at this; cases this
    refine hw c j w _ hj hcj ⟨fun _ => hS _ _ hF.kind, ?_⟩
    rw [hL u j hj]
    have hcn : cnt5 (up1 c j (some w.heap.size)) = m := by have := cnt5_up (b := w.heap.size) hj hcj; omega
    refine Open.five ix ex zx L A hLx hL hr hne hS hw hend m _ _ _ hcn (fun k hk => ?_) ⟨hF.below.alloc hF.below.size _, hS _ _ hF.kind, fun k b hk hb => ?_, fun k l b d hk hl hkl hb hd => ?_⟩
    · unfold up1
      by_cases e : k = j
      · simp [e]
      · simp [e, hu k hk]
    · unfold up1 at hb
      by_cases e : k = j
      · simp only [e, if_true, Option.some.injEq] at hb
        subst hb
        subst e
        refine ⟨hF.below.size, ?_⟩
        show (w.heap.push _)[w.heap.size]? = _
        simp
      · simp only [e, if_false] at hb
        have := hF.at_ k b hk hb
        exact ⟨this.1, (Below.heap_alloc w _ b (Array.getElem?_eq_some_iff.1 this.2).1).trans this.2⟩
    · have lt : ∀ k b, k < 5 → c k = some b → b < w.heap.size := fun k b hk hb => (Array.getElem?_eq_some_iff.1 (hF.at_ k b hk hb).2).1
      unfold up1 at hb hd
      by_cases e : k = j
      · by_cases e2 : l = j
        · omega
        · simp only [e, if_true, Option.some.injEq] at hb
          simp only [e2, if_false] at hd
          have := lt l d hl hd
          omega
      · simp only [e, if_false] at hb
        by_cases e2 : l = j
        · simp only [e2, if_true, Option.some.injEq] at hd
          have := lt k b hk hb
          omega
        · simp only [e2, if_false] at hd
          exact hF.apart k l b d hk hl hkl hb hd


theorem Open.swap {P : Program} {ops : Array Oper} {Q : Exit → Act → World → Prop} {md : Region.Mode} {S : World → Prop} {z n n' : Nat} {done done' : Array Bool} {a a' : Act} {w : World} (h1 : done = done') (h2 : a = a') (h3 : n = n') (h : Open P md ops Q S z n' done' a' w) : Open P md ops Q S z n done a w := by
  subst h1 h2 h3; exact h

theorem Open.name {P : Program} {ops : Array Oper} {Q : Exit → Act → World → Prop} {md : Region.Mode} {S : World → Prop} {z n : Nat} {done : Array Bool} {a : Act} {w : World} (h : ∀ a', a' = a → Open P md ops Q S z n done a' w) : Open P md ops Q S z n done a w := h a rfl

def put5 (a : Act) (d : Nat → Tmp) (v : Nat → Value) : Act := ((((a.put (some (d 0)) (v 0)).put (some (d 1)) (v 1)).put (some (d 2)) (v 2)).put (some (d 3)) (v 3)).put (some (d 4)) (v 4)
theorem put_same (a : Act) (d : Tmp) (u v : Value) : (a.put (some d) u).put (some d) v = a.put (some d) v := by
  simp [Act.put]
theorem put_swap (a : Act) {d e : Tmp} (h : d ≠ e) (u v : Value) : (a.put (some d) u).put (some e) v = (a.put (some e) v).put (some d) u := by
  simp only [Act.put]
  congr 1
  exact Array.setIfInBounds_comm _ _ h
theorem put5_put (a : Act) (d : Nat → Tmp) (v : Nat → Value) (hd : ∀ j k, j < 5 → k < 5 → j ≠ k → d j ≠ d k) {j : Nat} (hj : j < 5) (x : Value) : (put5 a d v).put (some (d j)) x = put5 a d (up1 v j x) := by
  have : j = 0 ∨ j = 1 ∨ j = 2 ∨ j = 3 ∨ j = 4 := by omega
  rcases this with rfl | rfl | rfl | rfl | rfl
  · unfold put5
    rw [put_swap _ (hd 4 0 (by omega) (by omega) (by omega)), put_swap _ (hd 3 0 (by omega) (by omega) (by omega)), put_swap _ (hd 2 0 (by omega) (by omega) (by omega)), put_swap _ (hd 1 0 (by omega) (by omega) (by omega)), put_same]
    simp [up1]
  · unfold put5
    rw [put_swap _ (hd 4 1 (by omega) (by omega) (by omega)), put_swap _ (hd 3 1 (by omega) (by omega) (by omega)), put_swap _ (hd 2 1 (by omega) (by omega) (by omega)), put_same]
    simp [up1]
  · unfold put5
    rw [put_swap _ (hd 4 2 (by omega) (by omega) (by omega)), put_swap _ (hd 3 2 (by omega) (by omega) (by omega)), put_same]
    simp [up1]
  · unfold put5
    rw [put_swap _ (hd 4 3 (by omega) (by omega) (by omega)), put_same]
    simp [up1]
  · unfold put5
    rw [put_same]
    simp [up1]
theorem put_eval (a : Act) {d l : Tmp} (h : d ≠ l) (u : Value) : (a.put (some d) u).eval (.tmp l) = a.eval (.tmp l) := Act.eval_put (fun e he => by injection he with he; subst he; exact fun e => h (by injection e with e1; exact e1.symm))
theorem put5_eval (a : Act) (d : Nat → Tmp) (v : Nat → Value) {l : Tmp} (h : ∀ j, j < 5 → d j ≠ l) : (put5 a d v).eval (.tmp l) = a.eval (.tmp l) := by
  unfold put5
  rw [put_eval _ (h 4 (by omega)), put_eval _ (h 3 (by omega)), put_eval _ (h 2 (by omega)), put_eval _ (h 1 (by omega)), put_eval _ (h 0 (by omega))]

theorem wpOp_make {P : Program} {ops : Array Oper} {Q : Exit → Act → World → Prop} {K : Act → World → Prop} {i : Nat} {o : Oper} {a : Act} {w : World} (ho : ops[i]? = some o) (hg : o.guard = none) (t : TypeId) (l c : Operand) (d : Tmp) (hop : o.op = Op.makeSlice t l c) (hd : o.dst = some d)
    (e : TypeId) (z : Value) (bytes : Nat) (ht : P.underlying t = some (.slice e)) (hinfo : (P.info? e).map (fun i => (i.zero, i.size, i.bytes)) = some (some z, 1, bytes)) (hz1 : z.cells = #[z]) (n : Nat) (hl : a.eval l = .int .i64 (n : Int)) (hc : a.eval c = .int .i64 (n : Int))
    (hbytes : bytes * n ≤ 281474976710656) (h63 : n ≤ 9223372036854775807) (hK : K (a.put (some d) (.slice (some ⟨w.heap.size, 0, none⟩) n n)) (w.alloc (.cells (madeCells #[z] n) e))) : wpOp P ops Q i K a w := by
  have hw : Region.wanted o (yielded ops a.tmps) = true := by simp [Region.wanted, hg]
  have hrun := run_make_row' (P := P) t e z bytes ht hinfo hz1 .i64 .i64 n hbytes h63 w
  unfold wpOp
  simp only [ho, hw, if_true]
  refine .inl ?_
  unfold Oper.wp
  simp [execOp, hop, hl, hc, hrun, Result.andThen, Oper.upon, hd]
  exact hK

theorem five_ready {R : List Nat} {u : Nat → Bool} {x0 x1 x2 x3 x4 : Nat} (h : (R.all fun i => (i == x0 && !u 0) || (i == x1 && !u 1) || (i == x2 && !u 2) || (i == x3 && !u 3) || (i == x4 && !u 4)) = true) :
    ∀ i ∈ R, ∃ j, j < 5 ∧ i = [x0, x1, x2, x3, x4].getD j 0 ∧ u j = false := by
  intro i hi
  rw [List.all_eq_true] at h
  have h2 := h i hi
  simp only [Bool.or_eq_true, Bool.and_eq_true, beq_iff_eq, Bool.not_eq_true', or_assoc] at h2
  rcases h2 with ⟨rfl, k⟩ | ⟨rfl, k⟩ | ⟨rfl, k⟩ | ⟨rfl, k⟩ | ⟨rfl, k⟩
  · exact ⟨0, by omega, rfl, k⟩
  · exact ⟨1, by omega, rfl, k⟩
  · exact ⟨2, by omega, rfl, k⟩
  · exact ⟨3, by omega, rfl, k⟩
  · exact ⟨4, by omega, rfl, k⟩

def mkRow (N : Nat) : Option Nat → Value
  | none => undef
  | some b => .slice (some ⟨b, 0, none⟩) N N

end Go.Proofs.Ytnaojfhhjknejaa
