/-
  The four tables of a graph while they grow.
-/
import Derived.Test.YteggofjldgjfiaaGreatMgAuMemAuGrAuNet
set_option linter.unusedVariables false
namespace Go.Proofs.YteggofjldgjfiaaGreat
open Go.RowKit
namespace Nf

/-- Table 0 has moves, tables 1, 2 and 3 have numbers. -/
def ety (t : Nat) : TypeId := if t = 0 then 67 else 3
def tty (t : Nat) : TypeId := if t = 0 then 65 else 73
def szt (t : Nat) : Nat := if t = 0 then 2 else 1
def enc (t : Nat) (x : Nat × Nat) : List Value := if t = 0 then [num x.1, num x.2] else [num x.1]
theorem ety_tty (s t : Nat) : ety s ≠ tty t := by unfold ety tty; split <;> split <;> decide

structure IxAt (w : World) (T : Nat → Prop) (base N : Nat) (tb : Nat → Nat) (V : Nat → Nat → Value) (R : Nat → Nat → List (Nat × Nat)) : Prop where
  tab : ∀ t, T t → Vec id w (tb t) (tty t) N N (V t)
  tbb : ∀ t, T t → base ≤ tb t
  inj : ∀ t t', T t → T t' → tb t = tb t' → t = t'
  row : ∀ t i, T t → i < N → w.ownsRow base (ety t) (szt t) (V t i) (R t i).length ((R t i).flatMap (enc t))
  apart : ∀ t i t' i', T t → i < N → T t' → i' < N → (t, i) ≠ (t', i') → (V t i).ownBlock = none ∨ (V t i).ownBlock ≠ (V t' i').ownBlock

def upd {α : Type} (f : Nat → Nat → α) (t i : Nat) (v : α) : Nat → Nat → α := fun t' i' => if t' = t ∧ i' = i then v else f t' i'
theorem upd_same {α : Type} (f : Nat → Nat → α) (t i : Nat) (v : α) : upd f t i v t i = v := by simp [upd]
theorem upd_ne {α : Type} (f : Nat → Nat → α) {t i t' i' : Nat} (v : α) (h : ¬ (t' = t ∧ i' = i)) : upd f t i v t' i' = f t' i' := by simp [upd, h]

variable {w w1 : World} {T : Nat → Prop} {base N : Nat} {tb : Nat → Nat} {V : Nat → Nat → Value} {R : Nat → Nat → List (Nat × Nat)}
theorem own_vec_ne {e e' : TypeId} {size n cap m g : Nat} {v : Value} {xs : List Value} {A : Nat → Value} (h : w.ownsRow base e size v n xs) (k : Vec id w g e' cap m A) (hne : e ≠ e') : v.ownBlock ≠ some g := by
  obtain ⟨cur, hc⟩ := Vec.blk k
  exact own_ne h hc hne

theorem IxAt.push (h : IxAt w T base N tb V R) {t i : Nat} (ht : T t) (hi : i < N) {v' : Value} {x : Nat × Nat} (hg : w.grownBy w1 (V t i).ownBlock)
    (hown : w1.ownsRow base (ety t) (szt t) v' ((R t i).length + 1) ((R t i).flatMap (enc t) ++ enc t x)) (hat : (V t i).ownBlock = v'.ownBlock ∨ ∃ g, v'.ownBlock = some g ∧ w.heap.size ≤ g) :
    IxAt (w1.setCell ⟨tb t, i, none⟩ v') T base N tb (upd V t i v') (upd R t i (R t i ++ [x])) := by
  have htab1 : ∀ t', T t' → Vec id w1 (tb t') (tty t') N N (V t') := fun t' ht' => (h.tab t' ht').grown hg (fun e => own_vec_ne (h.row t i ht hi) (h.tab t' ht') (ety_tty t t') e.symm)
  have hrow1 : ∀ t' i', T t' → i' < N → ¬ (t' = t ∧ i' = i) → w1.ownsRow base (ety t') (szt t') (V t' i') (R t' i').length ((R t' i').flatMap (enc t')) := fun t' i' ht' hi' hne =>
    (h.row t' i' ht' hi').kept hg (h.apart t' i' t i ht' hi' ht hi (fun e => hne (by injection e with e1 e2; exact ⟨e1, e2⟩)))
  have hlt : ∀ t' i', T t' → i' < N → ∀ k, (V t' i').ownBlock = some k → k < w.heap.size := fun t' i' ht' hi' k hk => ((h.row t' i' ht' hi').lt k hk).2
  refine ⟨fun t' ht' => ?_, h.tbb, h.inj, fun t' i' ht' hi' => ?_, fun t' i' t'' i'' ht' hi' ht'' hi'' hne => ?_⟩
  · by_cases e : t' = t
    · subst e
      exact ((htab1 t' ht).set (i := i) v').congr fun j hj => by
        show (if j = i then v' else V t' j) = upd V t' i v' t' j
        unfold upd
        by_cases e : j = i <;> simp [e]
    · exact (Vec.far (htab1 t' ht') (a := ⟨tb t, i, none⟩) (fun e1 => e (h.inj t' t ht' ht e1)) v').congr fun j hj => by rw [upd_ne]; exact fun e1 => e e1.1
  · by_cases e : t' = t ∧ i' = i
    · obtain ⟨rfl, rfl⟩ := e
      rw [upd_same, upd_same]
      have := own_far (u := v') hown (a := ⟨tb t', i', none⟩) (own_vec_ne hown (htab1 t' ht) (ety_tty t' t'))
      simpa using this
    · rw [upd_ne _ _ e, upd_ne _ _ e]
      exact own_far (hrow1 t' i' ht' hi' e) (a := ⟨tb t, i, none⟩) (own_vec_ne (hrow1 t' i' ht' hi' e) (htab1 t ht) (ety_tty t' t))
  · by_cases e : t' = t ∧ i' = i
    · obtain ⟨rfl, rfl⟩ := e
      rw [upd_same]
      have e2 : ¬ (t'' = t' ∧ i'' = i') := fun e2 => hne (by rw [e2.1, e2.2])
      rw [upd_ne _ _ e2]
      rcases hat with hat | ⟨g, hg1, hg2⟩
      · rw [← hat]; exact h.apart _ _ _ _ ht hi ht'' hi'' hne
      · right
        rw [hg1]
        intro e3
        have := hlt t'' i'' ht'' hi'' g e3.symm
        omega
    · rw [upd_ne _ _ e]
      by_cases e2 : t'' = t ∧ i'' = i
      · obtain ⟨rfl, rfl⟩ := e2
        rw [upd_same]
        rcases hat with hat | ⟨g, hg1, hg2⟩
        · rw [← hat]; exact h.apart _ _ _ _ ht' hi' ht hi hne
        · cases hk : (V t' i').ownBlock with
          | none => exact .inl rfl
          | some k =>
            right
            rw [hg1]
            intro e3
            have := hlt t' i' ht' hi' k hk
            injection e3 with e3
            omega
      · rw [upd_ne _ _ e2]; exact h.apart _ _ _ _ ht' hi' ht'' hi'' hne

theorem IxAt.below (h : IxAt w T base N tb V R) (hb : Below w.heap.size w w1) : IxAt w1 T base N tb V R := by
  have hg : w.grownBy w1 none := ⟨hb.os, hb.tape, hb.output, hb.size, fun k hk _ => hb.block k hk⟩
  exact ⟨fun t ht => (h.tab t ht).grown hg (by simp), h.tbb, h.inj, fun t i ht hi => (h.row t i ht hi).kept hg (by cases (V t i).ownBlock <;> simp), h.apart⟩
/-- A store elsewhere. -/
theorem IxAt.far (h : IxAt w T base N tb V R) {a : Addr} {c : Array Value} {ty : TypeId} {f : Nat × Nat} (hb : w.heap[a.block]? = some (.cells c ty f)) (h1 : ty ≠ 67) (h2 : ty ≠ 3) (h3 : ty ≠ 65) (h4 : ty ≠ 73) (u : Value) : IxAt (w.setCell a u) T base N tb V R := by
  have ha : ∀ t, ety t ≠ ty := fun t e => by unfold ety at e; split at e; exact h1 e.symm; exact h2 e.symm
  have hc : ∀ t, tty t ≠ ty := fun t e => by unfold tty at e; split at e; exact h3 e.symm; exact h4 e.symm
  refine ⟨fun t ht => ?_, h.tbb, h.inj, fun t i ht hi => own_far (h.row t i ht hi) (own_ne (h.row t i ht hi) hb (ha t)), h.apart⟩
  obtain ⟨cur, hcur⟩ := Vec.blk (h.tab t ht)
  exact Vec.far (h.tab t ht) (blk_ne hcur hb (hc t)) u

theorem flat_num (t : Nat) (ht : t ≠ 0) (l : List (Nat × Nat)) : l.flatMap (enc t) = (l.map Prod.fst).map num := by
  induction l with
  | nil => rfl
  | cons a r ih => simp [enc, ht, ih]
theorem IxAt.tabAt (h : IxAt w T base N tb V R) {t : Nat} (ht : T t) (h0 : t ≠ 0) (hs : ∀ i, (R t i).length ≤ 1000000) : TabAt w (tb t) N (fun i => (R t i).map Prod.fst) := by
  intro i hi
  have hr := h.row t i ht hi
  rw [flat_num t h0, show szt t = 1 by simp [szt, h0], show (R t i).length = ((R t i).map Prod.fst).length by simp] at hr
  have hsz := hs i
  obtain ⟨ao, cap, hv, hseq, _⟩ := seq_of_own hr (by unfold maxLen; simp; omega)
  refine ⟨ao, _, cap, ?_, hseq, by simpa using hs i⟩
  rw [(h.tab t ht).cell hi, ← hv]; rfl
theorem flat_pairs : ∀ (l : List (Nat × Nat)) (j : Nat) (x : Nat × Nat), l[j]? = some x → (l.flatMap (enc 0))[j * 2]? = some (num x.1) ∧ (l.flatMap (enc 0))[j * 2 + 1]? = some (num x.2)
  | [], j, x, h => by simp at h
  | a :: r, 0, x, h => by simp at h; subst h; simp [enc]
  | a :: r, j + 1, x, h => by
    have := flat_pairs r j x (by simpa using h)
    simp only [List.flatMap_cons]
    have e : enc 0 a = [num a.1, num a.2] := by simp [enc]
    rw [e, show (j + 1) * 2 = j * 2 + 1 + 1 by omega]
    simpa using this
theorem IxAt.movAt (h : IxAt w T base N tb V R) (h00 : T 0) (hs : ∀ i, (R 0 i).length ≤ 1000000) : MovAt w (tb 0) N (R 0) := by
  intro i hi
  have hr := h.row 0 i h00 hi
  have hc := (h.tab 0 h00).cell hi
  rcases hr.2 with ⟨hv, h0⟩ | ⟨g, cap, cur, hv, _, _⟩
  · refine ⟨none, 0, by rw [hc, hv, h0]; rfl, by omega, fun h1 => by omega⟩
  · refine ⟨some ⟨g, 0, none⟩, cap, by rw [hc, hv]; rfl, hs i, fun _ => ⟨g, 0, rfl, fun j x hx => ?_⟩⟩
    rw [hv] at hr
    have hp := flat_pairs _ j x hx
    have h1 := hr.cells (g := g) rfl (j * 2) _ hp.1
    have h2 := hr.cells (g := g) rfl (j * 2 + 1) _ hp.2
    rw [plain_add] at h1 h2
    exact ⟨h1, h2⟩

end Nf
end Go.Proofs.YteggofjldgjfiaaGreat
