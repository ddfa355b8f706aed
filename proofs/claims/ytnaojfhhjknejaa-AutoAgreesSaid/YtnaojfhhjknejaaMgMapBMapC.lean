/-
  closed, plainly: the states that have come and those still to do; and a row popped and grown.
-/
import Derived.Test.YtnaojfhhjknejaaMgMapB
import Derived.Test.YtnaojfhhjknejaaMgAuMemAuGrAuNet
import Derived.Test.YtnaojfhhjknejaaMgReRowReMem
set_option linter.unusedVariables false
namespace Go.Proofs.Ytnaojfhhjknejaa
open Go.RowKit
namespace Nf
structure Cls (g : Gr) (S L A : List Nat) : Prop where
  lt_l : ∀ q ∈ L, q < g.N
  lt_a : ∀ q ∈ A, q < g.N
  len : A.length = (List.range g.N).countP fun p => bl (p ∈ A)
  sound : ∀ q, q ∈ L ∨ q ∈ A → Cl g (· ∈ S) q
  start : ∀ q ∈ S, q ∈ L ∨ q ∈ A
  next : ∀ p ∈ A, ∀ q, E g p q → q ∈ L ∨ q ∈ A
variable {g : Gr} {S L A : List Nat}
theorem Cls.begin (h : ∀ q ∈ S, q < g.N) : Cls g S S [] := by
  refine ⟨h, by simp, ?_, fun q hq => ⟨q, by simpa using hq, .refl q⟩, fun q hq => .inl hq, by simp⟩
  rw [List.length_nil]
  symm
  rw [List.countP_eq_zero]
  intro a _
  rw [bl_iff]
  simp
theorem Cls.old {q : Nat} (h : Cls g S (L ++ [q]) A) (hq : q ∈ A) : Cls g S L A := by
  have key : ∀ x, x ∈ L ++ [q] ∨ x ∈ A → x ∈ L ∨ x ∈ A := fun x hx => by
    rcases hx with hx | hx
    · rcases List.mem_append.1 hx with hx | hx
      · exact .inl hx
      · simp at hx; subst hx; exact .inr hq
    · exact .inr hx
  exact ⟨fun x hx => h.lt_l x (List.mem_append_left _ hx), h.lt_a, h.len, fun x hx => h.sound x (hx.imp (List.mem_append_left _) id), fun x hx => key x (h.start x hx), fun p hp x hx => key x (h.next p hp x hx)⟩
theorem Cls.new {q : Nat} {R : List Nat} (h : Cls g S (L ++ [q]) A) (hq : q ∉ A) (hR : ∀ r, r ∈ R ↔ E g q r) (hlt : ∀ r ∈ R, r < g.N) : Cls g S (L ++ R) (A ++ [q]) := by
  have hqn : q < g.N := h.lt_l q (by simp)
  have hcq : Cl g (· ∈ S) q := h.sound q (.inl (by simp))
  have key : ∀ x, x ∈ L ++ [q] ∨ x ∈ A → x ∈ L ++ R ∨ x ∈ A ++ [q] := fun x hx => by
    rcases hx with hx | hx
    · rcases List.mem_append.1 hx with hx | hx
      · exact .inl (List.mem_append_left _ hx)
      · exact .inr (List.mem_append_right _ hx)
    · exact .inr (List.mem_append_left _ hx)
  refine ⟨fun x hx => ?_, fun x hx => ?_, ?_, fun x hx => ?_, fun x hx => key x (h.start x hx), fun p hp x hx => ?_⟩
  · rcases List.mem_append.1 hx with hx | hx
    · exact h.lt_l x (List.mem_append_left _ hx)
    · exact hlt x hx
  · rcases List.mem_append.1 hx with hx | hx
    · exact h.lt_a x hx
    · simp at hx; subst hx; exact hqn
  · rw [cnt_snoc _ _ hqn hq, ← h.len]; simp
  · rcases hx with hx | hx
    · rcases List.mem_append.1 hx with hx | hx
      · exact h.sound x (.inl (List.mem_append_left _ hx))
      · obtain ⟨p, hp, hs⟩ := hcq
        exact ⟨p, hp, hs.snoc ((hR x).1 hx)⟩
    · rcases List.mem_append.1 hx with hx | hx
      · exact h.sound x (.inr hx)
      · simp at hx; subst hx; exact hcq
  · rcases List.mem_append.1 hp with hp | hp
    · exact key x (h.next p hp x hx)
    · simp at hp; subst hp
      exact .inl (List.mem_append_right _ ((hR x).2 hx))
theorem Cls.done (h : Cls g S [] A) (q : Nat) : q ∈ A ↔ Cl g (· ∈ S) q := by
  constructor
  · exact fun hq => h.sound q (.inr hq)
  · rintro ⟨p, hp, hs⟩
    refine hs.keeps (P := (· ∈ A)) (fun a b hab ha => ?_) ?_
    · exact (h.next a ha b hab).resolve_left (by simp)
    · exact (h.start p hp).resolve_left (by simp)
theorem Cls.few (h : Cls g S L A) : A.length ≤ g.N := by rw [h.len]; exact cnt_le _ _

/-- A row of the call's own without its last element. -/
theorem own_pop {w : World} {base : Nat} {e : TypeId} {lo : Option Addr} {n cap : Nat} {xs : List Value} {x : Value} (h : w.ownsRow base e 1 (.slice lo (n + 1) cap) (n + 1) (xs ++ [x])) : w.ownsRow base e 1 (.slice lo n cap) n xs := by
  have hl : xs.length = n := by have := h.1; simp at this; omega
  refine ⟨by omega, ?_⟩
  rcases h.2 with ⟨e1, h0⟩ | ⟨g, c, cur, e1, hb, hg, h1, h2, h3, h4⟩
  · omega
  · injection e1 with e1 e2 e3
    subst e1 e3
    refine .inr ⟨g, cap, cur, rfl, hb, hg, by omega, h2, h3, ?_⟩
    have h5 := congrArg (List.take n) h4
    have h6 : List.take n (xs ++ [x]) = xs := by rw [← hl, List.take_left]
    rw [h6, List.take_take, Nat.mul_one, Nat.min_eq_left (by omega)] at h5
    rw [Nat.mul_one]
    exact h5
theorem run_append_none (w : World) (ty : TypeId) (c : Nat) {base n : Nat} {v : Value} {xs : List Value} (h : w.ownsRow base 3 1 v n xs) : (Builtin.append_ #[67, 67] ty #[v, .slice none 0 c]).run Try.prog w = .ok v w := by
  obtain ⟨i0, hi, hz0, hz1, hz2⟩ := info_parts intInfo
  rcases h.2 with ⟨rfl, rfl⟩ | ⟨g, cap, cur, rfl, _, _, h1, _⟩
  · simp [Builtin.append_, run_underlying Try.underlying67, sizeOf, typeInfo, hi, Builtin.lenOf, Builtin.firstCells]
  · simp [Builtin.append_, run_underlying Try.underlying67, sizeOf, typeInfo, hi, Builtin.lenOf, Builtin.firstCells, h1, storeCells, go_sem]
/-- A whole row of numbers appended to a row of the call's own. -/
theorem push_row {w : World} {ops : Array Oper} {rest : List Oper} {o : Oper} {a : Act} {Q : Exit → Act → World → Prop} (hgd : o.guard = none) (s x : Operand)
    (ho : o.op = .call { callee := .builtin .append, args := #[s, x], argTypes := #[67, 67] })
    (base : Nat) (v : Value) (L : List Nat) (hs : a.eval s = v) (hown : w.ownsRow base 3 1 v L.length (L.map num))
    (R : List Nat) (ao : Option Addr) (m c : Nat) (hx : a.eval x = .slice ao m c) (hR : Seq num w ao m R) (hbig : (L.length + m) * 8 ≤ 140737488351232) (hbase : base ≤ w.heap.size)
    (h : ∀ v' w', w'.ownsRow base 3 1 v' (L ++ R).length ((L ++ R).map num) → w.grownBy w' v.ownBlock → wpList Try.prog ops Q rest (a.put o.dst v') w') : wpList Try.prog ops Q (o :: rest) a w := by
  obtain ⟨i0, hi, hz0, hz1, hz2⟩ := info_parts intInfo
  have hl := hR.1
  cases ao with
  | none =>
    have h0 : m = 0 := by
      by_cases h0 : 0 < m
      · obtain ⟨b, off, e, _⟩ := hR.2.2 h0; cases e
      · omega
    subst h0
    have hR0 : R = [] := List.length_eq_zero_iff.1 hl
    subst hR0
    refine wpList_plain hgd fun K' hK' => ?_
    unfold Oper.wp execOp
    simp only [ho, resolve, invoke, builtin, Sem.run_bind, Sem.run_pure, Result.andThen_ok, List.map_toArray, List.map_cons, List.map_nil, hs, hx, run_append_none w o.type c hown]
    exact hK' _ _ (h v w (by simpa using hown) ⟨rfl, rfl, rfl, Nat.le_refl _, fun _ _ _ => rfl⟩)
  | some ad =>
    have hnews : ∀ j u, (R.map num)[j]? = some u → w.cell? (ad.add j) = some u := by
      intro j u hj
      have hjl : j < R.length := by have := (List.getElem?_eq_some_iff.1 hj).1; simpa using this
      obtain ⟨b, off, e, hc⟩ := hR.2.2 (by omega)
      cases e
      rw [plain_add, hc j R[j] (by simp [hjl])]
      rw [List.getElem?_map] at hj
      simp [hjl] at hj
      rw [← hj]
    refine wpList_append_own_at w hgd s x 67 ho base 3 i0 (.int .i64 0) 1 8 Try.underlying67 hi hz0 hz1 hz2 rfl (by decide) v _ _ hs hown ad m c (R.map num) hx (by simp; omega) hnews (fun u hu => by obtain ⟨z, _, rfl⟩ := List.mem_map.1 hu; rfl) (by unfold maxLen; omega) (by omega) hbase ?_
    intro v' w' hown' hgrow _ hat
    exact h v' w' (by rw [List.length_append, hl, List.map_append]; exact hown') hgrow
end Nf
end Go.Proofs.Ytnaojfhhjknejaa
