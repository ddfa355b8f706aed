/-
  Rows of arcs and of ends of the call's own; a net laid out in a block; a clone as a row of the call's own. (As in the texts on Copy and Reverse, for programs that have neither.)
-/
import Derived.Test.YtpoblcmjfcpiaaaGreatMgAuZAuZaAuKnAuLa
import Derived.Test.YtpoblcmjfcpiaaaGreatMgReTurnReClMReSortReNg
import Derived.Test.YtpoblcmjfcpiaaaGreatMgReKpReOw
import Derived.Test.YtpoblcmjfcpiaaaGreatMgReIl
set_option linter.unusedVariables false
set_option linter.unusedSimpArgs false
namespace Go.Proofs.YtpoblcmjfcpiaaaGreat
open Go.RowKit
namespace Nf
theorem flat_get {α : Type} (f : α → List Value) (m : Nat) (hm : 0 < m) (hf : ∀ x, (f x).length = m) : ∀ (l : List α) (j : Nat), (l.flatMap f)[j]? = (l[j / m]?).bind fun x => (f x)[j % m]?
  | [], j => by simp
  | a :: l, j => by
    rw [List.flatMap_cons]
    by_cases h : j < m
    · rw [List.getElem?_append_left (by rw [hf]; exact h), Nat.div_eq_of_lt h, Nat.mod_eq_of_lt h]
      simp
    · have h1 : j / m = (j - m) / m + 1 := by
        have := Nat.add_div_right (j - m) hm
        rw [Nat.sub_add_cancel (by omega)] at this
        exact this
      have h2 : j % m = (j - m) % m := Nat.mod_eq_sub_mod (by omega)
      rw [List.getElem?_append_right (by rw [hf]; omega), hf, flat_get f m hm hf l (j - m), h1, h2]
      simp
def arcCells (x : ArcV) : List Value := [.int .i64 x.f, .string x.i, .string x.o, .int .i64 x.t, .int .i64 x.c]
def endCells (x : EndV) : List Value := [.int .i64 x.s, .int .i64 x.c]
theorem flat_len {α : Type} (f : α → List Value) (m : Nat) (hf : ∀ x, (f x).length = m) : ∀ l : List α, (l.flatMap f).length = l.length * m
  | [] => by simp
  | a :: l => by rw [List.flatMap_cons, List.length_append, hf, flat_len f m hf l, List.length_cons, Nat.add_mul, Nat.one_mul, Nat.add_comm]
theorem arcs_news {w : World} {b off n : Nat} {l : List ArcV} (hc : ∀ k x, l[k]? = some x →
    w.cell? ⟨b, off + k * 5, none⟩ = some (.int .i64 x.f) ∧ w.cell? ⟨b, off + k * 5 + 1, none⟩ = some (.string x.i) ∧ w.cell? ⟨b, off + k * 5 + 2, none⟩ = some (.string x.o) ∧
    w.cell? ⟨b, off + k * 5 + 3, none⟩ = some (.int .i64 x.t) ∧ w.cell? ⟨b, off + k * 5 + 4, none⟩ = some (.int .i64 x.c)) : ∀ j u, (l.flatMap arcCells)[j]? = some u → w.cell? ((⟨b, off, none⟩ : Addr).add j) = some u := by
  intro j u hj
  rw [flat_get arcCells 5 (by omega) (fun _ => rfl)] at hj
  obtain ⟨x, hx, hu⟩ := Option.bind_eq_some_iff.1 hj
  rw [plain_add]
  have h5 := hc _ _ hx
  obtain ⟨k, hk⟩ : ∃ k, j / 5 = k := ⟨_, rfl⟩
  obtain ⟨r, hr⟩ : ∃ r, j % 5 = r := ⟨_, rfl⟩
  have hjk : j = k * 5 + r := by have := Nat.div_add_mod j 5; omega
  have hr5 : r < 5 := by have := Nat.mod_lt j (show 0 < 5 by omega); omega
  rw [hk] at h5
  rw [hr] at hu
  rw [hjk, ← Nat.add_assoc]
  match r, hr5, hu with
  | 0, _, hu => simp [arcCells] at hu; subst hu; exact h5.1
  | 1, _, hu => simp [arcCells] at hu; subst hu; exact h5.2.1
  | 2, _, hu => simp [arcCells] at hu; subst hu; exact h5.2.2.1
  | 3, _, hu => simp [arcCells] at hu; subst hu; exact h5.2.2.2.1
  | 4, _, hu => simp [arcCells] at hu; subst hu; exact h5.2.2.2.2
theorem ends_news {w : World} {b off n : Nat} {l : List EndV} (hc : ∀ k x, l[k]? = some x →
    w.cell? ⟨b, off + k * 2, none⟩ = some (.int .i64 x.s) ∧ w.cell? ⟨b, off + k * 2 + 1, none⟩ = some (.int .i64 x.c)) : ∀ j u, (l.flatMap endCells)[j]? = some u → w.cell? ((⟨b, off, none⟩ : Addr).add j) = some u := by
  intro j u hj
  rw [flat_get endCells 2 (by omega) (fun _ => rfl)] at hj
  obtain ⟨x, hx, hu⟩ := Option.bind_eq_some_iff.1 hj
  rw [plain_add]
  have h5 := hc _ _ hx
  obtain ⟨k, hk⟩ : ∃ k, j / 2 = k := ⟨_, rfl⟩
  obtain ⟨r, hr⟩ : ∃ r, j % 2 = r := ⟨_, rfl⟩
  have hjk : j = k * 2 + r := by have := Nat.div_add_mod j 2; omega
  have hr5 : r < 2 := by have := Nat.mod_lt j (show 0 < 2 by omega); omega
  rw [hk] at h5
  rw [hr] at hu
  rw [hjk, ← Nat.add_assoc]
  match r, hr5, hu with
  | 0, _, hu => simp [endCells] at hu; subst hu; exact h5.1
  | 1, _, hu => simp [endCells] at hu; subst hu; exact h5.2
theorem arcs_of_own {w : World} {base : Nat} {e : TypeId} {v : Value} {l : List ArcV} (h : w.ownsRow base e 5 v l.length (l.flatMap arcCells)) (hm : l.length ≤ 2600000000000) (hs : ∀ x ∈ l, x.i.size ≤ maxLen ∧ x.o.size ≤ maxLen) : ∃ ao cap, v = .slice ao l.length cap ∧ ArcsAt w ao l.length l ∧ ∀ a, ao = some a → base ≤ a.block := by
  rcases h.2 with ⟨rfl, h0⟩ | ⟨g, cap, cur, rfl, hb, hg, _⟩
  · exact ⟨none, 0, by rw [h0], ⟨rfl, hm, fun hn => by omega, hs⟩, fun a ha => by cases ha⟩
  · refine ⟨some ⟨g, 0, none⟩, cap, rfl, ⟨rfl, hm, fun hn => ⟨g, 0, rfl, fun k x hx => ?_⟩, hs⟩, fun a ha => by injection ha with ha; subst ha; exact hb⟩
    have key : ∀ r u, (arcCells x)[r]? = some u → r < 5 → w.cell? ⟨g, 0 + k * 5 + r, none⟩ = some u := fun r u hu hr => by
      have h1 := h.cells (g := g) rfl (k * 5 + r) u (by
        rw [flat_get arcCells 5 (by omega) (fun _ => rfl)]
        have e1 : (k * 5 + r) / 5 = k := by omega
        have e2 : (k * 5 + r) % 5 = r := by omega
        rw [e1, e2, hx]
        exact hu)
      rw [plain_add] at h1
      rw [Nat.add_assoc]; exact h1
    exact ⟨key 0 _ rfl (by omega), key 1 _ rfl (by omega), key 2 _ rfl (by omega), key 3 _ rfl (by omega), key 4 _ rfl (by omega)⟩
theorem ends_of_own {w : World} {base : Nat} {e : TypeId} {v : Value} {l : List EndV} (h : w.ownsRow base e 2 v l.length (l.flatMap endCells)) (hm : l.length ≤ 9000000000000) : ∃ ao cap, v = .slice ao l.length cap ∧ EndsAt w ao l.length l ∧ ∀ a, ao = some a → base ≤ a.block := by
  rcases h.2 with ⟨rfl, h0⟩ | ⟨g, cap, cur, rfl, hb, hg, _⟩
  · exact ⟨none, 0, by rw [h0], ⟨rfl, hm, fun hn => by omega⟩, fun a ha => by cases ha⟩
  · refine ⟨some ⟨g, 0, none⟩, cap, rfl, ⟨rfl, hm, fun hn => ⟨g, 0, rfl, fun k x hx => ?_⟩⟩, fun a ha => by injection ha with ha; subst ha; exact hb⟩
    have key : ∀ r u, (endCells x)[r]? = some u → r < 2 → w.cell? ⟨g, 0 + k * 2 + r, none⟩ = some u := fun r u hu hr => by
      have h1 := h.cells (g := g) rfl (k * 2 + r) u (by
        rw [flat_get endCells 2 (by omega) (fun _ => rfl)]
        have e1 : (k * 2 + r) / 2 = k := by omega
        have e2 : (k * 2 + r) % 2 = r := by omega
        rw [e1, e2, hx]
        exact hu)
      rw [plain_add] at h1
      rw [Nat.add_assoc]; exact h1
    exact ⟨key 0 _ rfl (by omega), key 1 _ rfl (by omega)⟩
theorem row_far {w : World} {ao : Option Addr} {n B i : Nat} {l : List ByteArray} (h : Sp.Row w ao n l) (hb : 0 < n → ∀ a, ao = some a → a.block ≠ B) (v : Value) : Sp.Row (w.setCell ⟨B, i, none⟩ v) ao n l := by
  obtain ⟨h1, h2, h3, h4⟩ := h
  refine ⟨h1, h2, fun hn => ?_, h4⟩
  obtain ⟨b, off, rfl, hc⟩ := h3 hn
  have hne := hb hn _ rfl
  exact ⟨b, off, rfl, fun k hk => (World.cell?_of_block (a := ⟨b, off + k, none⟩) (Below.heap_setCell w ⟨B, i, none⟩ v b hne)).trans (hc k hk)⟩
theorem arcs_far {w : World} {ao : Option Addr} {n B i : Nat} {l : List ArcV} (h : ArcsAt w ao n l) (hb : ∀ a, ao = some a → a.block ≠ B) (v : Value) : ArcsAt (w.setCell ⟨B, i, none⟩ v) ao n l := by
  obtain ⟨h1, h2, h3, h4⟩ := h
  refine ⟨h1, h2, fun hn => ?_, h4⟩
  obtain ⟨b, off, rfl, hc⟩ := h3 hn
  have hne := hb _ rfl
  have key : ∀ o u, w.cell? ⟨b, o, none⟩ = some u → (w.setCell ⟨B, i, none⟩ v).cell? ⟨b, o, none⟩ = some u := fun o u hu => (World.cell?_of_block (a := ⟨b, o, none⟩) (Below.heap_setCell w ⟨B, i, none⟩ v b hne)).trans hu
  exact ⟨b, off, rfl, fun k x hx => by obtain ⟨a1, a2, a3, a4, a5⟩ := hc k x hx; exact ⟨key _ _ a1, key _ _ a2, key _ _ a3, key _ _ a4, key _ _ a5⟩⟩
theorem ends_far {w : World} {ao : Option Addr} {n B i : Nat} {l : List EndV} (h : EndsAt w ao n l) (hb : ∀ a, ao = some a → a.block ≠ B) (v : Value) : EndsAt (w.setCell ⟨B, i, none⟩ v) ao n l := by
  obtain ⟨h1, h2, h3⟩ := h
  refine ⟨h1, h2, fun hn => ?_⟩
  obtain ⟨b, off, rfl, hc⟩ := h3 hn
  have hne := hb _ rfl
  have key : ∀ o u, w.cell? ⟨b, o, none⟩ = some u → (w.setCell ⟨B, i, none⟩ v).cell? ⟨b, o, none⟩ = some u := fun o u hu => (World.cell?_of_block (a := ⟨b, o, none⟩) (Below.heap_setCell w ⟨B, i, none⟩ v b hne)).trans hu
  exact ⟨b, off, rfl, fun k x hx => by obtain ⟨a1, a2⟩ := hc k x hx; exact ⟨key _ _ a1, key _ _ a2⟩⟩
theorem arcInfo : (Tryz.prog.info? 51).map (fun i => (i.zero, i.size, i.bytes)) = some (some (.agg #[.int .i64 0, .string ⟨#[]⟩, .string ⟨#[]⟩, .int .i64 0, .int .i64 0]), 5, 56) := by kernel_rfl
theorem endInfo : (Tryz.prog.info? 53).map (fun i => (i.zero, i.size, i.bytes)) = some (some (.agg #[.int .i64 0, .int .i64 0]), 2, 16) := by kernel_rfl
end Nf
namespace Nf
theorem blk_drew {w : World} {g : Nat} {o : Obj} (h : w.heap[g]? = some o) : w.drew.heap[g]? = some o := h
/-- A net laid out in a block that was zero. -/
theorem rv_set4 {w3 : World} {zb : Nat} (hz : w3.heap[zb]? = some (.cells #[.slice none 0 0, .int .i64 0, .slice none 0 0, .slice none 0 0] 26 (0, 0))) (a b c d : Value) {wx : World}
    (hx : wx = (((w3.setCell ⟨zb, 0, none⟩ a).setCell ⟨zb, 1, none⟩ b).setCell ⟨zb, 2, none⟩ c).setCell ⟨zb, 3, none⟩ d) :
    wx.heap[zb]? = some (.cells #[a, b, c, d] 26 (0, 0)) ∧ (∀ (k : Nat) (o : Obj), k ≠ zb → w3.heap[k]? = some o → wx.heap[k]? = some o) ∧
    (∀ (base n : Nat) (v : Value) (xs : List Value), w3.ownsRow base 9 1 v n xs → wx.ownsRow base 9 1 v n xs) ∧ wx.heap.size = w3.heap.size ∧ (∀ (B : Nat) (w2 : World), Below B w2 w3 → B ≤ zb → Below B w2 wx) := by
  subst hx
  have b1 := blk_set (i := 0) hz a
  have b2 := blk_set (i := 1) b1 b
  have b3 := blk_set (i := 2) b2 c
  refine ⟨blk_set (i := 3) b3 d, fun k o hne hk => ?_, fun base n v xs h => ?_, by simp [World.setCell], fun B w2 h hB => ?_⟩
  · exact blk_far (blk_far (blk_far (blk_far hk (a := ⟨zb, 0, none⟩) hne a) (a := ⟨zb, 1, none⟩) hne b) (a := ⟨zb, 2, none⟩) hne c) (a := ⟨zb, 3, none⟩) hne d
  · have h1 := own_far (u := a) h (a := ⟨zb, 0, none⟩) (own_ne h hz (by decide))
    have h2 := own_far (u := b) h1 (a := ⟨zb, 1, none⟩) (own_ne h1 b1 (by decide))
    have h3 := own_far (u := c) h2 (a := ⟨zb, 2, none⟩) (own_ne h2 b2 (by decide))
    exact own_far (u := d) h3 (a := ⟨zb, 3, none⟩) (own_ne h3 b3 (by decide))
  · exact (((h.setCell (p := ⟨zb, 0, none⟩) hB a).setCell (p := ⟨zb, 1, none⟩) hB b).setCell (p := ⟨zb, 2, none⟩) hB c).setCell (p := ⟨zb, 3, none⟩) hB d
/-- One arc appended to a row of the call's own. -/
theorem push_arc {w : World} {ops : Array Oper} {rest : List Oper} {o : Oper} {a : Act} {Q : Exit → Act → World → Prop} (hgd : o.guard = none) (s x : Operand)
    (ho : o.op = .call { callee := .builtin .append, args := #[s, x], argTypes := #[23, 23] })
    (base : Nat) (v : Value) (L : List ArcV) (hs : a.eval s = v) (hown : w.ownsRow base 51 5 v L.length (L.flatMap arcCells))
    (q : ArcV) (b : Nat) (c : Nat) (hx : a.eval x = .slice (some ⟨b, 0, none⟩) 1 c) (hc : w.heap[b]? = some (.cells #[.int .i64 q.f, .string q.i, .string q.o, .int .i64 q.t, .int .i64 q.c] 51 (0, 0))) (hbig : L.length ≤ 1000000) (hbase : base ≤ w.heap.size)
    (h : ∀ v' w', w'.ownsRow base 51 5 v' (L ++ [q]).length ((L ++ [q]).flatMap arcCells) → w.grownBy w' v.ownBlock → (v'.ownBlock = v.ownBlock ∨ v'.ownBlock = some w.heap.size) → wpList Tryz.prog ops Q rest (a.put o.dst v') w') : wpList Tryz.prog ops Q (o :: rest) a w := by
  obtain ⟨i0, hi, hz0, hz1, hz2⟩ := info_parts arcInfo
  have hnews : ∀ j u, (arcCells q)[j]? = some u → w.cell? ((⟨b, 0, none⟩ : Addr).add j) = some u := by
    intro j u hj
    rw [plain_add, Nat.zero_add]
    refine blk_cell (i := j) hc ?_
    match j, hj with
    | 0, hj => simpa [arcCells] using hj
    | 1, hj => simpa [arcCells] using hj
    | 2, hj => simpa [arcCells] using hj
    | 3, hj => simpa [arcCells] using hj
    | 4, hj => simpa [arcCells] using hj
  refine wpList_append_own_at w hgd s x 23 ho base 51 i0 (.agg #[.int .i64 0, .string ⟨#[]⟩, .string ⟨#[]⟩, .int .i64 0, .int .i64 0]) 5 56 Tryz.underlying23 hi hz0 hz1 hz2 rfl (by decide) v _ _ hs hown ⟨b, 0, none⟩ 1 c (arcCells q) hx rfl hnews (fun u hu => by simp [arcCells] at hu; rcases hu with rfl | rfl | rfl | rfl | rfl <;> rfl) (by unfold maxLen; omega) (by omega) hbase ?_
  intro v' w' hown' hgrow _ hat
  exact h v' w' (by simpa using hown') hgrow hat
def zeroNet : Net := ⟨none, 0, 0, [], 0, none, 0, 0, [], none, 0, 0, []⟩
theorem zeroNet_at (w : World) : NetAt w zeroNet := ⟨⟨rfl, by decide, fun h => absurd h (by decide), by simp [zeroNet]⟩, ⟨rfl, by decide, fun h => absurd h (by decide), by simp [zeroNet]⟩, ⟨rfl, by decide, fun h => absurd h (by decide)⟩, by simp [zeroNet], by simp [zeroNet]⟩
end Nf

set_option maxHeartbeats 1000000 in
/-- A clone, as a row of the call's own. -/
theorem cloneOwn_any (ao : Option Addr) (n cap : Nat) (l : List ByteArray) (w : World) (h : Sp.Row w ao n l) (hn : n * 16 ≤ 140737488351232) :
    Calls Tryz.prog 47 #[.slice ao n cap] w fun e w' => ∃ v, e = .returned v ∧ w'.ownsRow w.heap.size 9 1 v l.length (l.map Value.string) ∧ Below w.heap.size w w' := by
  have hl := h.1
  by_cases h0 : n = 0
  · subst h0
    have hl0 : l = [] := List.length_eq_zero_iff.1 hl
    subst hl0
    cases ao with
    | none =>
      refine (Tryz.slices_Clone_string_nil 0 cap w).mono ?_
      rintro e w' ⟨rfl, rfl⟩
      exact ⟨_, rfl, World.ownsRow_nil _ _ _ _, Below.refl _ _⟩
    | some ad =>
      refine (Tryz.slices_Clone_string_zero ad cap w).mono ?_
      rintro e w' ⟨v, rfl, hown, _, hb⟩
      exact ⟨v, rfl, hown, hb⟩
  · obtain ⟨b, off, rfl, hc⟩ := h.2.2.1 (by omega)
    refine (Tryz.slices_Clone_string b off n cap l w (by omega) (by omega) (fun j hj => hc j (by omega))).mono ?_
    rintro e w' ⟨v, rfl, hown, _, hb⟩
    rw [List.take_of_length_le (by omega), ← hl] at hown
    exact ⟨v, rfl, hown, hb⟩
end Go.Proofs.YtpoblcmjfcpiaaaGreat
