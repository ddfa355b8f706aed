/-
  The walks of Clone at arcs and ends, and of Copy.
-/
import Derived.Test.YteggofjldgjfiaaMgAuZAuZaAuKnAuLa
set_option linter.unusedVariables false
set_option linter.unusedSimpArgs false
namespace Go.Proofs.Yteggofjldgjfiaa
open Go.RowKit
namespace Nf
theorem flat_get {α : Type} (f : α → List Value) (m : Nat) (hm : 0 < m) (hf : ∀ x, (f x).length = m) : ∀ (l : List α) (j : Nat), (l.flatMap f)[j]? = (l[j / m]?).bind fun x => (f x)[j % m]?
  | [], j => by simp
  | a :: l, j => by
    rw [List.flatMap_cons]
    by_cases h : j < m
    · rw [List.getElem?_append_left (by rw [hf]; exact h), Nat.div_eq_of_lt h, Nat.mod_eq_of_lt h]
      simp
    · have h1 : j / m = (j - m) / m + 1 := by
        have := Nat.add_div_right (j - m) hm
        rw [Nat.sub_add_cancel (by omega)] at this
        exact this
      have h2 : j % m = (j - m) % m := Nat.mod_eq_sub_mod (by omega)
      rw [List.getElem?_append_right (by rw [hf]; omega), hf, flat_get f m hm hf l (j - m), h1, h2]
      simp
def arcCells (x : ArcV) : List Value := [.int .i64 x.f, .string x.i, .string x.o, .int .i64 x.t, .int .i64 x.c]
def endCells (x : EndV) : List Value := [.int .i64 x.s, .int .i64 x.c]
theorem flat_len {α : Type} (f : α → List Value) (m : Nat) (hf : ∀ x, (f x).length = m) : ∀ l : List α, (l.flatMap f).length = l.length * m
  | [] => by simp
  | a :: l => by rw [List.flatMap_cons, List.length_append, hf, flat_len f m hf l, List.length_cons, Nat.add_mul, Nat.one_mul, Nat.add_comm]
theorem arcs_news {w : World} {b off n : Nat} {l : List ArcV} (hc : ∀ k x, l[k]? = some x →
    w.cell? ⟨b, off + k * 5, none⟩ = some (.int .i64 x.f) ∧ w.cell? ⟨b, off + k * 5 + 1, none⟩ = some (.string x.i) ∧ w.cell? ⟨b, off + k * 5 + 2, none⟩ = some (.string x.o) ∧
    w.cell? ⟨b, off + k * 5 + 3, none⟩ = some (.int .i64 x.t) ∧ w.cell? ⟨b, off + k * 5 + 4, none⟩ = some (.int .i64 x.c)) : ∀ j u, (l.flatMap arcCells)[j]? = some u → w.cell? ((⟨b, off, none⟩ : Addr).add j) = some u := by
  intro j u hj
  rw [flat_get arcCells 5 (by omega) (fun _ => rfl)] at hj
  obtain ⟨x, hx, hu⟩ := Option.bind_eq_some_iff.1 hj
  rw [plain_add]
  have h5 := hc _ _ hx
  obtain ⟨k, hk⟩ : ∃ k, j / 5 = k := ⟨_, rfl⟩
  obtain ⟨r, hr⟩ : ∃ r, j % 5 = r := ⟨_, rfl⟩
  have hjk : j = k * 5 + r := by have := Nat.div_add_mod j 5; omega
  have hr5 : r < 5 := by have := Nat.mod_lt j (show 0 < 5 by omega); omega
  rw [hk] at h5
  rw [hr] at hu
  rw [hjk, ← Nat.add_assoc]
  match r, hr5, hu with
  | 0, _, hu => simp [arcCells] at hu; subst hu; exact h5.1
  | 1, _, hu => simp [arcCells] at hu; subst hu; exact h5.2.1
  | 2, _, hu => simp [arcCells] at hu; subst hu; exact h5.2.2.1
  | 3, _, hu => simp [arcCells] at hu; subst hu; exact h5.2.2.2.1
  | 4, _, hu => simp [arcCells] at hu; subst hu; exact h5.2.2.2.2
theorem ends_news {w : World} {b off n : Nat} {l : List EndV} (hc : ∀ k x, l[k]? = some x →
    w.cell? ⟨b, off + k * 2, none⟩ = some (.int .i64 x.s) ∧ w.cell? ⟨b, off + k * 2 + 1, none⟩ = some (.int .i64 x.c)) : ∀ j u, (l.flatMap endCells)[j]? = some u → w.cell? ((⟨b, off, none⟩ : Addr).add j) = some u := by
  intro j u hj
  rw [flat_get endCells 2 (by omega) (fun _ => rfl)] at hj
  obtain ⟨x, hx, hu⟩ := Option.bind_eq_some_iff.1 hj
  rw [plain_add]
  have h5 := hc _ _ hx
  obtain ⟨k, hk⟩ : ∃ k, j / 2 = k := ⟨_, rfl⟩
  obtain ⟨r, hr⟩ : ∃ r, j % 2 = r := ⟨_, rfl⟩
  have hjk : j = k * 2 + r := by have := Nat.div_add_mod j 2; omega
  have hr5 : r < 2 := by have := Nat.mod_lt j (show 0 < 2 by omega); omega
  rw [hk] at h5
  rw [hr] at hu
  rw [hjk, ← Nat.add_assoc]
  match r, hr5, hu with
  | 0, _, hu => simp [endCells] at hu; subst hu; exact h5.1
  | 1, _, hu => simp [endCells] at hu; subst hu; exact h5.2
theorem arcs_of_own {w : World} {base : Nat} {e : TypeId} {v : Value} {l : List ArcV} (h : w.ownsRow base e 5 v l.length (l.flatMap arcCells)) (hm : l.length ≤ 2600000000000) (hs : ∀ x ∈ l, x.i.size ≤ maxLen ∧ x.o.size ≤ maxLen) : ∃ ao cap, v = .slice ao l.length cap ∧ ArcsAt w ao l.length l ∧ ∀ a, ao = some a → base ≤ a.block := by
  rcases h.2 with ⟨rfl, h0⟩ | ⟨g, cap, cur, rfl, hb, hg, _⟩
  · exact ⟨none, 0, by rw [h0], ⟨rfl, hm, fun hn => by omega, hs⟩, fun a ha => by cases ha⟩
  · refine ⟨some ⟨g, 0, none⟩, cap, rfl, ⟨rfl, hm, fun hn => ⟨g, 0, rfl, fun k x hx => ?_⟩, hs⟩, fun a ha => by injection ha with ha; subst ha; exact hb⟩
    have key : ∀ r u, (arcCells x)[r]? = some u → r < 5 → w.cell? ⟨g, 0 + k * 5 + r, none⟩ = some u := fun r u hu hr => by
      have h1 := h.cells (g := g) rfl (k * 5 + r) u (by
        rw [flat_get arcCells 5 (by omega) (fun _ => rfl)]
        have e1 : (k * 5 + r) / 5 = k := by omega
        have e2 : (k * 5 + r) % 5 = r := by omega
        rw [e1, e2, hx]
        exact hu)
      rw [plain_add] at h1
      rw [Nat.add_assoc]; exact h1
    exact ⟨key 0 _ rfl (by omega), key 1 _ rfl (by omega), key 2 _ rfl (by omega), key 3 _ rfl (by omega), key 4 _ rfl (by omega)⟩
theorem ends_of_own {w : World} {base : Nat} {e : TypeId} {v : Value} {l : List EndV} (h : w.ownsRow base e 2 v l.length (l.flatMap endCells)) (hm : l.length ≤ 9000000000000) : ∃ ao cap, v = .slice ao l.length cap ∧ EndsAt w ao l.length l ∧ ∀ a, ao = some a → base ≤ a.block := by
  rcases h.2 with ⟨rfl, h0⟩ | ⟨g, cap, cur, rfl, hb, hg, _⟩
  · exact ⟨none, 0, by rw [h0], ⟨rfl, hm, fun hn => by omega⟩, fun a ha => by cases ha⟩
  · refine ⟨some ⟨g, 0, none⟩, cap, rfl, ⟨rfl, hm, fun hn => ⟨g, 0, rfl, fun k x hx => ?_⟩⟩, fun a ha => by injection ha with ha; subst ha; exact hb⟩
    have key : ∀ r u, (endCells x)[r]? = some u → r < 2 → w.cell? ⟨g, 0 + k * 2 + r, none⟩ = some u := fun r u hu hr => by
      have h1 := h.cells (g := g) rfl (k * 2 + r) u (by
        rw [flat_get endCells 2 (by omega) (fun _ => rfl)]
        have e1 : (k * 2 + r) / 2 = k := by omega
        have e2 : (k * 2 + r) % 2 = r := by omega
        rw [e1, e2, hx]
        exact hu)
      rw [plain_add] at h1
      rw [Nat.add_assoc]; exact h1
    exact ⟨key 0 _ rfl (by omega), key 1 _ rfl (by omega)⟩
theorem row_far {w : World} {ao : Option Addr} {n B i : Nat} {l : List ByteArray} (h : Sp.Row w ao n l) (hb : 0 < n → ∀ a, ao = some a → a.block ≠ B) (v : Value) : Sp.Row (w.setCell ⟨B, i, none⟩ v) ao n l := by
  obtain ⟨h1, h2, h3, h4⟩ := h
  refine ⟨h1, h2, fun hn => ?_, h4⟩
  obtain ⟨b, off, rfl, hc⟩ := h3 hn
  have hne := hb hn _ rfl
  exact ⟨b, off, rfl, fun k hk => (World.cell?_of_block (a := ⟨b, off + k, none⟩) (Below.heap_setCell w ⟨B, i, none⟩ v b hne)).trans (hc k hk)⟩
theorem arcs_far {w : World} {ao : Option Addr} {n B i : Nat} {l : List ArcV} (h : ArcsAt w ao n l) (hb : ∀ a, ao = some a → a.block ≠ B) (v : Value) : ArcsAt (w.setCell ⟨B, i, none⟩ v) ao n l := by
  obtain ⟨h1, h2, h3, h4⟩ := h
  refine ⟨h1, h2, fun hn => ?_, h4⟩
  obtain ⟨b, off, rfl, hc⟩ := h3 hn
  have hne := hb _ rfl
  have key : ∀ o u, w.cell? ⟨b, o, none⟩ = some u → (w.setCell ⟨B, i, none⟩ v).cell? ⟨b, o, none⟩ = some u := fun o u hu => (World.cell?_of_block (a := ⟨b, o, none⟩) (Below.heap_setCell w ⟨B, i, none⟩ v b hne)).trans hu
  exact ⟨b, off, rfl, fun k x hx => by obtain ⟨a1, a2, a3, a4, a5⟩ := hc k x hx; exact ⟨key _ _ a1, key _ _ a2, key _ _ a3, key _ _ a4, key _ _ a5⟩⟩
theorem ends_far {w : World} {ao : Option Addr} {n B i : Nat} {l : List EndV} (h : EndsAt w ao n l) (hb : ∀ a, ao = some a → a.block ≠ B) (v : Value) : EndsAt (w.setCell ⟨B, i, none⟩ v) ao n l := by
  obtain ⟨h1, h2, h3⟩ := h
  refine ⟨h1, h2, fun hn => ?_⟩
  obtain ⟨b, off, rfl, hc⟩ := h3 hn
  have hne := hb _ rfl
  have key : ∀ o u, w.cell? ⟨b, o, none⟩ = some u → (w.setCell ⟨B, i, none⟩ v).cell? ⟨b, o, none⟩ = some u := fun o u hu => (World.cell?_of_block (a := ⟨b, o, none⟩) (Below.heap_setCell w ⟨B, i, none⟩ v b hne)).trans hu
  exact ⟨b, off, rfl, fun k x hx => by obtain ⟨a1, a2⟩ := hc k x hx; exact ⟨key _ _ a1, key _ _ a2⟩⟩
theorem arcInfo : (Try.prog.info? 53).map (fun i => (i.zero, i.size, i.bytes)) = some (some (.agg #[.int .i64 0, .string ⟨#[]⟩, .string ⟨#[]⟩, .int .i64 0, .int .i64 0]), 5, 56) := by kernel_rfl
theorem endInfo : (Try.prog.info? 55).map (fun i => (i.zero, i.size, i.bytes)) = some (some (.agg #[.int .i64 0, .int .i64 0]), 2, 16) := by kernel_rfl
end Nf

theorem cell?_alloc_keep (w : World) (o : Obj) {a : Addr} (v : Value) (h : w.cell? a = some v) : (w.alloc o).cell? a = some v := by
  rw [((Below.refl _ w).alloc (Nat.le_refl _) o).cell (World.block_lt_of_cell? w _ h)]; exact h

set_option maxHeartbeats 2000000 in
set_option maxRecDepth 100000 in
theorem cloneArcs_any (w : World) (ao : Option Addr) (n cap : Nat) (l : List ArcV) (h : Nf.ArcsAt w ao n l) (hb : n * 56 ≤ 140737488351232) :
    Calls Try.prog 35 #[.slice ao n cap] w (fun e w' => ∃ ao' n' cap', e = .returned (.slice ao' n' cap') ∧ Nf.ArcsAt w' ao' n' l ∧ (∀ a, ao' = some a → w.heap.size ≤ a.block) ∧ Below w.heap.size w w') := by
  obtain ⟨i0, hi, hz0, hz1, hz2⟩ := info_parts Nf.arcInfo
  obtain ⟨hl, hm, hc, hs⟩ := h
  cases ao with
  | none =>
    have h0 : n = 0 := by
      by_cases e : 0 < n
      · obtain ⟨b, off, e2, _⟩ := hc e; cases e2
      · omega
    subst h0
    have hl0 : l = [] := List.length_eq_zero_iff.1 hl
    go_enter Try.func35, Try.ntmps35
    have q0 : ∀ (w : World) (a : Option Addr) (n c n' c' : Nat), (binOp .eql 23 (.slice a n c) (.slice none n' c')).run Try.prog w = .ok (.bool a.isNone) w := fun w a n c n' c' => Lib.run_eql_slice_nil w _ _ a n c n' c' Try.underlying23
    go_wp2_with fail
    go_ret
    exact ⟨none, 0, 0, rfl, ⟨hl, hm, fun h => absurd h (by omega), hs⟩, (fun a ha => by cases ha), Below.refl _ _⟩
  | some ad =>
    have Hs := Sp.hid hs
    have hnews : ∀ j u, (l.flatMap Nf.arcCells)[j]? = some u → w.cell? (ad.add j) = some u := fun j u hj => by
      by_cases e : 0 < n
      · obtain ⟨b, off, e2, hcc⟩ := hc e
        injection e2 with e2
        subst e2
        exact Nf.arcs_news (n := n) hcc j u hj
      · have hl0 : l = [] := List.length_eq_zero_iff.1 (by omega)
        subst hl0; simp at hj
    have Hnews := Sp.hid hnews
    have hn1 : (l.flatMap Nf.arcCells).length = n * 5 := by rw [Nf.flat_len _ 5 (fun _ => rfl), hl]
    have hone : ∀ u ∈ l.flatMap Nf.arcCells, u.oneCell' = true := fun u hu => by
      obtain ⟨x, _, hx⟩ := List.mem_flatMap.1 hu
      simp [Nf.arcCells] at hx
      rcases hx with rfl | rfl | rfl | rfl | rfl <;> rfl
    have Hl := Sp.hid hl
    clear hc hs hnews
    go_enter Try.func35, Try.ntmps35
    have q0 : ∀ (w : World) (a : Option Addr) (n c n' c' : Nat), (binOp .eql 23 (.slice a n c) (.slice none n' c')).run Try.prog w = .ok (.bool a.isNone) w := fun w a n c n' c' => Lib.run_eql_slice_nil w _ _ a n c n' c' Try.underlying23
    go_wp2_with (at_builtin; refine wpList_append_own _ rfl _ _ 23 rfl w.heap.size 53 i0 (.agg #[.int .i64 0, .string ⟨#[]⟩, .string ⟨#[]⟩, .int .i64 0, .int .i64 0]) 5 56 Try.underlying23 hi hz0 hz1 hz2 rfl (by decide) _ _ _ rfl (World.ownsRow_made w #[] 0 (Nat.le_refl _) (Nat.zero_le _) rfl) ad n cap (l.flatMap Nf.arcCells) rfl hn1 (fun j u hj => (cell?_alloc_keep w _ _ (Hnews.out j u hj))) hone (by unfold maxLen; omega) (by omega) (by simp) ?_)
    intro v' w1 hown hgrow hnil
    have Hown := Sp.hid hown
    have Hgrow := Sp.hid hgrow
    clear hown hgrow hnil
    go_wp2_with fail
    go_ret
    have h1 := Hown.out
    have hl := Hl.out
    subst hl
    obtain ⟨ao', cap', rfl, ha, hab⟩ := Nf.arcs_of_own h1 hm Hs.out
    exact ⟨ao', l.length, cap', rfl, ha, hab, ((Below.refl _ w).alloc (Nat.le_refl _) _).grown Hgrow.out (by simp) (by intro k hk; simp [Value.ownBlock] at hk; omega)⟩
set_option maxHeartbeats 2000000 in
set_option maxRecDepth 100000 in
theorem cloneEnds_any (w : World) (ao : Option Addr) (n cap : Nat) (l : List EndV) (h : Nf.EndsAt w ao n l) (hb : n * 16 ≤ 140737488351232) :
    Calls Try.prog 36 #[.slice ao n cap] w (fun e w' => ∃ ao' n' cap', e = .returned (.slice ao' n' cap') ∧ Nf.EndsAt w' ao' n' l ∧ (∀ a, ao' = some a → w.heap.size ≤ a.block) ∧ Below w.heap.size w w') := by
  obtain ⟨i0, hi, hz0, hz1, hz2⟩ := info_parts Nf.endInfo
  obtain ⟨hl, hm, hc⟩ := h
  cases ao with
  | none =>
    have h0 : n = 0 := by
      by_cases e : 0 < n
      · obtain ⟨b, off, e2, _⟩ := hc e; cases e2
      · omega
    subst h0
    have hl0 : l = [] := List.length_eq_zero_iff.1 hl
    go_enter Try.func36, Try.ntmps36
    have q0 : ∀ (w : World) (a : Option Addr) (n c n' c' : Nat), (binOp .eql 24 (.slice a n c) (.slice none n' c')).run Try.prog w = .ok (.bool a.isNone) w := fun w a n c n' c' => Lib.run_eql_slice_nil w _ _ a n c n' c' Try.underlying24
    go_wp2_with fail
    go_ret
    exact ⟨none, 0, 0, rfl, ⟨hl, hm, fun h => absurd h (by omega)⟩, (fun a ha => by cases ha), Below.refl _ _⟩
  | some ad =>
    have hnews : ∀ j u, (l.flatMap Nf.endCells)[j]? = some u → w.cell? (ad.add j) = some u := fun j u hj => by
      by_cases e : 0 < n
      · obtain ⟨b, off, e2, hcc⟩ := hc e
        injection e2 with e2
        subst e2
        exact Nf.ends_news (n := n) hcc j u hj
      · have hl0 : l = [] := List.length_eq_zero_iff.1 (by omega)
        subst hl0; simp at hj
    have Hnews := Sp.hid hnews
    have hn1 : (l.flatMap Nf.endCells).length = n * 2 := by rw [Nf.flat_len _ 2 (fun _ => rfl), hl]
    have hone : ∀ u ∈ l.flatMap Nf.endCells, u.oneCell' = true := fun u hu => by
      obtain ⟨x, _, hx⟩ := List.mem_flatMap.1 hu
      simp [Nf.endCells] at hx
      rcases hx with rfl | rfl <;> rfl
    have Hl := Sp.hid hl
    clear hc hnews
    go_enter Try.func36, Try.ntmps36
    have q0 : ∀ (w : World) (a : Option Addr) (n c n' c' : Nat), (binOp .eql 24 (.slice a n c) (.slice none n' c')).run Try.prog w = .ok (.bool a.isNone) w := fun w a n c n' c' => Lib.run_eql_slice_nil w _ _ a n c n' c' Try.underlying24
    go_wp2_with (at_builtin; refine wpList_append_own _ rfl _ _ 24 rfl w.heap.size 55 i0 (.agg #[.int .i64 0, .int .i64 0]) 2 16 Try.underlying24 hi hz0 hz1 hz2 rfl (by decide) _ _ _ rfl (World.ownsRow_made w #[] 0 (Nat.le_refl _) (Nat.zero_le _) rfl) ad n cap (l.flatMap Nf.endCells) rfl hn1 (fun j u hj => (cell?_alloc_keep w _ _ (Hnews.out j u hj))) hone (by unfold maxLen; omega) (by omega) (by simp) ?_)
    intro v' w1 hown hgrow hnil
    have Hown := Sp.hid hown
    have Hgrow := Sp.hid hgrow
    clear hown hgrow hnil
    go_wp2_with fail
    go_ret
    have h1 := Hown.out
    have hl := Hl.out
    subst hl
    obtain ⟨ao', cap', rfl, ha, hab⟩ := Nf.ends_of_own h1 hm
    exact ⟨ao', l.length, cap', rfl, ha, hab, ((Below.refl _ w).alloc (Nat.le_refl _) _).grown Hgrow.out (by simp) (by intro k hk; simp [Value.ownBlock] at hk; omega)⟩

set_option maxHeartbeats 1000000 in
theorem cloneS_any (ao : Option Addr) (n cap : Nat) (l : List ByteArray) (w : World) (h : Sp.Row w ao n l) (hn : n * 16 ≤ 140737488351232) :
    Calls Try.prog 34 #[.slice ao n cap] w fun e w' => ∃ ao' n' cap', e = .returned (.slice ao' n' cap') ∧ Sp.Row w' ao' n' l ∧ (0 < n' → ∀ a, ao' = some a → w.heap.size ≤ a.block) ∧ Below w.heap.size w w' := by
  have hl := h.1
  have key : ∀ w' v, w'.ownsRow w.heap.size 9 1 v l.length (l.map Value.string) → Below w.heap.size w w' → ∃ ao' n' cap', Ending.returned v = .returned (.slice ao' n' cap') ∧ Sp.Row w' ao' n' l ∧ (0 < n' → ∀ a, ao' = some a → w.heap.size ≤ a.block) ∧ Below w.heap.size w w' := fun w' v ho hb => by
    obtain ⟨x, hv, hx1, hx2, hx3, _⟩ := Nf.clone_of_own ho h.2.2.2 (by unfold maxLen; omega) hb
    subst hv
    rw [hx1] at hx2
    exact ⟨x.ao, x.n, x.cap, rfl, hx2, fun h0 a ha => by obtain ⟨a', _, h1, _, h2⟩ := hx3 h0; rw [ha] at h1; injection h1 with h1; subst h1; exact h2, hb⟩
  by_cases h0 : n = 0
  · subst h0
    have hl0 : l = [] := List.length_eq_zero_iff.1 hl
    subst hl0
    cases ao with
    | none =>
      refine (Try.slices_Clone_string_nil 0 cap w).mono ?_
      rintro e w' ⟨rfl, rfl⟩
      exact ⟨none, 0, 0, rfl, ⟨rfl, by decide, fun h => absurd h (by decide), by simp⟩, (fun h => absurd h (by decide)), Below.refl _ _⟩
    | some ad =>
      refine (Try.slices_Clone_string_zero ad cap w).mono ?_
      rintro e w' ⟨v, rfl, hown, _, hb⟩
      exact key w' v hown hb
  · obtain ⟨b, off, rfl, hc⟩ := h.2.2.1 (by omega)
    refine (Try.slices_Clone_string b off n cap l w (by omega) (by omega) (fun j hj => hc j (by omega))).mono ?_
    rintro e w' ⟨v, rfl, hown, _, hb⟩
    rw [List.take_of_length_le (by omega), ← hl] at hown
    exact key w' v hown hb


/-- A net of the same value. -/
def Nf.CopyPost (n : Nf.Net) (w : World) (e : Ending) (w' : World) : Prop :=
  ∃ n' : Nf.Net, e = .returned n'.val ∧ Nf.NetAt w' n' ∧ n'.sig = n.sig ∧ n'.st = n.st ∧ n'.arcs = n.arcs ∧ n'.ends = n.ends ∧ Below w.heap.size w w'

set_option maxHeartbeats 2000000 in
set_option maxRecDepth 100000 in
theorem copy_any (w : World) (n : Nf.Net) (h : Nf.NetAt w n) (b1 : n.sn * 16 ≤ 140737488351232) (b2 : n.an * 56 ≤ 140737488351232) (b3 : n.en * 16 ≤ 140737488351232) :
    Calls Try.prog 13 #[n.val] w (Nf.CopyPost n w) := by
  have HN := Sp.hid h
  clear h
  obtain ⟨so, sn, scap, sig, st, ao, an, acap, arcs, eo, en, ecap, ends⟩ := n
  unfold Nf.Net.val
  simp only [Nf.Net.cells] at *
  go_enter Try.func13, Try.ntmps13
  have nB : (((w.alloc (.cells #[.slice so sn scap, .int .i64 st, .slice ao an acap, .slice eo en ecap] 26)).alloc (.cells #[.slice none 0 0, .int .i64 0, .slice none 0 0, .slice none 0 0] 26))).heap[w.heap.size]? = some (.cells #[.slice so sn scap, .int .i64 st, .slice ao an acap, .slice eo en ecap] 26 (0, 0)) := Nf.blk_alloc (Nf.Below.heap_new w _) _
  have nR : (((w.alloc (.cells #[.slice so sn scap, .int .i64 st, .slice ao an acap, .slice eo en ecap] 26)).alloc (.cells #[.slice none 0 0, .int .i64 0, .slice none 0 0, .slice none 0 0] 26))).heap[w.heap.size + 1]? = some (.cells #[.slice none 0 0, .int .i64 0, .slice none 0 0, .slice none 0 0] 26 (0, 0)) := by
    have h2 : (w.alloc (.cells #[.slice so sn scap, .int .i64 st, .slice ao an acap, .slice eo en ecap] 26)).heap.size = w.heap.size + 1 := by simp
    have h3 := Nf.Below.heap_new (w.alloc (.cells #[.slice so sn scap, .int .i64 st, .slice ao an acap, .slice eo en ecap] 26)) (.cells #[.slice none 0 0, .int .i64 0, .slice none 0 0, .slice none 0 0] 26)
    rw [h2] at h3
    exact h3
  have b01 : Below w.heap.size w ((w.alloc (.cells #[.slice so sn scap, .int .i64 st, .slice ao an acap, .slice eo en ecap] 26)).alloc (.cells #[.slice none 0 0, .int .i64 0, .slice none 0 0, .slice none 0 0] 26)) := ((Below.refl _ w).alloc (Nat.le_refl _) _).alloc (by simp) _
  have hs1 : (((w.alloc (.cells #[.slice so sn scap, .int .i64 st, .slice ao an acap, .slice eo en ecap] 26)).alloc (.cells #[.slice none 0 0, .int .i64 0, .slice none 0 0, .slice none 0 0] 26))).heap.size = w.heap.size + 2 := by simp
  go_wp2_with fail
  obtain ⟨w1, hw1⟩ : ∃ w1, ((w.alloc (.cells #[.slice so sn scap, .int .i64 st, .slice ao an acap, .slice eo en ecap] 26)).alloc (.cells #[.slice none 0 0, .int .i64 0, .slice none 0 0, .slice none 0 0] 26)) = w1 := ⟨_, rfl⟩
  rw [hw1] at nB nR b01 hs1 ⊢
  obtain ⟨B, hB⟩ : ∃ B, w.heap.size = B := ⟨_, rfl⟩
  obtain ⟨R, hR⟩ : ∃ R, B + 1 = R := ⟨_, rfl⟩
  rw [hB] at nB
  rw [hB, hR] at nR
  rw [hB] at hs1
  have hBR : B ≠ R := by omega
  have C1 := Sp.hid (cloneS_any so sn scap sig w1 (HN.out.sig.below b01) b1)
  have HB := Sp.hid hB
  have HR := Sp.hid hR
  have B01 := Sp.hid b01
  have Hs1 := Sp.hid hs1
  rw [hB]
  rw [hR]
  clear hw1 b01 hB hR hs1
  refine C1.out.mono ?_
  rintro e w2 ⟨so', sn', scap', rfl, hr2, hg2, hb2⟩
  have nB2 := Nf.blk_below nB hb2 (Nf.blk_lt nB)
  have nR2 := Nf.blk_below nR hb2 (Nf.blk_lt nR)
  have d0 : w2.cell? ⟨B, 0, none⟩ = some (.slice so sn scap) := Nf.blk_cell (i := 0) nB2 rfl
  have d2 : w2.cell? ⟨B, 2, none⟩ = some (.slice ao an acap) := Nf.blk_cell (i := 2) nB2 rfl
  have f0 := Nf.blk_free (i := 0) nB2
  have lB := Nf.blk_lt nB2
  have Hg2 := Sp.hid hg2
  have Hsz2 := Sp.hid hb2.size
  have B02 := Sp.hid (show Below w.heap.size w (w2.setCell ⟨B, 0, none⟩ (.slice so' sn' scap')) from (B01.out.trans (hb2.mono B01.out.size)).setCell (p := ⟨B, 0, none⟩) (by have := HB.out; show w.heap.size ≤ B; omega) _)
  have S2 := Sp.hid (Nf.row_far (B := B) (i := 0) hr2 (fun h0 a ha => by have := hg2 h0 a ha; have := Hs1.out; omega) (.slice so' sn' scap'))
  have nB2' := Nf.blk_set (i := 0) nB2 (.slice so' sn' scap')
  have nR2' := Nf.blk_far nR2 (a := ⟨B, 0, none⟩) hBR.symm (.slice so' sn' scap')
  have C2 := Sp.hid (cloneArcs_any _ ao an acap arcs (HN.out.arcs.below B02.out) b2)
  have hz2 : (w2.setCell ⟨B, 0, none⟩ (.slice so' sn' scap')).heap.size = w2.heap.size := by simp [World.setCell]
  clear hr2 hg2 hb2 nB nR nB2 nR2
  go_wp2_with fail
  obtain ⟨w2', hw2'⟩ : ∃ w2', w2.setCell ⟨B, 0, none⟩ (.slice so' sn' scap') = w2' := ⟨_, rfl⟩
  rw [hw2'] at B02 S2 nB2' nR2' C2 hz2 ⊢
  clear hw2' d0 d2 f0
  refine C2.out.mono ?_
  rintro e w3 ⟨ao', an', acap', rfl, ha3, hg3, hb3⟩
  have nB3 := Nf.blk_below nB2' hb3 (Nf.blk_lt nB2')
  have nR3 := Nf.blk_below nR2' hb3 (Nf.blk_lt nR2')
  have d0 : w3.cell? ⟨B, 2, none⟩ = some (.slice ao an acap) := Nf.blk_cell (i := 2) nB3 rfl
  have d2 : w3.cell? ⟨B, 3, none⟩ = some (.slice eo en ecap) := Nf.blk_cell (i := 3) nB3 rfl
  have f0 := Nf.blk_free (i := 2) nB3
  have lB3 := Nf.blk_lt nB3
  have Hg3 := Sp.hid hg3
  have Hz2 := Sp.hid hz2
  have Hsz3 := Sp.hid hb3.size
  have B03 := Sp.hid (show Below w.heap.size w (w3.setCell ⟨B, 2, none⟩ (.slice ao' an' acap')) from (B02.out.trans (hb3.mono B02.out.size)).setCell (p := ⟨B, 2, none⟩) (by have := HB.out; show w.heap.size ≤ B; omega) _)
  have S3 := Sp.hid (Nf.row_far (B := B) (i := 2) (S2.out.below hb3) (fun h0 a ha => by have := Hg2.out h0 a ha; have := Hs1.out; omega) (.slice ao' an' acap'))
  have A3 := Sp.hid (Nf.arcs_far (B := B) (i := 2) ha3 (fun a ha => by have := hg3 a ha; have := Hs1.out; have := Hsz2.out; omega) (.slice ao' an' acap'))
  have nB3' := Nf.blk_set (i := 2) nB3 (.slice ao' an' acap')
  have nR3' := Nf.blk_far nR3 (a := ⟨B, 2, none⟩) hBR.symm (.slice ao' an' acap')
  have C3 := Sp.hid (cloneEnds_any _ eo en ecap ends (HN.out.ends.below B03.out) b3)
  have hz3 : (w3.setCell ⟨B, 2, none⟩ (.slice ao' an' acap')).heap.size = w3.heap.size := by simp [World.setCell]
  clear ha3 hg3 hb3 nB2' nR2' nB3 nR3 hz2
  go_wp2_with fail
  obtain ⟨w3', hw3'⟩ : ∃ w3', w3.setCell ⟨B, 2, none⟩ (.slice ao' an' acap') = w3' := ⟨_, rfl⟩
  rw [hw3'] at B03 S3 A3 nB3' nR3' C3 hz3 ⊢
  clear hw3' d0 d2 f0
  refine C3.out.mono ?_
  rintro e w4 ⟨eo', en', ecap', rfl, he4, hg4, hb4⟩
  have nB4 := Nf.blk_below nB3' hb4 (Nf.blk_lt nB3')
  have nR4 := Nf.blk_below nR3' hb4 (Nf.blk_lt nR3')
  have c0 : w4.cell? ⟨B, 0, none⟩ = some (.slice so' sn' scap') := Nf.blk_cell (i := 0) nB4 rfl
  have c1 : w4.cell? ⟨B, 1, none⟩ = some (.int .i64 st) := Nf.blk_cell (i := 1) nB4 rfl
  have c2 : w4.cell? ⟨B, 2, none⟩ = some (.slice ao' an' acap') := Nf.blk_cell (i := 2) nB4 rfl
  have c3 : w4.cell? ⟨B, 3, none⟩ = some (.slice eo en ecap) := Nf.blk_cell (i := 3) nB4 rfl
  have f3 := Nf.blk_free (i := 3) nB4
  have r0 : w4.cell? ⟨R, 0, none⟩ = some (.slice none 0 0) := Nf.blk_cell (i := 0) nR4 rfl
  have r1 : w4.cell? ⟨R, 1, none⟩ = some (.int .i64 0) := Nf.blk_cell (i := 1) nR4 rfl
  have r2 : w4.cell? ⟨R, 2, none⟩ = some (.slice none 0 0) := Nf.blk_cell (i := 2) nR4 rfl
  have r3 : w4.cell? ⟨R, 3, none⟩ = some (.slice none 0 0) := Nf.blk_cell (i := 3) nR4 rfl
  have g0 := Nf.blk_free (i := 0) nR4
  have g1 := Nf.blk_free (i := 1) nR4
  have g2 := Nf.blk_free (i := 2) nR4
  have g3 := Nf.blk_free (i := 3) nR4
  have Hb4 := Sp.hid hb4
  have Hg4 := Sp.hid hg4
  have He4 := Sp.hid he4
  clear he4 hg4 hb4
  go_wp2_with fail
  have n0 : B ≠ R := hBR
  have nR5 := Nf.blk_set (i := 3) (Nf.blk_set (i := 2) (Nf.blk_set (i := 1) (Nf.blk_set (i := 0) (Nf.blk_far nR4 (a := ⟨B, 3, none⟩) hBR.symm (.slice eo' en' ecap')) (.slice so' sn' scap')) (.int .i64 st)) (.slice ao' an' acap')) (.slice eo' en' ecap')
  have hRge : w.heap.size ≤ R := by have := HB.out; have := HR.out; omega
  have hBge : w.heap.size ≤ B := by have := HB.out; omega
  have hR2 : B + 1 = R := HR.out
  have B05 := Sp.hid ((((((B03.out.trans (Hb4.out.mono B03.out.size)).setCell (p := ⟨B, 3, none⟩) hBge (.slice eo' en' ecap')).setCell (p := ⟨R, 0, none⟩) hRge (.slice so' sn' scap')).setCell (p := ⟨R, 1, none⟩) hRge (.int .i64 st)).setCell (p := ⟨R, 2, none⟩) hRge (.slice ao' an' acap')).setCell (p := ⟨R, 3, none⟩) hRge (.slice eo' en' ecap'))
  have fs : ∀ X, X ≤ R → 0 < sn' → ∀ a, so' = some a → a.block ≠ X := fun X hX h0 a ha => by have := Hg2.out h0 a ha; have := Hs1.out; omega
  have fa : ∀ X, X ≤ R → ∀ a, ao' = some a → a.block ≠ X := fun X hX a ha => by have := Hg3.out a ha; have := Hs1.out; have := Hsz2.out; have := Hz2.out; omega
  have fe : ∀ X, X ≤ R → ∀ a, eo' = some a → a.block ≠ X := fun X hX a ha => by have := Hg4.out a ha; have := Hs1.out; have := Hsz2.out; have := Hz2.out; have := Hsz3.out; have := hz3; omega
  have hBle : B ≤ R := by omega
  have S5 := Sp.hid (Nf.row_far (B := R) (i := 3) (Nf.row_far (B := R) (i := 2) (Nf.row_far (B := R) (i := 1) (Nf.row_far (B := R) (i := 0) (Nf.row_far (B := B) (i := 3) (S3.out.below Hb4.out) (fs B hBle) (.slice eo' en' ecap')) (fs R (Nat.le_refl _)) (.slice so' sn' scap')) (fs R (Nat.le_refl _)) (.int .i64 st)) (fs R (Nat.le_refl _)) (.slice ao' an' acap')) (fs R (Nat.le_refl _)) (.slice eo' en' ecap'))
  have A5 := Sp.hid (Nf.arcs_far (B := R) (i := 3) (Nf.arcs_far (B := R) (i := 2) (Nf.arcs_far (B := R) (i := 1) (Nf.arcs_far (B := R) (i := 0) (Nf.arcs_far (B := B) (i := 3) (A3.out.below Hb4.out) (fa B hBle) (.slice eo' en' ecap')) (fa R (Nat.le_refl _)) (.slice so' sn' scap')) (fa R (Nat.le_refl _)) (.int .i64 st)) (fa R (Nat.le_refl _)) (.slice ao' an' acap')) (fa R (Nat.le_refl _)) (.slice eo' en' ecap'))
  have E5 := Sp.hid (Nf.ends_far (B := R) (i := 3) (Nf.ends_far (B := R) (i := 2) (Nf.ends_far (B := R) (i := 1) (Nf.ends_far (B := R) (i := 0) (Nf.ends_far (B := B) (i := 3) He4.out (fe B hBle) (.slice eo' en' ecap')) (fe R (Nat.le_refl _)) (.slice so' sn' scap')) (fe R (Nat.le_refl _)) (.int .i64 st)) (fe R (Nat.le_refl _)) (.slice ao' an' acap')) (fe R (Nat.le_refl _)) (.slice eo' en' ecap'))
  obtain ⟨w5, hw5⟩ : ∃ w5, ((((w4.setCell ⟨B, 3, none⟩ (.slice eo' en' ecap')).setCell ⟨R, 0, none⟩ (.slice so' sn' scap')).setCell ⟨R, 1, none⟩ (.int .i64 st)).setCell ⟨R, 2, none⟩ (.slice ao' an' acap')).setCell ⟨R, 3, none⟩ (.slice eo' en' ecap') = w5 := ⟨_, rfl⟩
  rw [hw5] at nR5 B05 S5 A5 E5 ⊢
  have q0 : w5.cell? ⟨R, 0, none⟩ = some (.slice so' sn' scap') := Nf.blk_cell (i := 0) nR5 rfl
  have q1 : w5.cell? ⟨R, 1, none⟩ = some (.int .i64 st) := Nf.blk_cell (i := 1) nR5 rfl
  have q2 : w5.cell? ⟨R, 2, none⟩ = some (.slice ao' an' acap') := Nf.blk_cell (i := 2) nR5 rfl
  have q3 : w5.cell? ⟨R, 3, none⟩ = some (.slice eo' en' ecap') := Nf.blk_cell (i := 3) nR5 rfl
  refine bodyPost_ret (v := .agg #[.slice so' sn' scap', .int .i64 st, .slice ao' an' acap', .slice eo' en' ecap']) (by simp [results, Try.results13, go_sem, Try.underlying26, Try.isAgg26, Try.sizeOf26, q0, q1, q2, q3]) rfl ?_
  exact ⟨⟨so', sn', scap', sig, st, ao', an', acap', arcs, eo', en', ecap', ends⟩, rfl, ⟨S5.out, A5.out, E5.out, HN.out.lo, HN.out.hi⟩, rfl, rfl, rfl, rfl, B05.out⟩

end Go.Proofs.Yteggofjldgjfiaa
