/-
  The walk of AutoAgrees.
-/
import Derived.Test.YtnaojfhhjknejaaMgCkSTeNAgP
import Derived.Test.YtnaojfhhjknejaaMgCo
import Derived.Test.YtnaojfhhjknejaaMgAskMFi
import Derived.Test.YtnaojfhhjknejaaMgMapH
import Derived.Test.YtnaojfhhjknejaaMgAuZAuZaAuKnAuLa
import Derived.Test.YtnaojfhhjknejaaMgKmGKmI
import Derived.Test.YtnaojfhhjknejaaMgReSame
import Derived.IntWalk
set_option linter.unusedVariables false
set_option linter.unusedSimpArgs false
namespace Go.Proofs.Ytnaojfhhjknejaa
open Go.RowKit
namespace Nf
theorem agree_fst {g : Gr} {L X : List (List ByteArray)} {more x1 : Bool} {x2 : Int} {V : List ByteArray} (ok : Ok g) (h : (L, more, (0 : Int)) = firstSpec g 200) (h1 : (V, x1, x2) = fstOf (firstSpec g 1)) (h2 : x2 = 0) :
    x1 = bl (Live g 0) ∧ (x1 = true → L[0]? = some V) := by
  obtain ⟨⟨L1, m1, e1⟩, hp⟩ : ∃ p, firstSpec g 1 = p := ⟨_, rfl⟩
  rw [hp] at h1
  unfold fstOf at h1
  by_cases he : e1 = 0
  · subst he
    have h3 := agree_first h hp.symm
    have h4 := agree_empty ok h
    rw [if_neg (by simp)] at h1
    cases L1 with
    | nil =>
      rw [if_pos (by rfl)] at h1
      simp only [Prod.mk.injEq] at h1
      obtain ⟨rfl, rfl, _⟩ := h1
      have h5 : L = [] := by
        cases L with
        | nil => rfl
        | cons a r => simp at h3
      exact ⟨(bl_false (h4.1 h5)).symm, by simp⟩
    | cons a r =>
      rw [if_neg (by simp)] at h1
      simp only [Prod.mk.injEq] at h1
      obtain ⟨rfl, rfl, _⟩ := h1
      have h5 : L[0]? = some V := h3.symm
      refine ⟨(bl_true (Classical.byContradiction fun hn => ?_)).symm, fun _ => h5⟩
      rw [h4.2 hn] at h5
      simp at h5
  · rw [if_pos (by simpa using he)] at h1
    simp only [Prod.mk.injEq] at h1
    exact absurd (h1.2.2.symm.trans h2) he
/-- What the map of lengths holds. -/
def mf (l : List (List ByteArray)) (x : Nat) : Option Nat := if many l x = 0 then none else some (many l x)
theorem mf_get (l : List (List ByteArray)) (x : Nat) : (mf l x).getD 0 = many l x := by
  unfold mf
  by_cases h : many l x = 0
  · rw [if_pos h, h]; rfl
  · rw [if_neg h]; rfl
theorem many_snoc (l : List (List ByteArray)) (v : List ByteArray) (x : Nat) : many (l ++ [v]) x = many l x + if v.length = x then 1 else 0 := by
  unfold many
  rw [List.filter_append, List.length_append]
  by_cases h : v.length = x
  · rw [if_pos h, List.filter_cons_of_pos (by simpa using h)]; rfl
  · rw [if_neg h, List.filter_cons_of_neg (by simpa using h)]; rfl
theorem mf_snoc (l : List (List ByteArray)) (v : List ByteArray) (x : Nat) : (x = v.length → mf (l ++ [v]) x = some (many l v.length + 1)) ∧ (x ≠ v.length → mf (l ++ [v]) x = mf l x) := by
  unfold mf
  rw [many_snoc]
  constructor
  · rintro rfl
    rw [if_pos rfl, if_neg (by omega)]
  · intro h
    rw [if_neg (c := v.length = x) (fun e => h e.symm), Nat.add_zero]
theorem many_le (l : List (List ByteArray)) (x : Nat) : many l x ≤ l.length := List.length_filter_le _ _
end Nf

set_option maxHeartbeats 4000000 in
set_option maxRecDepth 100000 in
theorem autoAgrees_any (w : World) (n : Nf.Net) (h : Nf.NetAt w n) :
    Calls Try.prog 3 #[n.val] w fun e w' => e = .returned (.bool true) ∧ Below w.heap.size w w' := by
  have hb0 : Below w.heap.size w (w.alloc (.cells n.cells 26)) := (Below.refl _ w).alloc (Nat.le_refl _) _
  have hblk : (w.alloc (.cells n.cells 26)).heap[w.heap.size]? = some (.cells n.cells 26 (0, 0)) := Nf.Below.heap_new w _
  have HO := Sp.hid (isOver_any _ n (h.below hb0))
  by_cases he : Nf.errNet n = 0
  · have ok := Nf.netGr_ok h he
    have he2 : Nf.emptySpec n = (!Nf.bl (Nf.Live (Nf.netGr n) 0), 0) := by unfold Nf.emptySpec; rw [if_neg (by simpa using he)]
    have hck : Nf.errCk n [] = 0 := by unfold Nf.errCk; rw [if_neg (by simpa using he)]; rfl
    have hbeg : Nf.begSpec n [] = (Nf.bl (Nf.Live (Nf.netGr n) 0), 0) := by
      unfold Nf.begSpec
      rw [if_neg (by simpa using hck)]
      refine congrArg (·, (0 : Int)) (Nf.bl_congr ?_)
      constructor
      · rintro ⟨q, ⟨p, rfl, h1⟩, f, h2, h3⟩
        exact ⟨f, h2, (h1.mono fun a b h => ⟨_, h⟩).trans h3⟩
      · intro h1
        exact ⟨0, ⟨0, rfl, .refl 0⟩, h1⟩
    have hws : Nf.wordsSpec n 200 = Nf.firstSpec (Nf.netGr n) 200 := by unfold Nf.wordsSpec; rw [if_neg (by simpa using he), if_neg (by omega)]; rfl
    have hfs : Nf.fstSpec n = Nf.fstOf (Nf.firstSpec (Nf.netGr n) 1) := by unfold Nf.fstSpec; rw [if_neg (by simpa using he)]
    have hfi : Nf.finSpec n = (!Nf.bl (Nf.Lg (Nf.netGr n) (Nf.netGr n).N 0), 0) := by unfold Nf.finSpec; rw [if_neg (by simpa using he)]; rfl
    obtain ⟨g, hg⟩ : ∃ g, Nf.netGr n = g := ⟨_, rfl⟩
    rw [hg] at ok he2 hbeg hws hfs hfi
    obtain ⟨lv, hlv⟩ : ∃ lv, Nf.bl (Nf.Live g 0) = lv := ⟨_, rfl⟩
    obtain ⟨fin, hfin⟩ : ∃ fin, (!Nf.bl (Nf.Lg g g.N 0)) = fin := ⟨_, rfl⟩
    obtain ⟨⟨X, x1, x2⟩, hX⟩ : ∃ p, Nf.fstOf (Nf.firstSpec g 1) = p := ⟨_, rfl⟩
    have HA : Hid (∀ w2 : World, Below w.heap.size w w2 → Calls Try.prog 6 #[n.val] w2 (fun e w' => e = .returned (.tuple #[.bool (!lv), .int .i64 0]) ∧ Hid (Below w2.heap.size w2 w'))) := Sp.hid (fun w2 hb => by
      refine (empty_any w2 n (h.below hb)).mono ?_
      rintro e w' ⟨e1, h1⟩
      rw [he2, hlv] at e1
      exact ⟨e1, Sp.hid h1⟩)
    have HB : Hid (∀ w2 : World, Below w.heap.size w w2 → Calls Try.prog 7 #[n.val, .slice none 0 0] w2 (fun e w' => e = .returned (.tuple #[.bool lv, .int .i64 0]) ∧ Hid (Below w2.heap.size w2 w'))) := Sp.hid (fun w2 hb => by
      refine (begins_any w2 n none 0 0 [] (h.below hb) (Nf.row_nil w2)).mono ?_
      rintro e w' ⟨e1, h1⟩
      rw [hbeg, hlv] at e1
      exact ⟨e1, Sp.hid h1⟩)
    have HC : Hid (∀ w2 : World, Below w.heap.size w w2 → Calls Try.prog 8 #[n.val, .int .i64 200] w2 (fun e w' => ∃ (bo : Option Addr) (m cap : Nat) (els : List Lst) (more : Bool) (er : Int), e = .returned (.tuple #[.slice bo m cap, .bool more, .int .i64 er]) ∧ Hid (Sp.RowE w' bo m els ∧ Below w2.heap.size w2 w') ∧ Hid (er = 0 → (Sp.lists els, more, (0 : Int)) = Nf.firstSpec g 200))) := Sp.hid (fun w2 hb => by
      refine (words_any w2 n 200 (h.below hb) (by decide) (by decide)).mono ?_
      rintro e w' ⟨bo, m, cap, els, more, er, e1, hrow, hb2, hsp⟩
      exact ⟨bo, m, cap, els, more, er, e1, Sp.hid ⟨hrow, hb2⟩, Sp.hid (fun h0 => by rw [← hws, ← hsp, h0])⟩)
    have HD : Hid (∀ w2 : World, Below w.heap.size w w2 → Calls Try.prog 9 #[n.val] w2 (fun e w' => ∃ lo ll lcap, e = .returned (.tuple #[.slice lo ll lcap, .bool x1, .int .i64 x2]) ∧ Hid (Sp.Row w' lo ll X) ∧ Hid (Below w2.heap.size w2 w'))) := Sp.hid (fun w2 hb => by
      refine (autoFirst_any w2 n (h.below hb)).mono ?_
      rintro e w' ⟨lo, ll, lcap, e1, h0, h1⟩
      rw [hfs, hX] at e1 h0
      exact ⟨lo, ll, lcap, e1, Sp.hid h0, Sp.hid h1⟩)
    have HF : Hid (∀ w2 : World, Below w.heap.size w w2 → Calls Try.prog 11 #[n.val] w2 (fun e w' => e = .returned (.tuple #[.bool fin, .int .i64 0]) ∧ Hid (Below w2.heap.size w2 w'))) := Sp.hid (fun w2 hb => by
      refine (finite_any w2 n (h.below hb)).mono ?_
      rintro e w' ⟨e1, h1⟩
      rw [hfi, hfin] at e1
      exact ⟨e1, Sp.hid h1⟩)
    have HN : Hid (∀ (w2 : World) (k : Nat), Below w.heap.size w w2 → k ≤ 60 → Calls Try.prog 12 #[n.val, .int .i64 (k : Int)] w2 (fun e w' => ∃ (c : Nat) (er : Int), e = .returned (.tuple #[.int .i64 (c : Int), .int .i64 er]) ∧ Hid (Below w2.heap.size w2 w') ∧ Hid (er = 0 → c = Nf.cutC (Nf.W g k).length))) := Sp.hid (fun w2 k hb hk => by
      refine (autoCount_any w2 n k (h.below hb) (by omega) (by omega)).mono ?_
      rintro e w' ⟨c, er, e1, h1, h2⟩
      rw [hg, Int.toNat_natCast] at h2
      exact ⟨c, er, e1, Sp.hid h1, Sp.hid h2⟩)
    have Hem : Hid (∀ L more, (L, more, (0 : Int)) = Nf.firstSpec g 200 → (L = [] ↔ lv = false)) := Sp.hid (fun L more h0 => by
      rw [Nf.agree_empty ok h0, ← hlv]
      constructor
      · exact Nf.bl_false
      · intro h1 h2; rw [Nf.bl_true h2] at h1; cases h1)
    have Hfs : Hid (∀ L more, (L, more, (0 : Int)) = Nf.firstSpec g 200 → x2 = 0 → x1 = lv ∧ (x1 = true → L[0]? = some X)) := Sp.hid (fun L more h0 h1 => by
      have := Nf.agree_fst (X := []) ok h0 hX.symm h1
      rw [hlv] at this
      exact this)
    have Hdn : Hid (∀ L, (L, false, (0 : Int)) = Nf.firstSpec g 200 → fin = true ∧ L.length ≤ 200 ∧ (∀ v ∈ L, v.length ≤ 60) ∧ ∀ k, k ≤ 60 → Nf.cutC (Nf.W g k).length = Nf.many L k) := Sp.hid (fun L h0 => by
      obtain ⟨h1, h2, h3, h4⟩ := Nf.agree_done ok h0
      exact ⟨by rw [← hfin, Nf.bl_false h1]; rfl, h2, h3, h4⟩)
    have Hb0 := Sp.hid hb0
    have Hblk := Sp.hid hblk
    obtain ⟨tel, htel⟩ : ∃ tel : List (List ByteArray) → Bool → Prop, tel = fun L more => (L, more, (0 : Int)) = Nf.firstSpec g 200 := ⟨_, rfl⟩
    have htel2 : ∀ L more, ((L, more, (0 : Int)) = Nf.firstSpec g 200) = tel L more := fun L more => by rw [htel]
    simp only [htel2] at HC Hem Hfs Hdn
    obtain ⟨cnt, hcnt⟩ : ∃ cnt : Nat → Nat, cnt = fun k => Nf.cutC (Nf.W g k).length := ⟨_, rfl⟩
    have hcnt2 : ∀ k, Nf.cutC (Nf.W g k).length = cnt k := fun k => by rw [hcnt]
    simp only [hcnt2] at HN Hdn
    clear h hb0 hblk he ok he2 hck hbeg hws hfs hfi hg hlv hfin hX htel htel2 hcnt hcnt2
    obtain ⟨so, sn, scap, sig, st, ao, an, acap, arcs, eo, en, ecap, ends⟩ := n
    unfold Nf.Net.val at *
    simp only [Nf.Net.cells] at *
    have hmm := @run_makeMap Try.prog
    go_enter Try.func3, Try.ntmps3
    go_wp2_with fail
    refine HO.out.mono ?_
    rintro e w2 ⟨over, rfl, hb2⟩
    have hblk2 := Nf.blk_below Hblk.out hb2 (by simp)
    have d0 : w2.cell? ⟨w.heap.size, 0, none⟩ = some (.slice so sn scap) := Nf.blk_cell (i := 0) hblk2 rfl
    have d1 : w2.cell? ⟨w.heap.size, 1, none⟩ = some (.int .i64 st) := Nf.blk_cell (i := 1) hblk2 rfl
    have d2 : w2.cell? ⟨w.heap.size, 2, none⟩ = some (.slice ao an acap) := Nf.blk_cell (i := 2) hblk2 rfl
    have d3 : w2.cell? ⟨w.heap.size, 3, none⟩ = some (.slice eo en ecap) := Nf.blk_cell (i := 3) hblk2 rfl
    have Hb2 := Sp.hid (Hb0.out.trans (hb2.mono Hb0.out.size))
    have Hblk2 := Sp.hid hblk2
    clear hb2 hblk2
    cases over with
    | true =>
      go_wp2_with fail
      refine (known_any w2).mono ?_
      rintro e wk ⟨rfl, hbk⟩
      have Hbk := Sp.hid (Hb2.out.trans (hbk.mono Hb2.out.size))
      clear hbk
      go_wp2_with fail
      go_ret
      exact ⟨rfl, Hbk.out⟩
    | false =>
      go_wp2_with fail
      refine (HA.out w2 Hb2.out).mono ?_
      rintro e w3 ⟨rfl, Hx⟩
      have hblkx := Nf.blk_below Hblk2.out Hx.out (Nf.blk_lt Hblk2.out)
      have HB3 := Sp.hid (Hb2.out.trans (Hx.out.mono Hb2.out.size))
      have Hblk3 := Sp.hid hblkx
      clear d0 d1 d2 d3
      have d0 : w3.cell? ⟨w.heap.size, 0, none⟩ = some (.slice so sn scap) := Nf.blk_cell (i := 0) hblkx rfl
      have d1 : w3.cell? ⟨w.heap.size, 1, none⟩ = some (.int .i64 st) := Nf.blk_cell (i := 1) hblkx rfl
      have d2 : w3.cell? ⟨w.heap.size, 2, none⟩ = some (.slice ao an acap) := Nf.blk_cell (i := 2) hblkx rfl
      have d3 : w3.cell? ⟨w.heap.size, 3, none⟩ = some (.slice eo en ecap) := Nf.blk_cell (i := 3) hblkx rfl
      clear Hx hblkx
      go_wp2_with fail
      refine (HB.out w3 HB3.out).mono ?_
      rintro e w4 ⟨rfl, Hx⟩
      have hblkx := Nf.blk_below Hblk3.out Hx.out (Nf.blk_lt Hblk3.out)
      have HB4 := Sp.hid (HB3.out.trans (Hx.out.mono HB3.out.size))
      have Hblk4 := Sp.hid hblkx
      clear d0 d1 d2 d3
      have d0 : w4.cell? ⟨w.heap.size, 0, none⟩ = some (.slice so sn scap) := Nf.blk_cell (i := 0) hblkx rfl
      have d1 : w4.cell? ⟨w.heap.size, 1, none⟩ = some (.int .i64 st) := Nf.blk_cell (i := 1) hblkx rfl
      have d2 : w4.cell? ⟨w.heap.size, 2, none⟩ = some (.slice ao an acap) := Nf.blk_cell (i := 2) hblkx rfl
      have d3 : w4.cell? ⟨w.heap.size, 3, none⟩ = some (.slice eo en ecap) := Nf.blk_cell (i := 3) hblkx rfl
      clear Hx hblkx
      go_wp2_with fail
      refine (HC.out w4 HB4.out).mono ?_
      rintro e w5 ⟨bo, m, cap, els, more, er, rfl, Hrow, Htl⟩
      have hblkx := Nf.blk_below Hblk4.out Hrow.out.2 (Nf.blk_lt Hblk4.out)
      have HB5 := Sp.hid (HB4.out.trans (Hrow.out.2.mono HB4.out.size))
      have Hblk5 := Sp.hid hblkx
      have Hrw := Sp.hid Hrow.out.1
      clear d0 d1 d2 d3 Hrow
      have d0 : w5.cell? ⟨w.heap.size, 0, none⟩ = some (.slice so sn scap) := Nf.blk_cell (i := 0) hblkx rfl
      have d1 : w5.cell? ⟨w.heap.size, 1, none⟩ = some (.int .i64 st) := Nf.blk_cell (i := 1) hblkx rfl
      have d2 : w5.cell? ⟨w.heap.size, 2, none⟩ = some (.slice ao an acap) := Nf.blk_cell (i := 2) hblkx rfl
      have d3 : w5.cell? ⟨w.heap.size, 3, none⟩ = some (.slice eo en ecap) := Nf.blk_cell (i := 3) hblkx rfl
      clear hblkx
      have tb1 : (lv == !lv) = false := by cases lv <;> rfl
      by_cases h0 : er = 0
      · subst h0
        have Htl2 := Sp.hid (Htl.out rfl)
        have hm : els.length = m := Hrw.out.1
        have hll : (Sp.lists els).length = m := by unfold Sp.lists; rw [List.length_map]; exact hm
        have tb2 : (!(((m : Int) == 0) == (!lv))) = false := by
          have h1 := Hem.out _ _ Htl2.out
          cases lv with
          | true =>
            have h2 : m ≠ 0 := fun e => by
              rw [e] at hll
              have := h1.1 (List.length_eq_zero_iff.1 hll)
              cases this
            have h3 : ((m : Int) == 0) = false := by simpa using h2
            rw [h3]; rfl
          | false =>
            have h2 := h1.2 rfl
            rw [h2] at hll
            have h3 : m = 0 := hll.symm
            subst h3; rfl
        have Hll := Sp.hid hll
        have Hm := Sp.hid hm
        have hmle : m ≤ 9223372036854775807 := by have := Hrw.out.2.1; unfold maxLen at this; exact this
        clear hll hm Htl
        go_wp2_with fail
        refine (HD.out w5 HB5.out).mono ?_
        rintro e w6 ⟨lo, ll, lcap, rfl, HRX, Hx⟩
        have hblkx := Nf.blk_below Hblk5.out Hx.out (Nf.blk_lt Hblk5.out)
        have HB6 := Sp.hid (HB5.out.trans (Hx.out.mono HB5.out.size))
        have Hblk6 := Sp.hid hblkx
        have Hrw6 := Sp.hid (Hrw.out.below Hx.out)
        clear d0 d1 d2 d3 Hrw
        have d0 : w6.cell? ⟨w.heap.size, 0, none⟩ = some (.slice so sn scap) := Nf.blk_cell (i := 0) hblkx rfl
        have d1 : w6.cell? ⟨w.heap.size, 1, none⟩ = some (.int .i64 st) := Nf.blk_cell (i := 1) hblkx rfl
        have d2 : w6.cell? ⟨w.heap.size, 2, none⟩ = some (.slice ao an acap) := Nf.blk_cell (i := 2) hblkx rfl
        have d3 : w6.cell? ⟨w.heap.size, 3, none⟩ = some (.slice eo en ecap) := Nf.blk_cell (i := 3) hblkx rfl
        clear Hx hblkx
        -- the first word: three ways that lead to the same place
        have Hmid : Hid (x2 ≠ 0 ∨ (x2 = 0 ∧ x1 = false ∧ lv = false) ∨ (x2 = 0 ∧ x1 = true ∧ lv = true ∧ 0 < m ∧ ∃ x : Lst, els[0]? = some x ∧ x.l = X)) := Sp.hid (by
          by_cases c2 : x2 = 0
          · right
            obtain ⟨h1, h2⟩ := Hfs.out _ _ Htl2.out c2
            cases hx1 : x1 with
            | false => left; exact ⟨c2, rfl, by rw [← h1]; exact hx1⟩
            | true =>
              right
              have h3 := h2 hx1
              unfold Sp.lists at h3
              rw [List.getElem?_map] at h3
              cases hel : els[0]? with
              | none => rw [hel] at h3; simp at h3
              | some x =>
                rw [hel] at h3
                simp at h3
                have := (List.getElem?_eq_some_iff.1 hel).1
                exact ⟨c2, rfl, by rw [← h1]; exact hx1, by rw [Hm.out] at this; exact this, x, rfl, h3⟩
          · left; exact c2)
        cases more with
        | true =>
          rcases Hmid.out with c2 | ⟨c2, rfl, hlvf⟩ | ⟨c2, rfl, hlvt, hm0, x, hx0, hxX⟩
          · have c2' : (x2 == 0) = false := by simpa using c2
            clear Hmid c2
            go_wp2_with fail
            refine (known_any w6).mono ?_
            rintro e wk ⟨rfl, hbk⟩
            have Hbk := Sp.hid (HB6.out.trans (hbk.mono HB6.out.size))
            clear hbk
            go_wp2_with fail
            go_ret
            exact ⟨rfl, Hbk.out⟩
          · subst c2 hlvf
            clear Hmid
            go_wp2_with fail
            refine (known_any w6).mono ?_
            rintro e wk ⟨rfl, hbk⟩
            have Hbk := Sp.hid (HB6.out.trans (hbk.mono HB6.out.size))
            clear hbk
            go_wp2_with fail
            go_ret
            exact ⟨rfl, Hbk.out⟩
          · subst c2 hlvt
            obtain ⟨b, off, y, rfl, cy0, hry, hy?, _⟩ := Hrw6.out.at (k := 0) hm0
            rw [hx0] at hy?
            cases hy?
            have cy : w6.cell? ⟨b, off, none⟩ = some (.slice x.ao x.n x.cap) := by simpa using cy0
            have HSm : Hid (Calls Try.prog 10 #[.slice lo ll lcap, .slice x.ao x.n x.cap] w6 (fun e w' => e = .returned (.bool true) ∧ Hid (Below w6.heap.size w6 w'))) := Sp.hid (by
              have hry2 := hry
              rw [hxX] at hry2
              refine (refSame_any lo x.ao ll x.n lcap x.cap X X w6 HRX.out hry2).mono ?_
              rintro e w' ⟨rfl, q, rfl⟩
              exact ⟨by rw [Sp.ord_self]; rfl, Sp.hid (Sp.below_of_drew ⟨q, rfl⟩)⟩)
            have i1 : (0 : Int) < (m : Int) := by omega
            clear Hmid cy0 hry hx0 hxX
            go_wp2_with fail
            refine HSm.out.mono ?_
            rintro e w7 ⟨rfl, Hx⟩
            have HB7 := Sp.hid (HB6.out.trans (Hx.out.mono HB6.out.size))
            clear d0 d1 d2 d3 cy Hx
            go_wp2_with fail
            refine (known_any w7).mono ?_
            rintro e wk ⟨rfl, hbk⟩
            have Hbk := Sp.hid (HB7.out.trans (hbk.mono HB7.out.size))
            clear hbk
            go_wp2_with fail
            go_ret
            exact ⟨rfl, Hbk.out⟩
        | false =>
          obtain ⟨hfn, hl200, hl60, hcn⟩ := Hdn.out _ Htl2.out
          rw [Hll.out] at hl200
          have Hcn := Sp.hid hcn
          have Hl60 := Sp.hid hl60
          subst hfn
          clear hcn hl60
          rcases Hmid.out with c2 | ⟨c2, rfl, hlvf⟩ | ⟨c2, rfl, hlvt, hm0, x, hx0, hxX⟩
          · have c2' : (x2 == 0) = false := by simpa using c2
            clear Hmid c2
            go_wp2_with fail
            obtain ⟨w7, hw7⟩ : ∃ w7, w7 = w6 := ⟨_, rfl⟩
            have HB7 : Hid (Below w.heap.size w w7) := Sp.hid (by rw [hw7]; exact HB6.out)
            have Hblk7 : Hid (w7.heap[w.heap.size]? = some (.cells #[.slice so sn scap, .int .i64 st, .slice ao an acap, .slice eo en ecap] 26 (0, 0))) := Sp.hid (by rw [hw7]; exact Hblk6.out)
            have Hrw7 : Hid (Sp.RowE w7 bo m els) := Sp.hid (by rw [hw7]; exact Hrw6.out)
            rw [← hw7]
            clear d0 d1 d2 d3 hw7 HB6 Hblk6 Hrw6 HRX
            refine (HF.out w7 HB7.out).mono ?_
            rintro e w8 ⟨rfl, Hx⟩
            have HB8 := Sp.hid (HB7.out.trans (Hx.out.mono HB7.out.size))
            have Hblk8 := Sp.hid (Nf.blk_below Hblk7.out Hx.out (Nf.blk_lt Hblk7.out))
            have Hrw8 := Sp.hid (Hrw7.out.below Hx.out)
            have hz8 := HB8.out.size
            clear Hx HB7 Hblk7 Hrw7
            have Hmp0 : Hid (Nf.KMap 3 Nf.numV Nf.numDom (w8.alloc (.map #[] 0)) w8.heap.size 0 (Nf.mf ((Sp.lists els).take 0))) := Sp.hid (by
              have e0 : Nf.mf ((Sp.lists els).take 0) = fun _ => none := by
                funext x
                rw [List.take_zero]
                rfl
              rw [e0]
              exact Nf.KMap.new w8)
            have Hb00 : Hid (Below w8.heap.size w8 (w8.alloc (.map #[] 0))) := Sp.hid ((Below.refl _ w8).alloc (Nat.le_refl _) _)
            go_wp2_with fail
            go_loopw [16] (fun i wr => ∃ k : Nat, i = .int .i64 k ∧ k ≤ m ∧ Hid (Nf.KMap 3 Nf.numV Nf.numDom wr w8.heap.size k (Nf.mf ((Sp.lists els).take k))) ∧ Hid (Below w8.heap.size w8 wr)) (fun i _ => m - (intOf i).toNat)
            case atStart => exact ⟨0, rfl, Nat.zero_le _, Hmp0, Hb00⟩
            case round =>
              clear Hmp0 Hb00
              obtain ⟨k, rfl, hk, Hmp, Hbr⟩ := hrel
              by_cases hkm : k < m
              · obtain ⟨b, off, x, hbo2, cx, hrx, hx?, htk⟩ := (Hrw8.out.below Hbr.out).at hkm
                have hlen : x.l.length = x.n := hrx.1
                have h60 : x.n ≤ 60 := by
                  have := Hl60.out x.l (List.mem_of_getElem? (by unfold Sp.lists; rw [List.getElem?_map, hx?]; rfl))
                  omega
                have Htk2 : Hid ((Sp.lists els).take (k + 1) = (Sp.lists els).take k ++ [x.l]) := Sp.hid (by
                  unfold Sp.lists
                  rw [← List.map_take, htk, List.map_append, List.map_take]; rfl)
                have hl := Hmp.out.run_get0 Nf.intK Try.underlying39 (y := x.n) (show x.n ≤ 1000000000 by omega)
                have hsn := fun z => Nf.mf_snoc ((Sp.lists els).take k) x.l z
                rw [Nf.mf_get] at hl
                rw [← Htk2.out, hlen] at hsn
                have hmk : Nf.many ((Sp.lists els).take k) x.n ≤ 200 := by
                  have h1 := Nf.many_le ((Sp.lists els).take k) x.n
                  rw [List.length_take] at h1
                  omega
                obtain ⟨c, hc⟩ : ∃ c, Nf.many ((Sp.lists els).take k) x.n = c := ⟨_, rfl⟩
                rw [hc] at hl hmk hsn
                obtain ⟨xn, hxn⟩ : ∃ xn, x.n = xn := ⟨_, rfl⟩
                rw [hxn] at hl h60 hsn cx
                unfold Nf.numV at hl
                have Hsn := Sp.hid hsn
                have i1 : (0 : Int) ≤ (k : Int) := by omega
                have i2 : (k : Int) < (m : Int) := by omega
                clear hrx hx? htk hlen hc hxn hsn
                subst hbo2
                go_wp2_with (first
                  | (at_mapUpdate; refine Nf.kmap_put Nf.intK rfl _ _ _ 39 rfl Try.underlying39 Hmp.out xn (show xn ≤ 1000000000 by omega) (c + 1) (by omega) (by omega) (Nf.mf ((Sp.lists els).take (k + 1))) (fun z _ => Hsn.out z) rfl rfl rfl ?_; intro w9 hm9 hg9)
                  | fail)
                have Hmp9 := Sp.hid hm9
                have Hb9 : Hid (Below w8.heap.size w8 w9) := Sp.hid (Hbr.out.grown hg9 Hbr.out.size (fun kk hk => by cases hk; exact Nat.le_refl _))
                clear hm9 hg9 hl
                go_wp2_with fail
                go_roundw
                case rel => exact ⟨k + 1, by go_num, hkm, Hmp9, Hb9⟩
                case measure => simp [intOf]; omega
              · have hke : k = m := by omega
                subst hke
                have hfull : (Sp.lists els).take k = Sp.lists els := by rw [← Hll.out, List.take_length]
                have Hmp1 : Hid (Nf.KMap 3 Nf.numV Nf.numDom wr w8.heap.size k (Nf.mf (Sp.lists els))) := Sp.hid (by rw [← hfull]; exact Hmp.out)
                clear hfull Hmp
                go_wp2_with fail
                obtain ⟨w9, hw9⟩ : ∃ w9 : World, w9 = wr := ⟨_, rfl⟩
                subst hw9
                go_loopw [17] (fun i wr => ∃ j : Nat, i = .int .i64 j ∧ j ≤ 61 ∧ Hid (Nf.KMap 3 Nf.numV Nf.numDom wr w8.heap.size k (Nf.mf (Sp.lists els))) ∧ Hid (Below w8.heap.size w8 wr)) (fun i _ => 61 - (intOf i).toNat)
                case atStart => exact ⟨0, rfl, Nat.zero_le _, Hmp1, Hbr⟩
                case round =>
                  clear Hmp1 Hbr
                  obtain ⟨j, rfl, hj, Hmp, Hbr⟩ := hrel
                  have hblkr := Nf.blk_below Hblk8.out Hbr.out (Nf.blk_lt Hblk8.out)
                  have Hbw := Sp.hid (HB8.out.trans (Hbr.out.mono HB8.out.size))
                  by_cases hj60 : j ≤ 60
                  · have d0 : wr.cell? ⟨w.heap.size, 0, none⟩ = some (.slice so sn scap) := Nf.blk_cell (i := 0) hblkr rfl
                    have d1 : wr.cell? ⟨w.heap.size, 1, none⟩ = some (.int .i64 st) := Nf.blk_cell (i := 1) hblkr rfl
                    have d2 : wr.cell? ⟨w.heap.size, 2, none⟩ = some (.slice ao an acap) := Nf.blk_cell (i := 2) hblkr rfl
                    have d3 : wr.cell? ⟨w.heap.size, 3, none⟩ = some (.slice eo en ecap) := Nf.blk_cell (i := 3) hblkr rfl
                    have i1 : (j : Int) ≤ 60 := by omega
                    clear hblkr
                    go_wp2_with fail
                    refine (HN.out wr j Hbw.out hj60).mono ?_
                    rintro e w10 ⟨c, er, rfl, Hx, Hc⟩
                    have Hmp10 := Sp.hid (Hmp.out.below Hx.out)
                    have Hb10 : Hid (Below w8.heap.size w8 w10) := Sp.hid (Hbr.out.trans (Hx.out.mono Hbr.out.size))
                    clear d0 d1 d2 d3 Hx
                    by_cases h0 : er = 0
                    · subst h0
                      have hcm : c = Nf.many (Sp.lists els) j := (Hc.out rfl).trans (Hcn.out j hj60)
                      have hl := Hmp10.out.run_get0 Nf.intK Try.underlying39 (y := j) (show j ≤ 1000000000 by omega)
                      rw [Nf.mf_get, ← hcm] at hl
                      unfold Nf.numV at hl
                      have tc : (!((c : Int) == (c : Int))) = false := by simp
                      clear Hc hcm
                      go_wp2_with fail
                      go_roundw
                      case rel => exact ⟨j + 1, by go_num, by omega, Hmp10, Hb10⟩
                      case measure => simp [intOf]; omega
                    · have h0' : (er == 0) = false := by simpa using h0
                      clear Hc h0
                      go_wp2_with fail
                      go_roundw
                      case rel => exact ⟨j + 1, by go_num, by omega, Hmp10, Hb10⟩
                      case measure => simp [intOf]; omega
                  · have hj61 : j = 61 := by omega
                    subst hj61
                    clear hblkr hj60
                    go_wp2_with fail
                    refine (known_any wr).mono ?_
                    rintro e wk ⟨rfl, hbk⟩
                    have Hbk := Sp.hid (Hbw.out.trans (hbk.mono Hbw.out.size))
                    clear hbk
                    go_wp2_with fail
                    go_ret
                    exact ⟨rfl, Hbk.out⟩
          · subst c2 hlvf
            clear Hmid
            go_wp2_with fail
            obtain ⟨w7, hw7⟩ : ∃ w7, w7 = w6 := ⟨_, rfl⟩
            have HB7 : Hid (Below w.heap.size w w7) := Sp.hid (by rw [hw7]; exact HB6.out)
            have Hblk7 : Hid (w7.heap[w.heap.size]? = some (.cells #[.slice so sn scap, .int .i64 st, .slice ao an acap, .slice eo en ecap] 26 (0, 0))) := Sp.hid (by rw [hw7]; exact Hblk6.out)
            have Hrw7 : Hid (Sp.RowE w7 bo m els) := Sp.hid (by rw [hw7]; exact Hrw6.out)
            rw [← hw7]
            clear d0 d1 d2 d3 hw7 HB6 Hblk6 Hrw6 HRX
            refine (HF.out w7 HB7.out).mono ?_
            rintro e w8 ⟨rfl, Hx⟩
            have HB8 := Sp.hid (HB7.out.trans (Hx.out.mono HB7.out.size))
            have Hblk8 := Sp.hid (Nf.blk_below Hblk7.out Hx.out (Nf.blk_lt Hblk7.out))
            have Hrw8 := Sp.hid (Hrw7.out.below Hx.out)
            have hz8 := HB8.out.size
            clear Hx HB7 Hblk7 Hrw7
            have Hmp0 : Hid (Nf.KMap 3 Nf.numV Nf.numDom (w8.alloc (.map #[] 0)) w8.heap.size 0 (Nf.mf ((Sp.lists els).take 0))) := Sp.hid (by
              have e0 : Nf.mf ((Sp.lists els).take 0) = fun _ => none := by
                funext x
                rw [List.take_zero]
                rfl
              rw [e0]
              exact Nf.KMap.new w8)
            have Hb00 : Hid (Below w8.heap.size w8 (w8.alloc (.map #[] 0))) := Sp.hid ((Below.refl _ w8).alloc (Nat.le_refl _) _)
            go_wp2_with fail
            go_loopw [16] (fun i wr => ∃ k : Nat, i = .int .i64 k ∧ k ≤ m ∧ Hid (Nf.KMap 3 Nf.numV Nf.numDom wr w8.heap.size k (Nf.mf ((Sp.lists els).take k))) ∧ Hid (Below w8.heap.size w8 wr)) (fun i _ => m - (intOf i).toNat)
            case atStart => exact ⟨0, rfl, Nat.zero_le _, Hmp0, Hb00⟩
            case round =>
              clear Hmp0 Hb00
              obtain ⟨k, rfl, hk, Hmp, Hbr⟩ := hrel
              by_cases hkm : k < m
              · obtain ⟨b, off, x, hbo2, cx, hrx, hx?, htk⟩ := (Hrw8.out.below Hbr.out).at hkm
                have hlen : x.l.length = x.n := hrx.1
                have h60 : x.n ≤ 60 := by
                  have := Hl60.out x.l (List.mem_of_getElem? (by unfold Sp.lists; rw [List.getElem?_map, hx?]; rfl))
                  omega
                have Htk2 : Hid ((Sp.lists els).take (k + 1) = (Sp.lists els).take k ++ [x.l]) := Sp.hid (by
                  unfold Sp.lists
                  rw [← List.map_take, htk, List.map_append, List.map_take]; rfl)
                have hl := Hmp.out.run_get0 Nf.intK Try.underlying39 (y := x.n) (show x.n ≤ 1000000000 by omega)
                have hsn := fun z => Nf.mf_snoc ((Sp.lists els).take k) x.l z
                rw [Nf.mf_get] at hl
                rw [← Htk2.out, hlen] at hsn
                have hmk : Nf.many ((Sp.lists els).take k) x.n ≤ 200 := by
                  have h1 := Nf.many_le ((Sp.lists els).take k) x.n
                  rw [List.length_take] at h1
                  omega
                obtain ⟨c, hc⟩ : ∃ c, Nf.many ((Sp.lists els).take k) x.n = c := ⟨_, rfl⟩
                rw [hc] at hl hmk hsn
                obtain ⟨xn, hxn⟩ : ∃ xn, x.n = xn := ⟨_, rfl⟩
                rw [hxn] at hl h60 hsn cx
                unfold Nf.numV at hl
                have Hsn := Sp.hid hsn
                have i1 : (0 : Int) ≤ (k : Int) := by omega
                have i2 : (k : Int) < (m : Int) := by omega
                clear hrx hx? htk hlen hc hxn hsn
                subst hbo2
                go_wp2_with (first
                  | (at_mapUpdate; refine Nf.kmap_put Nf.intK rfl _ _ _ 39 rfl Try.underlying39 Hmp.out xn (show xn ≤ 1000000000 by omega) (c + 1) (by omega) (by omega) (Nf.mf ((Sp.lists els).take (k + 1))) (fun z _ => Hsn.out z) rfl rfl rfl ?_; intro w9 hm9 hg9)
                  | fail)
                have Hmp9 := Sp.hid hm9
                have Hb9 : Hid (Below w8.heap.size w8 w9) := Sp.hid (Hbr.out.grown hg9 Hbr.out.size (fun kk hk => by cases hk; exact Nat.le_refl _))
                clear hm9 hg9 hl
                go_wp2_with fail
                go_roundw
                case rel => exact ⟨k + 1, by go_num, hkm, Hmp9, Hb9⟩
                case measure => simp [intOf]; omega
              · have hke : k = m := by omega
                subst hke
                have hfull : (Sp.lists els).take k = Sp.lists els := by rw [← Hll.out, List.take_length]
                have Hmp1 : Hid (Nf.KMap 3 Nf.numV Nf.numDom wr w8.heap.size k (Nf.mf (Sp.lists els))) := Sp.hid (by rw [← hfull]; exact Hmp.out)
                clear hfull Hmp
                go_wp2_with fail
                obtain ⟨w9, hw9⟩ : ∃ w9 : World, w9 = wr := ⟨_, rfl⟩
                subst hw9
                go_loopw [17] (fun i wr => ∃ j : Nat, i = .int .i64 j ∧ j ≤ 61 ∧ Hid (Nf.KMap 3 Nf.numV Nf.numDom wr w8.heap.size k (Nf.mf (Sp.lists els))) ∧ Hid (Below w8.heap.size w8 wr)) (fun i _ => 61 - (intOf i).toNat)
                case atStart => exact ⟨0, rfl, Nat.zero_le _, Hmp1, Hbr⟩
                case round =>
                  clear Hmp1 Hbr
                  obtain ⟨j, rfl, hj, Hmp, Hbr⟩ := hrel
                  have hblkr := Nf.blk_below Hblk8.out Hbr.out (Nf.blk_lt Hblk8.out)
                  have Hbw := Sp.hid (HB8.out.trans (Hbr.out.mono HB8.out.size))
                  by_cases hj60 : j ≤ 60
                  · have d0 : wr.cell? ⟨w.heap.size, 0, none⟩ = some (.slice so sn scap) := Nf.blk_cell (i := 0) hblkr rfl
                    have d1 : wr.cell? ⟨w.heap.size, 1, none⟩ = some (.int .i64 st) := Nf.blk_cell (i := 1) hblkr rfl
                    have d2 : wr.cell? ⟨w.heap.size, 2, none⟩ = some (.slice ao an acap) := Nf.blk_cell (i := 2) hblkr rfl
                    have d3 : wr.cell? ⟨w.heap.size, 3, none⟩ = some (.slice eo en ecap) := Nf.blk_cell (i := 3) hblkr rfl
                    have i1 : (j : Int) ≤ 60 := by omega
                    clear hblkr
                    go_wp2_with fail
                    refine (HN.out wr j Hbw.out hj60).mono ?_
                    rintro e w10 ⟨c, er, rfl, Hx, Hc⟩
                    have Hmp10 := Sp.hid (Hmp.out.below Hx.out)
                    have Hb10 : Hid (Below w8.heap.size w8 w10) := Sp.hid (Hbr.out.trans (Hx.out.mono Hbr.out.size))
                    clear d0 d1 d2 d3 Hx
                    by_cases h0 : er = 0
                    · subst h0
                      have hcm : c = Nf.many (Sp.lists els) j := (Hc.out rfl).trans (Hcn.out j hj60)
                      have hl := Hmp10.out.run_get0 Nf.intK Try.underlying39 (y := j) (show j ≤ 1000000000 by omega)
                      rw [Nf.mf_get, ← hcm] at hl
                      unfold Nf.numV at hl
                      have tc : (!((c : Int) == (c : Int))) = false := by simp
                      clear Hc hcm
                      go_wp2_with fail
                      go_roundw
                      case rel => exact ⟨j + 1, by go_num, by omega, Hmp10, Hb10⟩
                      case measure => simp [intOf]; omega
                    · have h0' : (er == 0) = false := by simpa using h0
                      clear Hc h0
                      go_wp2_with fail
                      go_roundw
                      case rel => exact ⟨j + 1, by go_num, by omega, Hmp10, Hb10⟩
                      case measure => simp [intOf]; omega
                  · have hj61 : j = 61 := by omega
                    subst hj61
                    clear hblkr hj60
                    go_wp2_with fail
                    refine (known_any wr).mono ?_
                    rintro e wk ⟨rfl, hbk⟩
                    have Hbk := Sp.hid (Hbw.out.trans (hbk.mono Hbw.out.size))
                    clear hbk
                    go_wp2_with fail
                    go_ret
                    exact ⟨rfl, Hbk.out⟩
          · subst c2 hlvt
            obtain ⟨b, off, y, rfl, cy0, hry, hy?, _⟩ := Hrw6.out.at (k := 0) hm0
            rw [hx0] at hy?
            cases hy?
            have cy : w6.cell? ⟨b, off, none⟩ = some (.slice x.ao x.n x.cap) := by simpa using cy0
            have HSm : Hid (Calls Try.prog 10 #[.slice lo ll lcap, .slice x.ao x.n x.cap] w6 (fun e w' => e = .returned (.bool true) ∧ Hid (Below w6.heap.size w6 w'))) := Sp.hid (by
              have hry2 := hry
              rw [hxX] at hry2
              refine (refSame_any lo x.ao ll x.n lcap x.cap X X w6 HRX.out hry2).mono ?_
              rintro e w' ⟨rfl, q, rfl⟩
              exact ⟨by rw [Sp.ord_self]; rfl, Sp.hid (Sp.below_of_drew ⟨q, rfl⟩)⟩)
            have i1 : (0 : Int) < (m : Int) := by omega
            obtain ⟨bo, hbo⟩ : ∃ bo : Option Addr, bo = some ⟨b, off, none⟩ := ⟨_, rfl⟩
            clear Hmid cy0 hry hx0 hxX
            go_wp2_with fail
            refine HSm.out.mono ?_
            rintro e w7 ⟨rfl, Hx⟩
            have HB7 := Sp.hid (HB6.out.trans (Hx.out.mono HB6.out.size))
            have Hblk7 := Sp.hid (Nf.blk_below Hblk6.out Hx.out (Nf.blk_lt Hblk6.out))
            have Hrw7 : Hid (Sp.RowE w7 bo m els) := Sp.hid (by rw [hbo]; exact Hrw6.out.below Hx.out)
            clear d0 d1 d2 d3 cy Hx i1
            have d0 : w7.cell? ⟨w.heap.size, 0, none⟩ = some (.slice so sn scap) := Nf.blk_cell (i := 0) Hblk7.out rfl
            have d1 : w7.cell? ⟨w.heap.size, 1, none⟩ = some (.int .i64 st) := Nf.blk_cell (i := 1) Hblk7.out rfl
            have d2 : w7.cell? ⟨w.heap.size, 2, none⟩ = some (.slice ao an acap) := Nf.blk_cell (i := 2) Hblk7.out rfl
            have d3 : w7.cell? ⟨w.heap.size, 3, none⟩ = some (.slice eo en ecap) := Nf.blk_cell (i := 3) Hblk7.out rfl
            go_wp2_with fail
            clear d0 d1 d2 d3 HB6 Hblk6 Hrw6 HRX HSm
            rw [← hbo]
            clear hbo
            refine (HF.out w7 HB7.out).mono ?_
            rintro e w8 ⟨rfl, Hx⟩
            have HB8 := Sp.hid (HB7.out.trans (Hx.out.mono HB7.out.size))
            have Hblk8 := Sp.hid (Nf.blk_below Hblk7.out Hx.out (Nf.blk_lt Hblk7.out))
            have Hrw8 := Sp.hid (Hrw7.out.below Hx.out)
            have hz8 := HB8.out.size
            clear Hx HB7 Hblk7 Hrw7
            have Hmp0 : Hid (Nf.KMap 3 Nf.numV Nf.numDom (w8.alloc (.map #[] 0)) w8.heap.size 0 (Nf.mf ((Sp.lists els).take 0))) := Sp.hid (by
              have e0 : Nf.mf ((Sp.lists els).take 0) = fun _ => none := by
                funext x
                rw [List.take_zero]
                rfl
              rw [e0]
              exact Nf.KMap.new w8)
            have Hb00 : Hid (Below w8.heap.size w8 (w8.alloc (.map #[] 0))) := Sp.hid ((Below.refl _ w8).alloc (Nat.le_refl _) _)
            go_wp2_with fail
            go_loopw [16] (fun i wr => ∃ k : Nat, i = .int .i64 k ∧ k ≤ m ∧ Hid (Nf.KMap 3 Nf.numV Nf.numDom wr w8.heap.size k (Nf.mf ((Sp.lists els).take k))) ∧ Hid (Below w8.heap.size w8 wr)) (fun i _ => m - (intOf i).toNat)
            case atStart => exact ⟨0, rfl, Nat.zero_le _, Hmp0, Hb00⟩
            case round =>
              clear Hmp0 Hb00
              obtain ⟨k, rfl, hk, Hmp, Hbr⟩ := hrel
              by_cases hkm : k < m
              · obtain ⟨b, off, x, hbo2, cx, hrx, hx?, htk⟩ := (Hrw8.out.below Hbr.out).at hkm
                have hlen : x.l.length = x.n := hrx.1
                have h60 : x.n ≤ 60 := by
                  have := Hl60.out x.l (List.mem_of_getElem? (by unfold Sp.lists; rw [List.getElem?_map, hx?]; rfl))
                  omega
                have Htk2 : Hid ((Sp.lists els).take (k + 1) = (Sp.lists els).take k ++ [x.l]) := Sp.hid (by
                  unfold Sp.lists
                  rw [← List.map_take, htk, List.map_append, List.map_take]; rfl)
                have hl := Hmp.out.run_get0 Nf.intK Try.underlying39 (y := x.n) (show x.n ≤ 1000000000 by omega)
                have hsn := fun z => Nf.mf_snoc ((Sp.lists els).take k) x.l z
                rw [Nf.mf_get] at hl
                rw [← Htk2.out, hlen] at hsn
                have hmk : Nf.many ((Sp.lists els).take k) x.n ≤ 200 := by
                  have h1 := Nf.many_le ((Sp.lists els).take k) x.n
                  rw [List.length_take] at h1
                  omega
                obtain ⟨c, hc⟩ : ∃ c, Nf.many ((Sp.lists els).take k) x.n = c := ⟨_, rfl⟩
                rw [hc] at hl hmk hsn
                obtain ⟨xn, hxn⟩ : ∃ xn, x.n = xn := ⟨_, rfl⟩
                rw [hxn] at hl h60 hsn cx
                unfold Nf.numV at hl
                have Hsn := Sp.hid hsn
                have i1 : (0 : Int) ≤ (k : Int) := by omega
                have i2 : (k : Int) < (m : Int) := by omega
                clear hrx hx? htk hlen hc hxn hsn
                subst hbo2
                go_wp2_with (first
                  | (at_mapUpdate; refine Nf.kmap_put Nf.intK rfl _ _ _ 39 rfl Try.underlying39 Hmp.out xn (show xn ≤ 1000000000 by omega) (c + 1) (by omega) (by omega) (Nf.mf ((Sp.lists els).take (k + 1))) (fun z _ => Hsn.out z) rfl rfl rfl ?_; intro w9 hm9 hg9)
                  | fail)
                have Hmp9 := Sp.hid hm9
                have Hb9 : Hid (Below w8.heap.size w8 w9) := Sp.hid (Hbr.out.grown hg9 Hbr.out.size (fun kk hk => by cases hk; exact Nat.le_refl _))
                clear hm9 hg9 hl
                go_wp2_with fail
                go_roundw
                case rel => exact ⟨k + 1, by go_num, hkm, Hmp9, Hb9⟩
                case measure => simp [intOf]; omega
              · have hke : k = m := by omega
                subst hke
                have hfull : (Sp.lists els).take k = Sp.lists els := by rw [← Hll.out, List.take_length]
                have Hmp1 : Hid (Nf.KMap 3 Nf.numV Nf.numDom wr w8.heap.size k (Nf.mf (Sp.lists els))) := Sp.hid (by rw [← hfull]; exact Hmp.out)
                clear hfull Hmp
                go_wp2_with fail
                obtain ⟨w9, hw9⟩ : ∃ w9 : World, w9 = wr := ⟨_, rfl⟩
                subst hw9
                go_loopw [17] (fun i wr => ∃ j : Nat, i = .int .i64 j ∧ j ≤ 61 ∧ Hid (Nf.KMap 3 Nf.numV Nf.numDom wr w8.heap.size k (Nf.mf (Sp.lists els))) ∧ Hid (Below w8.heap.size w8 wr)) (fun i _ => 61 - (intOf i).toNat)
                case atStart => exact ⟨0, rfl, Nat.zero_le _, Hmp1, Hbr⟩
                case round =>
                  clear Hmp1 Hbr
                  obtain ⟨j, rfl, hj, Hmp, Hbr⟩ := hrel
                  have hblkr := Nf.blk_below Hblk8.out Hbr.out (Nf.blk_lt Hblk8.out)
                  have Hbw := Sp.hid (HB8.out.trans (Hbr.out.mono HB8.out.size))
                  by_cases hj60 : j ≤ 60
                  · have d0 : wr.cell? ⟨w.heap.size, 0, none⟩ = some (.slice so sn scap) := Nf.blk_cell (i := 0) hblkr rfl
                    have d1 : wr.cell? ⟨w.heap.size, 1, none⟩ = some (.int .i64 st) := Nf.blk_cell (i := 1) hblkr rfl
                    have d2 : wr.cell? ⟨w.heap.size, 2, none⟩ = some (.slice ao an acap) := Nf.blk_cell (i := 2) hblkr rfl
                    have d3 : wr.cell? ⟨w.heap.size, 3, none⟩ = some (.slice eo en ecap) := Nf.blk_cell (i := 3) hblkr rfl
                    have i1 : (j : Int) ≤ 60 := by omega
                    clear hblkr
                    go_wp2_with fail
                    refine (HN.out wr j Hbw.out hj60).mono ?_
                    rintro e w10 ⟨c, er, rfl, Hx, Hc⟩
                    have Hmp10 := Sp.hid (Hmp.out.below Hx.out)
                    have Hb10 : Hid (Below w8.heap.size w8 w10) := Sp.hid (Hbr.out.trans (Hx.out.mono Hbr.out.size))
                    clear d0 d1 d2 d3 Hx
                    by_cases h0 : er = 0
                    · subst h0
                      have hcm : c = Nf.many (Sp.lists els) j := (Hc.out rfl).trans (Hcn.out j hj60)
                      have hl := Hmp10.out.run_get0 Nf.intK Try.underlying39 (y := j) (show j ≤ 1000000000 by omega)
                      rw [Nf.mf_get, ← hcm] at hl
                      unfold Nf.numV at hl
                      have tc : (!((c : Int) == (c : Int))) = false := by simp
                      clear Hc hcm
                      go_wp2_with fail
                      go_roundw
                      case rel => exact ⟨j + 1, by go_num, by omega, Hmp10, Hb10⟩
                      case measure => simp [intOf]; omega
                    · have h0' : (er == 0) = false := by simpa using h0
                      clear Hc h0
                      go_wp2_with fail
                      go_roundw
                      case rel => exact ⟨j + 1, by go_num, by omega, Hmp10, Hb10⟩
                      case measure => simp [intOf]; omega
                  · have hj61 : j = 61 := by omega
                    subst hj61
                    clear hblkr hj60
                    go_wp2_with fail
                    refine (known_any wr).mono ?_
                    rintro e wk ⟨rfl, hbk⟩
                    have Hbk := Sp.hid (Hbw.out.trans (hbk.mono Hbw.out.size))
                    clear hbk
                    go_wp2_with fail
                    go_ret
                    exact ⟨rfl, Hbk.out⟩
      · have h0' : (er == 0) = false := by simpa using h0
        have h0'' : (er != 0) = true := by simpa using h0
        clear Htl h0
        go_wp2_with fail
        refine (HD.out w5 HB5.out).mono ?_
        rintro e w6 ⟨lo, ll, lcap, rfl, HRX, Hx⟩
        have HB6 := Sp.hid (HB5.out.trans (Hx.out.mono HB5.out.size))
        clear d0 d1 d2 d3 Hx
        go_wp2_with fail
        refine (known_any w6).mono ?_
        rintro e wk ⟨rfl, hbk⟩
        have Hbk := Sp.hid (HB6.out.trans (hbk.mono HB6.out.size))
        clear hbk
        go_wp2_with fail
        go_ret
        exact ⟨rfl, Hbk.out⟩
  · have he2 : Nf.emptySpec n = (false, Nf.errNet n) := by unfold Nf.emptySpec; rw [if_pos he]
    obtain ⟨r, hr⟩ : ∃ r, Nf.errNet n = r := ⟨_, rfl⟩
    rw [hr] at he2 he
    have h3 : (r != 0) = true := by simpa using he
    have HA : Hid (∀ w2 : World, Below w.heap.size w w2 → Calls Try.prog 6 #[n.val] w2 (fun e w' => e = .returned (.tuple #[.bool false, .int .i64 r]) ∧ Hid (Below w2.heap.size w2 w'))) := Sp.hid (fun w2 hb => by
      refine (empty_any w2 n (h.below hb)).mono ?_
      rintro e w' ⟨e1, h1⟩
      rw [he2] at e1
      exact ⟨e1, Sp.hid h1⟩)
    have Hb0 := Sp.hid hb0
    have Hblk := Sp.hid hblk
    clear h hb0 hblk he hr he2
    obtain ⟨so, sn, scap, sig, st, ao, an, acap, arcs, eo, en, ecap, ends⟩ := n
    unfold Nf.Net.val at *
    simp only [Nf.Net.cells] at *
    go_enter Try.func3, Try.ntmps3
    go_wp2_with fail
    refine HO.out.mono ?_
    rintro e w2 ⟨over, rfl, hb2⟩
    have hblk2 := Nf.blk_below Hblk.out hb2 (by simp)
    have d0 : w2.cell? ⟨w.heap.size, 0, none⟩ = some (.slice so sn scap) := Nf.blk_cell (i := 0) hblk2 rfl
    have d1 : w2.cell? ⟨w.heap.size, 1, none⟩ = some (.int .i64 st) := Nf.blk_cell (i := 1) hblk2 rfl
    have d2 : w2.cell? ⟨w.heap.size, 2, none⟩ = some (.slice ao an acap) := Nf.blk_cell (i := 2) hblk2 rfl
    have d3 : w2.cell? ⟨w.heap.size, 3, none⟩ = some (.slice eo en ecap) := Nf.blk_cell (i := 3) hblk2 rfl
    have Hb2 := Sp.hid (Hb0.out.trans (hb2.mono Hb0.out.size))
    have Hblk2 := Sp.hid hblk2
    clear hb2 hblk2
    cases over with
    | true =>
      go_wp2_with fail
      refine (known_any w2).mono ?_
      rintro e wk ⟨rfl, hbk⟩
      have Hbk := Sp.hid (Hb2.out.trans (hbk.mono Hb2.out.size))
      clear hbk
      go_wp2_with fail
      go_ret
      exact ⟨rfl, Hbk.out⟩
    | false =>
      go_wp2_with fail
      refine (HA.out w2 Hb2.out).mono ?_
      rintro e w3 ⟨rfl, Hx⟩
      have HB3 := Sp.hid (Hb2.out.trans (Hx.out.mono Hb2.out.size))
      clear d0 d1 d2 d3 Hx
      go_wp2_with fail
      refine (known_any w3).mono ?_
      rintro e wk ⟨rfl, hbk⟩
      have Hbk := Sp.hid (HB3.out.trans (hbk.mono HB3.out.size))
      clear hbk
      go_wp2_with fail
      go_ret
      exact ⟨rfl, Hbk.out⟩
end Go.Proofs.Ytnaojfhhjknejaa
