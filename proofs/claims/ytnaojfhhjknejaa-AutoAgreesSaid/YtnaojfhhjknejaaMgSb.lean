/-
  The walk of subsets: the sets that words lead to, each asked where its symbols lead.
-/
import Derived.Test.YtnaojfhhjknejaaMgSbMCtW
set_option linter.unusedVariables false
set_option linter.unusedSimpArgs false
namespace Go.Proofs.Ytnaojfhhjknejaa
open Go.RowKit
namespace Nf
/-- What subsets answers. -/
def SubsPost (g : Gr) (w : World) (e : Ending) (w' : World) : Prop :=
  (e = .returned (.tuple #[.slice none 0 0, .bool false]) ∨ ∃ (B n cap : Nat) (nx : Nat → List Nat) (en : Nat → Bool) (Ss : Nat → Nat → Prop), e = .returned (.tuple #[.slice (some ⟨B, 0, none⟩) n cap, .bool true]) ∧ n ≤ 3000 ∧ SubsAt w' B n en nx ∧ Subs g n Ss nx en) ∧ Below w.heap.size w w'
def rowNx (rows : List (Bool × NRow)) (j : Nat) : List Nat := ((rows[j]?).map fun r => r.2.l).getD []
def rowEn (rows : List (Bool × NRow)) (j : Nat) : Bool := ((rows[j]?).map fun r => r.1).getD false
theorem rowNx_old {rows : List (Bool × NRow)} {r : Bool × NRow} {j : Nat} (h : j < rows.length) : rowNx (rows ++ [r]) j = rowNx rows j := by unfold rowNx; rw [List.getElem?_append_left h]
theorem rowEn_old {rows : List (Bool × NRow)} {r : Bool × NRow} {j : Nat} (h : j < rows.length) : rowEn (rows ++ [r]) j = rowEn rows j := by unfold rowEn; rw [List.getElem?_append_left h]
theorem rowNx_new {rows : List (Bool × NRow)} {r : Bool × NRow} : rowNx (rows ++ [r]) rows.length = r.2.l := by unfold rowNx; simp
theorem rowEn_new {rows : List (Bool × NRow)} {r : Bool × NRow} : rowEn (rows ++ [r]) rows.length = r.1 := by unfold rowEn; simp
/-- A set more has been asked. -/
theorem Sets.done_more {g : Gr} {L : List (List Nat)} {rows : List (Bool × NRow)} (h : Sets g L rows.length (rowNx rows) (rowEn rows)) {l : List Nat} {Lf : Nat → List Nat} {r : Bool × NRow} (h1 : L[rows.length]? = some l)
    (h2 : ∀ x, x < g.sig.length → (∀ y ∈ Lf x, y < g.N) ∧ ∀ s, g.sig[x]? = some s → ∀ y, y ∈ Lf x ↔ StepTo g (· ∈ l) s y) (h3 : ∀ x, x < g.sig.length → Lf x ≠ [] → ∃ m, kIdx g.N L (keyT g.N (Lf x)) = some m)
    (h4 : r.2.l = nxOf g.N L Lf g.sig.length) (h5 : r.1 = bl (∃ q, q ∈ l ∧ q ∈ g.ends)) : Sets g L (rows ++ [r]).length (rowNx (rows ++ [r])) (rowEn (rows ++ [r])) := by
  refine ⟨h.pos, h.lt, h.beg, h.clos, fun j hj => ?_⟩
  rw [List.length_append] at hj
  simp at hj
  by_cases e : j = rows.length
  · subst e
    exact ⟨l, Lf, h1, h2, h3, by rw [rowNx_new, h4], by rw [rowEn_new, h5]⟩
  · have hjl : j < rows.length := by omega
    rw [rowNx_old hjl, rowEn_old hjl]
    exact h.done j hjl
theorem any_bl {g : Gr} (l : List Nat) : l.any (fun q => bl (q ∈ g.ends)) = bl (∃ q, q ∈ l ∧ q ∈ g.ends) := by
  by_cases h : ∃ q, q ∈ l ∧ q ∈ g.ends
  · rw [bl_true h, List.any_eq_true]
    obtain ⟨q, h1, h2⟩ := h
    exact ⟨q, h1, bl_true h2⟩
  · rw [bl_false h, List.any_eq_false]
    intro q hq
    rw [bl_iff]
    exact fun h2 => h ⟨q, hq, h2⟩
theorem NumAt.start {w0 w4 : World} {gb bx N : Nat} (hb : Below w0.heap.size w0 w4) (hbx : w4.heap[bx]? = some (.cells #[.pointer (some ⟨gb, 0, none⟩)] 48 (0, 0))) :
    NumAt w0 (((w4.alloc (.map #[] 0)).alloc (.cells #[.map (some w4.heap.size)] 84)).alloc (.cells #[.slice none 0 0] 64)) gb bx (w4.heap.size + 1) (w4.heap.size + 1 + 1) w4.heap.size N [] (.slice none 0 0) := by
  have h1 := Nf.Below.heap_new (w4.alloc (.map #[] 0)) (.cells #[.map (some w4.heap.size)] 84)
  rw [show (w4.alloc (.map #[] 0)).heap.size = w4.heap.size + 1 from by simp] at h1
  have h2 := Nf.Below.heap_new ((w4.alloc (.map #[] 0)).alloc (.cells #[.map (some w4.heap.size)] 84)) (.cells #[.slice none 0 0] 64)
  rw [show ((w4.alloc (.map #[] 0)).alloc (.cells #[.map (some w4.heap.size)] 84)).heap.size = w4.heap.size + 1 + 1 from by simp] at h2
  have b1 := hb.alloc hb.size (.map #[] 0)
  have b2 := b1.alloc b1.size (.cells #[.map (some w4.heap.size)] 84)
  have b3 := b2.alloc b2.size (.cells #[.slice none 0 0] 64)
  have m1 : KMap 9 Value.string (fun s : ByteArray => s.size ≤ maxLen) (w4.alloc (.map #[] 0)) w4.heap.size 0 (fun _ => none) := KMap.new w4
  have m2 := m1.below ((Below.refl _ _).alloc (Nat.le_refl _) (.cells #[.map (some w4.heap.size)] 84))
  have m3 := m2.below ((Below.refl _ _).alloc (Nat.le_refl _) (.cells #[.slice none 0 0] 64))
  have hs := hb.size
  exact ⟨blk_alloc (blk_alloc (blk_alloc hbx _) _) _, blk_alloc h1 _, h2, World.ownsRow_nil _ _ _ _, m3, fun x hx => (by cases hx), List.Pairwise.nil, b3, by omega, by omega, hs⟩
theorem sets_start {g : Gr} {l : List Nat} {nx : Nat → List Nat} {en : Nat → Bool} (hp : Pool g.N l) (hm : ∀ q, q ∈ l ↔ Beg g q) : Sets g [l] 0 nx en := by
  refine ⟨by simp, fun a ha => ?_, fun q => ?_, fun a ha p q hpa hst => ?_, fun j hj => absurd hj (by omega)⟩
  · simp at ha; subst ha; exact hp
  · rw [← hm q]
    constructor
    · rintro ⟨a, h1, h2⟩
      simp at h1; subst h1; exact h2
    · exact fun h => ⟨l, by simp, h⟩
  · simp at ha; subst ha
    obtain ⟨r, h1, h2⟩ := (hm p).1 hpa
    exact (hm q).2 ⟨r, h1, h2.trans hst⟩
/-- The rows as count reads them. -/
theorem subs_at {w : World} {base B cap : Nat} {rows : List (Bool × NRow)} (h : w.ownsRow base 90 2 (.slice (some ⟨B, 0, none⟩) rows.length cap) rows.length (rows.flatMap subCells)) (hr : ∀ r ∈ rows, w.ownsRow base 3 1 r.2.val r.2.l.length (r.2.l.map num)) (hl : ∀ r ∈ rows, r.2.l.length ≤ 40) : SubsAt w B rows.length (rowEn rows) (rowNx rows) := by
  rcases h.2 with ⟨h0, _⟩ | ⟨g, cap', cur, hv, _, hb, _, _, _, ht⟩
  · cases h0
  · injection hv with h1 h2 h3
    injection h1 with h1
    injection h1 with h1
    subst h1
    intro i hi
    have hri : rows[i]? = some rows[i] := List.getElem?_eq_getElem hi
    have hget : ∀ j : Nat, j < 2 → cur[i * 2 + j]? = (subCells rows[i])[j]? := fun j hj => by
      have h5 : (rows.flatMap subCells)[i * 2 + j]? = (subCells rows[i])[j]? := by
        rw [flatS_get subCells 2 (by omega) (fun _ => rfl)]
        have e1 : (i * 2 + j) / 2 = i := by omega
        have e2 : (i * 2 + j) % 2 = j := by omega
        rw [e1, e2, hri]
        rfl
      rw [← h5, ← ht, List.getElem?_take, if_pos (by omega), Array.getElem?_toList]
    have hn := hr _ (List.getElem_mem hi)
    obtain ⟨ao, c, hv2, hseq, _⟩ := seq_of_own hn (by have := hl _ (List.getElem_mem hi); unfold maxLen; omega)
    refine ⟨blk_cell hb ?_, ao, (rows[i]).2.l.length, c, blk_cell hb ?_, ?_⟩
    · have := hget 0 (by omega)
      rw [Nat.add_zero] at this
      rw [this]
      simp [subCells, rowEn, hri]
    · rw [hget 1 (by omega)]
      simp [subCells, hv2]
    · simpa [rowNx, hri] using hseq
end Nf

set_option maxHeartbeats 16000000 in
set_option maxRecDepth 100000 in
theorem subsets_any (w0 : World) (gb : Nat) (v : Nf.Gv) (g : Nf.Gr) (hG : Nf.GrAt w0 gb v g) :
    Calls Try.prog 22 #[.pointer (some ⟨gb, 0, none⟩)] w0 (Nf.SubsPost g w0) := by
  obtain ⟨i0, hi, hz0, hz1, hz2⟩ := info_parts Nf.intInfo
  have hN := hG.small
  have hpos := hG.ok.pos
  have hsn := hG.sn
  have Hsig := Sp.hid hG.sig.1
  have gblt := Nf.blk_lt hG.blk
  have c1 : w0.cell? ⟨gb, 1, none⟩ = some (.slice (some ⟨v.eb, 0, none⟩) g.N g.N) := Nf.blk_cell (i := 1) hG.blk rfl
  have hmk := @run_makeMap Try.prog
  have HG := Sp.hid hG
  have hb1 := (Below.refl w0.heap.size w0).alloc (Nat.le_refl _) (.cells #[.pointer (some ⟨gb, 0, none⟩)] 48)
  have hb2 := hb1.alloc hb1.size (.cells #[.bool true] 4)
  have hbx2 := Nf.blk_alloc (Nf.Below.heap_new w0 (.cells #[.pointer (some ⟨gb, 0, none⟩)] 48)) (.cells #[.bool true] 4)
  have hxb := Nf.blk_cell (i := 0) (v := .bool true) (Nf.Below.heap_new (w0.alloc (.cells #[.pointer (some ⟨gb, 0, none⟩)] 48)) (.cells #[.bool true] 4)) rfl
  have hsz1 : (w0.alloc (.cells #[.pointer (some ⟨gb, 0, none⟩)] 48)).heap.size = w0.heap.size + 1 := by simp
  rw [hsz1] at hxb
  have HRp := Sp.hid (repeat_any _ _ g.N hxb hpos hN)
  have Hb2 := Sp.hid hb2
  have Hbx2 := Sp.hid hbx2
  have hp : Nf.SubsPost g w0 = fun e w' => (e = .returned (.tuple #[.slice none 0 0, .bool false]) ∨ ∃ (B n cap : Nat) (nx : Nat → List Nat) (en : Nat → Bool) (Ss : Nat → Nat → Prop), e = .returned (.tuple #[.slice (some ⟨B, 0, none⟩) n cap, .bool true]) ∧ n ≤ 3000 ∧ Nf.SubsAt w' B n en nx ∧ Nf.Subs g n Ss nx en) ∧ Below w0.heap.size w0 w' := rfl
  rw [hp]
  clear hG hb1 hb2 hbx2 hxb hp hsz1
  go_enter Try.func22, Try.ntmps22
  go_wp2_with fail
  refine HRp.out.mono ?_
  rintro e w3 ⟨kb, rfl, hkb, hb3, hv3⟩
  have Hb3 := Sp.hid (Hb2.out.trans (hb3.mono Hb2.out.size))
  have hbx3 := Nf.blk_below Hbx2.out hb3 (Nf.blk_lt Hbx2.out)
  have d0 : w3.cell? ⟨w0.heap.size, 0, none⟩ = some (.pointer (some ⟨gb, 0, none⟩)) := Nf.blk_cell (i := 0) hbx3 rfl
  have HSt := Sp.hid (stepper_any w3 gb v g (HG.out.below Hb3.out))
  have Hbx3 := Sp.hid hbx3
  have Hv3 := Sp.hid hv3
  have hkbl := hv3.lt
  clear hb3 hbx3 hv3 hkb HRp
  go_wp2_with fail
  refine HSt.out.mono ?_
  rintro e w4 ⟨bg, bs, sb, sr, rfl, hbg, hseen, hsr, hb4, _, _, _⟩
  have Hbg := Sp.hid hbg
  have Hseen := Sp.hid hseen
  have hkbs : ∀ x, x < v.sn → kb ≠ sr x := fun x hx e => by have := hsr x hx; omega
  have Hkbs := Sp.hid hkbs
  have Hsr := Sp.hid (show ∀ x, x < v.sn → w0.heap.size ≤ sr x from fun x hx => Nat.le_trans Hb3.out.size (hsr x hx))
  have Hb4 := Sp.hid (Hb3.out.trans (hb4.mono Hb3.out.size))
  have Hbx4 := Sp.hid (Nf.blk_below Hbx3.out hb4 (Nf.blk_lt Hbx3.out))
  have Hv4 := Sp.hid (Hv3.out.grown (row := none) ⟨hb4.os, hb4.tape, hb4.output, hb4.size, fun i hi _ => hb4.block i hi⟩ (by simp))
  have d4 : w4.cell? ⟨w0.heap.size, 0, none⟩ = some (.pointer (some ⟨gb, 0, none⟩)) := Nf.blk_cell (i := 0) Hbx4.out rfl
  have hbl : w0.heap.size < w4.heap.size := Nf.blk_lt Hbx4.out
  have hW5 := Nf.NumAt.start (gb := gb) (bx := w0.heap.size) (N := g.N) Hb4.out Hbx4.out
  have hb45 : Below w4.heap.size w4 (((w4.alloc (.map #[] 0)).alloc (.cells #[.map (some w4.heap.size)] 84)).alloc (.cells #[.slice none 0 0] 64)) := (((Below.refl _ w4).alloc (Nat.le_refl _) _).alloc (by simp) _).alloc (by simp; omega) _
  have d5 : (((w4.alloc (.map #[] 0)).alloc (.cells #[.map (some w4.heap.size)] 84)).alloc (.cells #[.slice none 0 0] 64)).cell? ⟨w0.heap.size, 0, none⟩ = some (.pointer (some ⟨gb, 0, none⟩)) := Nf.blk_cell (i := 0) hW5.bxb rfl
  have HBe := Sp.hid (begin_any _ gb v g (HG.out.below hW5.below))
  have HW5 := Sp.hid hW5
  have Hb45 := Sp.hid hb45
  clear hbg hseen hsr hb4 hkbs hkbl d0 HSt Hbx3 Hv3 Hb2 Hbx2 hW5 hb45
  go_wp2_with fail
  obtain ⟨w5, hw5⟩ : ∃ w5, ((w4.alloc (.map #[] 0)).alloc (.cells #[.map (some w4.heap.size)] 84)).alloc (.cells #[.slice none 0 0] 64) = w5 := ⟨_, rfl⟩
  rw [hw5] at HBe HW5 Hb45 ⊢
  clear hw5 d5 d4
  obtain ⟨nk, hnk⟩ : ∃ nk, w4.heap.size + 1 = nk := ⟨_, rfl⟩
  obtain ⟨lk, hlk⟩ : ∃ lk, nk + 1 = lk := ⟨_, rfl⟩
  obtain ⟨mb, hmb⟩ : ∃ mb, w4.heap.size = mb := ⟨_, rfl⟩
  rw [hnk, hlk] at HW5 ⊢
  have HW5 : Hid (Nf.NumAt w0 w5 gb w0.heap.size nk lk mb g.N [] (.slice none 0 0)) := Sp.hid (by rw [← hmb]; exact HW5.out)
  clear hnk hlk hmb
  refine HBe.out.mono ?_
  rintro e w6 ⟨bv, l0, rfl, hown, hpool, hmem, hb6⟩
  have hpl := hpool.len
  obtain ⟨ao0, cap0, rfl, _, _⟩ := Nf.seq_of_own hown (by unfold maxLen; omega)
  have HW6 := Sp.hid (HW5.out.under hb6)
  have HNum := Sp.hid (number_any w0 w6 gb w0.heap.size nk lk mb v g [] (.slice none 0 0) ao0 cap0 l0 HG.out HW6.out (Nf.own_base hown HW5.out.below.size) hpool (by simp))
  have Hl0 := Sp.hid hown
  have Hpool := Sp.hid hpool
  have Hmem := Sp.hid hmem
  have Hb46 := Sp.hid (Hb45.out.trans (hb6.mono Hb45.out.size))
  clear hown hpool hmem hb6 HBe HW5 Hb45 hpl
  go_wp2_with fail
  refine HNum.out.mono ?_
  rintro e w7 ⟨i9, els0, lv0, rfl, hn7, hk7, hor⟩
  have hcase : els0 = [(⟨.slice ao0 l0.length cap0, l0⟩ : Nf.NRow)] := by
    rcases hor with ⟨h1, _⟩ | ⟨_, _, h3⟩
    · simp [Nf.nlists, Nf.kIdx] at h1
    · simpa using h3
  subst hcase
  have hkt := hk7.kt HW6.out w6.heap.size
  have vk : ∀ {e : TypeId} {b cap n : Nat} {α : Type} {en : α → Value} {A : Nat → α}, Vec en w6 b e cap n A → e ≠ 64 → e ≠ 67 → Vec en w7 b e cap n A := fun h h1 h2 => hkt.vec h h1 h2 (Nat.ne_of_lt h.lt)
  have bk : ∀ {b : Nat} {cs : Array Value} {t : TypeId} {fr : Nat × Nat}, w6.heap[b]? = some (.cells cs t fr) → t ≠ 64 → t ≠ 67 → w7.heap[b]? = some (.cells cs t fr) := fun h h1 h2 => hkt _ _ _ _ h h1 h2 (Nat.ne_of_lt (Nf.blk_lt h))
  have g46 : w4.grownBy w6 none := ⟨Hb46.out.os, Hb46.out.tape, Hb46.out.output, Hb46.out.size, fun i hi _ => Hb46.out.block i hi⟩
  have b46 : ∀ {b : Nat} {o : Obj}, w4.heap[b]? = some o → w6.heap[b]? = some o := fun h => Nf.blk_below h Hb46.out (Nf.blk_lt h)
  have hsb : Nf.SbAt w0 w7 gb v g w0.heap.size nk lk mb kb bg bs sb sr [(⟨.slice ao0 l0.length cap0, l0⟩ : Nf.NRow)] lv0 (.slice none 0 0) [] := ⟨hn7, bk (b46 Hbg.out) (by decide) (by decide),
    ⟨bk (b46 Hseen.out.var) (by decide) (by decide), vk (Hseen.out.tab.grown g46 (by simp)) (by decide) (by decide), fun x hx => vk ((Hseen.out.row x hx).grown g46 (by simp)) (by decide) (by decide), Hseen.out.inj⟩,
    vk (Hv4.out.grown g46 (by simp)) (by decide) (by decide), World.ownsRow_nil _ _ _ _, fun r hr => (by cases hr)⟩
  have HSb := Sp.hid hsb
  have HSe := Sp.hid (Nf.sets_start (nx := Nf.rowNx []) (en := Nf.rowEn []) Hpool.out Hmem.out)
  have HB7 := Sp.hid hsb.nums.below
  clear hmk c1 gblt
  clear hor hkt vk bk g46 b46 hsb hn7 hk7 HW6 HNum Hl0 Hpool Hmem Hb46 Hbg Hseen Hv4 Hb4 Hbx4 hbl
  go_wp2_with fail
  go_loopw [9, 10, 11, 13] (fun s i _ _ wr => ∃ (k : Nat) (els : List Nf.NRow) (lv : Value) (rows : List (Bool × Nf.NRow)), i = .int .i64 k ∧ k = rows.length ∧ k ≤ els.length ∧ els.length ≤ 3000 ∧ Hid (Nf.SbAt w0 wr gb v g w0.heap.size nk lk mb kb bg bs sb sr els lv s rows) ∧ Hid (Nf.Sets g (Nf.nlists els) rows.length (Nf.rowNx rows) (Nf.rowEn rows)) ∧ Hid (∀ r ∈ rows, r.2.l.length ≤ 40)) (fun _ i _ _ _ => 3001 - (intOf i).toNat)
  case atStart => exact ⟨0, _, lv0, [], rfl, rfl, by simp, by simp, HSb, HSe, Sp.hid (by simp)⟩
  case round =>
    clear HSb HSe
    obtain ⟨k, els, lv, rows, rfl, hkr, hke, hel, HSb, HSe, Hnl⟩ := hrel
    have Hkr := Sp.hid hkr
    clear hkr
    have hnll : (Nf.nlists els).length = els.length := by simp [Nf.nlists]
    have hpe : 0 < els.length := by have := HSe.out.pos; omega
    have Hnll := Sp.hid hnll
    clear hnll
    have hlown := HSb.out.nums.lown
    have hlkb := HSb.out.nums.lkb
    obtain ⟨lg, lcap, rfl⟩ := Nf.own_form hlown hpe
    have d1 : wr.cell? ⟨lk, 0, none⟩ = some (.slice (some ⟨lg, 0, none⟩) els.length lcap) := Nf.blk_cell (i := 0) hlkb rfl
    clear hlkb
    by_cases hlt : k < els.length
    · have hxe : els[k]? = some els[k] := List.getElem?_eq_getElem hlt
      obtain ⟨x, hx⟩ : ∃ x, els[k] = x := ⟨_, rfl⟩
      rw [hx] at hxe
      have hxm := List.mem_of_getElem? hxe
      obtain ⟨hrx, hpx⟩ := HSb.out.nums.row x hxm
      obtain ⟨xv, xl⟩ := x
      simp only at hrx hpx
      have hplx := hpx.len
      obtain ⟨xo, xcap, rfl, hsq, _⟩ := Nf.seq_of_own hrx (by unfold maxLen; omega)
      have hls := Nf.seq_of_own (en := id) (xs := els.map Nf.NRow.val) (v := .slice (some ⟨lg, 0, none⟩) els.length lcap) (by simpa using hlown) (by simp; unfold maxLen; omega)
      have d2 : wr.cell? ⟨lg, k, none⟩ = some (.slice xo xl.length xcap) := by
        obtain ⟨ao9, cap9, hv9, hsq9, _⟩ := hls
        injection hv9 with f1 f2 f3
        obtain ⟨b9, off9, e9, hc9⟩ := hsq9.2.2 (by simp; omega)
        rw [← f1] at e9
        injection e9 with e9
        injection e9 with e9 e10
        have h := hc9 k (.slice xo xl.length xcap) (by rw [List.getElem?_map, hxe]; rfl)
        rw [← e9, ← e10, Nat.zero_add] at h
        exact h
      have d3 : wr.cell? ⟨w0.heap.size, 0, none⟩ = some (.pointer (some ⟨gb, 0, none⟩)) := Nf.blk_cell (i := 0) HSb.out.nums.bxb rfl
      have HC := Sp.hid (containsI_any (fun q => Nf.bl (q ∈ g.ends)) 42 #[.pointer (some ⟨w0.heap.size, 0, none⟩)] (enters_of Try.func42 (by kernel_rfl) rfl) xo xl.length xcap xl wr hsq (fun q hq => subs2_any wr w0.heap.size gb v g (HG.out.below HSb.out.nums.below) d3 q (hpx.lt q hq)))
      have i1 : (0 : Int) ≤ (k : Int) := by omega
      have i2 : (k : Int) < (els.length : Int) := by omega
      have Hxe := Sp.hid hxe
      have Hrx := Sp.hid hrx
      have Hpx := Sp.hid hpx
      have Hsq := Sp.hid hsq
      clear hxe hx hxm hrx hpx hls hsq hlown hplx
      go_wp2_with fail
      refine HC.out.mono ?_
      rintro e w1 ⟨rfl, rfl⟩
      obtain ⟨en, hen⟩ : ∃ en, (xl.any fun q => Nf.bl (q ∈ g.ends)) = en := ⟨_, rfl⟩
      rw [hen]
      have Hen := Sp.hid hen
      have hb2 : Below w1.heap.size w1 (w1.alloc (.cells #[.bool en, .slice none 0 0] 90)) := (Below.refl _ w1).alloc (Nat.le_refl _) _
      have hSb2 := HSb.out.under hb2
      have e1 : (w1.alloc (.cells #[.bool en, .slice none 0 0] 90)).cell? ⟨lk, 0, none⟩ = some (.slice (some ⟨lg, 0, none⟩) els.length lcap) := Nf.blk_cell (i := 0) hSb2.nums.lkb rfl
      have e2 : (w1.alloc (.cells #[.bool en, .slice none 0 0] 90)).cell? ⟨lg, k, none⟩ = some (.slice xo xl.length xcap) := by rw [World.cell?_alloc_past _ _ _ (World.block_lt_of_cell? _ _ d2)]; exact d2
      have HStp := Sp.hid (stepS_any w0 _ gb v g HG.out hSb2.nums.below bg bs sb sr hSb2.bgp hSb2.seen Hsr.out kb (fun _ => True) (fun q hq => by rw [hSb2.all.cell hq, Nf.bl_true trivial]) Hkbs.out xo xl.length xcap xl (Hsq.out.below hb2) Hpx.out)
      have HSb2 := Sp.hid hSb2
      have hscell := Nf.Below.heap_new w1 (.cells #[.bool en, .slice none 0 0] 90)
      have Hscell := Sp.hid hscell
      have hsvne : u9.ownBlock ≠ some w1.heap.size := fun e => by have := (HSb.out.sown.lt _ e).2; omega
      have Hsvne := Sp.hid hsvne
      have Hb12 := Sp.hid hb2
      clear hen hb2 hSb2 hscell hsvne HC
      go_wp2_with fail
      obtain ⟨w2, hw2⟩ : ∃ w2, w1.alloc (.cells #[.bool en, .slice none 0 0] 90) = w2 := ⟨_, rfl⟩
      rw [hw2] at HStp HSb2 Hscell Hb12 ⊢
      clear hw2 e1 e2 d1 d2 d3
      obtain ⟨sx, hsx⟩ : ∃ sx, w1.heap.size = sx := ⟨_, rfl⟩
      have Hsx0 := Sp.hid (show w0.heap.size ≤ w1.heap.size from HSb.out.nums.below.size)
      rw [hsx] at Hscell Hsvne Hsx0 ⊢
      clear hsx
      refine HStp.out.mono ?_
      rintro e w5 ⟨nb, V, Lf, rfl, hnx, hLf, hb25⟩
      have HSb5 := Sp.hid (HSb2.out.under hb25)
      have hsc5 := Nf.blk_below Hscell.out hb25 (Nf.blk_lt Hscell.out)
      have hnbb : w2.heap.size ≤ nb := hnx.tbb 1 rfl
      have hlgb : lg < w2.heap.size := by have := (HSb2.out.nums.lown.lt lg rfl).2; omega
      have Hnbl := Sp.hid (show nb ≠ lg from fun e => by omega)
      have hin : Nf.InAt w0 w5 w5 gb w0.heap.size nk lk mb g.N sx (.slice (some ⟨lg, 0, none⟩) els.length lcap) els (.slice (some ⟨lg, 0, none⟩) els.length lcap) (.slice none 0 0) en [] :=
        ⟨HSb5.out.nums, fun k _ _ _ h3 _ => ⟨rfl, h3⟩, Nat.le_refl _, hsc5, World.ownsRow_nil _ _ _ _, fun y hy b hb => ((HSb5.out.nums.row y hy).1.lt b hb).2⟩
      have HIn := Sp.hid hin
      have Hnx := Sp.hid hnx
      have HLf := Sp.hid hLf
      have Hsc5 := Sp.hid hsc5
      have Hbase := Sp.hid (show w0.heap.size ≤ w5.heap.size from HSb5.out.nums.below.size)
      clear hin hnx hLf hsc5 hnbb hlgb hb25 HStp
      go_wp2_with fail
      go_loopw [13, 50] (fun _ i wr => ∃ (x : Nat) (els' : List Nf.NRow) (lv' nv : Value) (nl : List Nat), i = .int .i64 x ∧ x ≤ v.sn ∧ els'.length ≤ els.length + x ∧ Hid (Nf.InAt w0 w5 wr gb w0.heap.size nk lk mb g.N sx (.slice (some ⟨lg, 0, none⟩) els.length lcap) els' lv' nv en nl) ∧ Hid (Nf.Sets g (Nf.nlists els') rows.length (Nf.rowNx rows) (Nf.rowEn rows)) ∧ Hid (∃ M, Nf.nlists els' = Nf.nlists els ++ M) ∧ Hid (∀ y, y < x → Lf y ≠ [] → ∃ m, Nf.kIdx g.N (Nf.nlists els') (Nf.keyT g.N (Lf y)) = some m) ∧ Hid (nl = Nf.nxOf g.N (Nf.nlists els') Lf x)) (fun _ i _ => v.sn - (intOf i).toNat)
      case atStart => exact ⟨0, els, _, _, [], rfl, Nat.zero_le _, by omega, HIn, HSe, Sp.hid ⟨[], by simp⟩, Sp.hid (fun y hy => absurd hy (by omega)), Sp.hid rfl⟩
      case round =>
        clear HIn
        obtain ⟨x, els2, lv2, nv, nl, rfl, hxs, hel2, HIn, HSe2, HM, Hgd, Hnl2⟩ := hrel
        by_cases hx : x < v.sn
        · obtain ⟨cur, hc1, hc2⟩ := Hnx.out.tab
          have hk := (HIn.out.keep nb (Nf.blk_lt hc1) (fun e => by
            obtain ⟨es, c, hm⟩ := HSb5.out.nums.mp.blk
            rw [← e, hc1] at hm
            cases hm) (Nf.blk_ne hc1 HSb5.out.nums.lkb (by decide)) (fun e => by
            injection e with e
            exact Hnbl.out e.symm) (Nf.blk_ne hc1 Hsc5.out (by decide))).1
          have htab : Vec id wr nb 67 v.sn v.sn V := ⟨cur, hk.trans hc1, hc2⟩
          have d1 := htab.cell hx
          simp only [id] at d1
          have hrow := (HIn.out.kt HSb5.out.nums).row (Hnx.out.row hx) (by decide) (by decide) (Nf.own_ne (Hnx.out.row hx) Hsc5.out (by decide))
          obtain ⟨hpx2, hmx⟩ := HLf.out x hx
          have hln := hpx2.len
          obtain ⟨vo, vcap, hvx, _, _⟩ := Nf.seq_of_own hrow (by unfold maxLen; omega)
          rw [hvx] at d1 hrow
          have i3 : (0 : Int) ≤ (x : Int) := by omega
          have i4 : (x : Int) < (v.sn : Int) := by omega
          have Hrow := Sp.hid hrow
          have Hvx := Sp.hid hvx
          have Hpx2 := Sp.hid hpx2
          have Hmx := Sp.hid hmx
          clear hc1 hc2 hk htab hrow hvx hpx2 hmx
          by_cases h0 : Lf x = []
          · have hl0 : (Lf x).length = 0 := by rw [h0]; rfl
            have H0 := Sp.hid h0
            clear h0
            rw [hl0] at d1
            clear hl0
            go_wp2_with fail
            go_roundw
            case rel => exact ⟨x + 1, els2, lv2, nv, nl, by go_num, hx, by omega, HIn, HSe2, HM, Sp.hid (fun y hy hne => by
              by_cases e : y = x
              · subst e; exact absurd H0.out hne
              · exact Hgd.out y (by omega) hne), Sp.hid (by rw [Hnl2.out]; show _ = _ ++ _; rw [if_pos H0.out, List.append_nil])⟩
            case measure => simp [intOf]; omega
          · have i5 : (0 : Int) < ((Lf x).length : Int) := by have := List.length_pos_iff.2 h0; omega
            have H0 := Sp.hid h0
            have hnown := HIn.out.nown
            have hnl40 : nl.length ≤ 40 := by
              have h := Nf.nxOf_len (N := g.N) (L := Nf.nlists els2) (Lf := Lf) x
              rw [← Hnl2.out] at h
              omega
            obtain ⟨no, ncap, rfl, _, _⟩ := Nf.seq_of_own hnown (by unfold maxLen; omega)
            have s1 : wr.cell? ⟨sx, 1, none⟩ = some (.slice no nl.length ncap) := Nf.blk_cell (i := 1) HIn.out.scell rfl
            have hin1 := HIn.out.under (Below.refl wr.heap.size wr).drew
            have HNum := Sp.hid (number_any w0 wr.drew gb w0.heap.size nk lk mb v g els2 lv2 vo vcap (Lf x) HG.out hin1.nums (Nf.own_base Hrow.out HSb2.out.nums.below.size) Hpx2.out (by omega))
            have HIn1 := Sp.hid hin1
            clear h0 hnown hin1
            go_wp2_with fail
            refine Open.begin (S := fun w' => w'.cell? ⟨sx, 1, none⟩ = some (.slice no nl.length ncap)) (z := 8) (by kernel_rfl) ?_
            have HS : wr.drew.cell? ⟨sx, 1, none⟩ = some (.slice no nl.length ncap) := s1
            refine Open.take (i := 0) (v := ?_) rfl (by kernel_rfl) (by kernel_rfl) (by kernel_rfl) (by kernel_rfl) (fun _ _ _ h => h) HS (Or.inl ⟨rfl, ?_⟩) ?_
            rotate_left
            · intro w' k1
              go_simp
              try rfl
            simp only [List.getElem_toArray, List.getElem_cons_zero, List.getElem_cons_succ, Act.put, List.setIfInBounds_toArray, List.set_cons_zero, List.set_cons_succ]
            refine Open.take (i := 1) (v := ?_) rfl (by kernel_rfl) (by kernel_rfl) (by kernel_rfl) (by kernel_rfl) (fun _ _ _ h => h) HS (Or.inl ⟨rfl, ?_⟩) ?_
            rotate_left
            · intro w' k1
              go_simp
              try rfl
            simp only [List.getElem_toArray, List.getElem_cons_zero, List.getElem_cons_succ, Act.put, List.setIfInBounds_toArray, List.set_cons_zero, List.set_cons_succ]
            refine Open.take (i := 2) (v := ?_) rfl (by kernel_rfl) (by kernel_rfl) (by kernel_rfl) (by kernel_rfl) (fun _ _ _ h => h) HS (Or.inl ⟨rfl, ?_⟩) ?_
            rotate_left
            · intro w' k1
              go_simp
              try rfl
            simp only [List.getElem_toArray, List.getElem_cons_zero, List.getElem_cons_succ, Act.put, List.setIfInBounds_toArray, List.set_cons_zero, List.set_cons_succ]
            refine Open.take (i := 3) (v := ?_) rfl (by kernel_rfl) (by kernel_rfl) (by kernel_rfl) (by kernel_rfl) (fun _ _ _ h => h) HS (Or.inl ⟨rfl, ?_⟩) ?_
            rotate_left
            · intro w' k1
              go_simp
              try rfl
            simp only [List.getElem_toArray, List.getElem_cons_zero, List.getElem_cons_succ, Act.put, List.setIfInBounds_toArray, List.set_cons_zero, List.set_cons_succ]
            clear HS
            refine Open.one (i := 4) rfl (by kernel_rfl) rfl (fun K hK => ?_)
            go_simp
            refine HNum.out.mono ?_
            rintro e w6 ⟨i9, els3, lv3, rfl, hn6, hk6, hor⟩
            have hin6 := HIn1.out.number hn6 hk6 (by
              rcases hor with ⟨_, h2⟩ | ⟨_, _, h3⟩
              · rw [h2]; exact HIn1.out.low
              · rw [h3]
                intro y hy b hb
                rcases List.mem_append.1 hy with hy | hy
                · exact HIn1.out.low y hy b hb
                · simp at hy
                  subst hy
                  rw [← Hvx.out] at hb
                  exact ((Hnx.out.row hx).lt b hb).2)
            have m1 : w6.cell? ⟨sx, 1, none⟩ = some (.slice no nl.length ncap) := Nf.blk_cell (i := 1) hin6.scell rfl
            have l1 := Nf.blk_lt hin6.scell
            have f1 := Nf.blk_free (i := 1) hin6.scell
            have o1 : (Value.slice no nl.length ncap).ownBlock ≠ some sx := Nf.own_ne hin6.nown hin6.scell (by decide)
            have Hrow2 := Sp.hid (show (w6.alloc (.cells #[.int .i64 (i9 : Int)] 3)).ownsRow w5.heap.size 3 1 (.slice no nl.length ncap) nl.length (nl.map Nf.num) from hin6.nown.alloc _)
            have hbw := hin6.size
            have HIn6 := Sp.hid hin6
            have Hor := Sp.hid hor
            refine hK _ _ ⟨fun _ => m1, ?_⟩
            clear hK K hn6 hk6 hor hin6 HNum
            refine Open.one (i := 5) rfl (by kernel_rfl) rfl (fun K hK => ?_)
            go_simp
            refine hK _ _ ⟨fun _ => ?_, ?_⟩
            · simpa [World.cell?_alloc_past _ _ _ l1] using m1
            clear hK K
            refine Open.one (i := 6) rfl (by kernel_rfl) rfl (fun K hK => ?_)
            refine wp_append_lies _ _ _ 67 (by rfl) w5.heap.size 3 i0 _ 1 8 Try.underlying67 hi hz0 hz1 hz2 rfl (by decide) (.slice no nl.length ncap) _ _ (by rfl) Hrow2.out ⟨w6.heap.size, 0, none⟩ 1 1 [.int .i64 (i9 : Int)] (by rfl) rfl (World.news_of_block (cs := #[.int .i64 (i9 : Int)]) (t := 3) (fr := (0, 0)) (heap_alloc_new w6 _)) (by simp [Value.oneCell']) (by omega) ?_ ?_ ?_ (w6.heap.size + 1) (by simp) ?_
            · unfold maxLen; omega
            · omega
            · simp; omega
            intro gb9 cap9 w7 hown7 hgrow7 hat7 hlt7
            have hl1 : sx < (w6.alloc (.cells #[.int .i64 (i9 : Int)] 3)).heap.size := by simp; omega
            have m2 : w7.cell? ⟨sx, 1, none⟩ = some (.slice no nl.length ncap) := by rw [hgrow7.cell_far ⟨sx, 1, none⟩ hl1 (Ne.symm o1)]; simpa [World.cell?_alloc_past _ _ _ l1] using m1
            have m3 : w7.frozen? ⟨sx, 1, none⟩ = false := by rw [hgrow7.frozen_far ⟨sx, 1, none⟩ hl1 (Ne.symm o1)]; simpa [World.frozen?_alloc_past _ _ _ l1] using f1
            have hp := HIn6.out.push (i := i9) (c := .cells #[.int .i64 (i9 : Int)] 3) Hbase.out Hsx0.out ⟨hgrow7.os, hgrow7.tape, hgrow7.output, hgrow7.size, hgrow7.block⟩ (by simpa [Nf.num] using hown7)
            have Hp := Sp.hid hp
            refine hK _ _ ⟨fun _ => m2, ?_⟩
            clear hK K hp hl1 hown7 hgrow7 hat7 hlt7 Hrow2
            have HS : w7.cell? ⟨sx, 1, none⟩ = some (.slice no nl.length ncap) := m2
            refine Open.take (i := 7) (v := ?_) rfl (by kernel_rfl) (by kernel_rfl) (by kernel_rfl) (by kernel_rfl) (fun _ _ _ h => h) HS (Or.inl ⟨rfl, ?_⟩) ?_
            rotate_left
            · intro w' k1
              go_simp
              try rfl
            simp only [List.getElem_toArray, List.getElem_cons_zero, List.getElem_cons_succ, Act.put, List.setIfInBounds_toArray, List.set_cons_zero, List.set_cons_succ]
            refine Open.one (i := 8) rfl (by kernel_rfl) rfl (fun K hK => ?_)
            go_simp
            refine hK _ _ ⟨fun e => absurd rfl e, ?_⟩
            clear hK K m1 m2 m3 HS
            refine Open.end (by kernel_rfl) ?_
            have Hfin : Hid (els3.length ≤ els2.length + 1 ∧ Nf.Sets g (Nf.nlists els3) rows.length (Nf.rowNx rows) (Nf.rowEn rows) ∧ (∃ M, Nf.nlists els3 = Nf.nlists els ++ M) ∧ (∀ y, y < x + 1 → Lf y ≠ [] → ∃ m, Nf.kIdx g.N (Nf.nlists els3) (Nf.keyT g.N (Lf y)) = some m) ∧ nl ++ [i9] = Nf.nxOf g.N (Nf.nlists els3) Lf (x + 1)) := Sp.hid (by
              rcases Hor.out with ⟨hk1, hk2⟩ | ⟨hk1, hk2, hk3⟩
              · subst hk2
                refine ⟨by omega, HSe2.out, HM.out, fun y hy hne => ?_, ?_⟩
                · by_cases e : y = x
                  · subst e; exact ⟨i9, hk1⟩
                  · exact Hgd.out y (by omega) hne
                · show _ = Nf.nxOf g.N (Nf.nlists els3) Lf x ++ _
                  rw [if_neg H0.out, ← Hnl2.out]
                  have hk1' : Nf.kIdx g.N (Nf.nlists els3) (Nf.keyT g.N (Lf x)) = some i9 := hk1
                  rw [hk1']
                  rfl
              · subst hk2
                subst hk3
                have hk1' : Nf.kIdx g.N (Nf.nlists els2) (Nf.keyT g.N (Lf x)) = none := hk1
                have hnn : Nf.nlists (els2 ++ [(⟨.slice vo (Lf x).length vcap, Lf x⟩ : Nf.NRow)]) = Nf.nlists els2 ++ [Lf x] := by simp [Nf.nlists]
                have hnw : Nf.kIdx g.N (Nf.nlists els2 ++ [Lf x]) (Nf.keyT g.N (Lf x)) = some els2.length := by
                  rw [Nf.kIdx_snoc (Lf x) hk1', if_pos rfl]
                  simp [Nf.nlists]
                rw [hnn]
                have hxl : x < g.sig.length := by rw [Hsig.out]; exact hx
                refine ⟨by simp, HSe2.out.snoc Hpx2.out (fun p q hp hst => ?_), ?_, fun y hy hne => ?_, ?_⟩
                · have hs : g.sig[x]? = some g.sig[x] := List.getElem?_eq_getElem hxl
                  obtain ⟨a, b, h1, h2, h3⟩ := (Nf.t2_all HG.out hs xl p).1 ((Hmx.out p).1 hp)
                  exact (Hmx.out q).2 ((Nf.t2_all HG.out hs xl q).2 ⟨a, b, h1, h2, h3.trans hst⟩)
                · obtain ⟨M, hM⟩ := HM.out
                  exact ⟨M ++ [Lf x], by rw [hM, List.append_assoc]⟩
                · by_cases e : y = x
                  · subst e; exact ⟨_, hnw⟩
                  · obtain ⟨m, hm⟩ := Hgd.out y (by omega) hne
                    exact ⟨m, Nf.kIdx_app _ hm⟩
                · show _ = Nf.nxOf g.N (Nf.nlists els2 ++ [Lf x]) Lf x ++ _
                  rw [if_neg H0.out, Nf.nxOf_app [Lf x] x Hgd.out, ← Hnl2.out, hnw]
                  rfl)
            go_wp2_with fail
            go_roundw
            case rel => exact ⟨x + 1, els3, lv3, _, nl ++ [i9], by go_num, hx, by have := Hfin.out.1; omega, Hp, Sp.hid Hfin.out.2.1, Sp.hid Hfin.out.2.2.1, Sp.hid Hfin.out.2.2.2.1, Sp.hid Hfin.out.2.2.2.2⟩
            case measure => simp [intOf]; omega
        · have hxe : x = v.sn := by omega
          have Hnlx : Hid (nl = Nf.nxOf g.N (Nf.nlists els2) Lf g.sig.length) := Sp.hid (by rw [Hsig.out, ← hxe]; exact Hnl2.out)
          have hnl40 : nl.length ≤ 40 := by
            have h := Nf.nxOf_len (N := g.N) (L := Nf.nlists els2) (Lf := Lf) x
            rw [← Hnl2.out] at h
            omega
          have hsb := HSb5.out.kt (HIn.out.kt HSb5.out.nums) HIn.out.nums Hsc5.out Hsvne.out
          have hnown := HIn.out.nown
          obtain ⟨no, ncap, rfl, _, _⟩ := Nf.seq_of_own hnown (by unfold maxLen; omega)
          have s0 : wr.cell? ⟨sx, 0, none⟩ = some (.bool en) := Nf.blk_cell (i := 0) HIn.out.scell rfl
          have s1 : wr.cell? ⟨sx, 1, none⟩ = some (.slice no nl.length ncap) := Nf.blk_cell (i := 1) HIn.out.scell rfl
          have Hrn : Hid (wr.ownsRow w0.heap.size 3 1 (.slice no nl.length ncap) nl.length (nl.map Nf.num)) := Sp.hid (Nf.own_base hnown Hbase.out)
          have hdone := HSe2.out.done_more (r := (en, (⟨.slice no nl.length ncap, nl⟩ : Nf.NRow))) (l := xl) (Lf := Lf) (by
            obtain ⟨M, hM⟩ := HM.out
            have h1 := Hxe.out
            have h2 : (Nf.nlists els)[rows.length]? = some xl := by
              rw [← Hkr.out]
              unfold Nf.nlists
              rw [List.getElem?_map, h1]
              rfl
            rw [hM, List.getElem?_append_left (List.getElem?_eq_some_iff.1 h2).1]
            exact h2) (fun y hy => by
            rw [Hsig.out] at hy
            obtain ⟨h1, h2⟩ := HLf.out y hy
            exact ⟨h1.lt, fun s hs q => (h2 q).trans (Nf.t2_all HG.out hs xl q)⟩) (fun y hy => by
            rw [Hsig.out, ← hxe] at hy
            exact Hgd.out y hy) Hnlx.out (by rw [← Hen.out, Nf.any_bl])
          have Hdone := Sp.hid hdone
          have HSbw := Sp.hid hsb
          have Hsown := Sp.hid (hsb.sown.alloc (.cells #[.bool en, .slice no nl.length ncap] 90))
          have hbw := hsb.nums.below.size
          have hrl : rows.length ≤ 3000 := by rw [← Hkr.out]; omega
          have hwz : w0.heap.size ≤ (wr.alloc (.cells #[.bool en, .slice no nl.length ncap] 90)).heap.size := by simp; omega
          have hpe2 : 0 < els2.length := by have := HSe2.out.pos; simpa [Nf.nlists] using this
          have hlo2 := hsb.nums.lown
          obtain ⟨lg2, lcap2, rfl⟩ := Nf.own_form hlo2 hpe2
          have Hx := Sp.hid hxe
          clear hxe hsb hnown hdone hlo2 hpe2
          go_wp2_with (at_builtin; refine Nf.push_sub rfl _ _ rfl w0.heap.size u9 rows rfl Hsown.out (en, (⟨.slice no nl.length ncap, nl⟩ : Nf.NRow)) rfl wr.heap.size 1 rfl ?c1 ?c2 ?c3 ?_)
          case c1 =>
            have h := Nf.Below.heap_new wr (.cells #[.bool en, .slice no nl.length ncap] 90)
            first | exact h | exact (Array.getElem?_eq_some_iff.1 h).2
          case c2 => omega
          case c3 => exact hwz
          intro v7 w7 hown7 hg7 hat7
          have hsb7 := HSbw.out.push (r := (en, (⟨.slice no nl.length ncap, nl⟩ : Nf.NRow))) Hrn.out hg7 (by simpa using hown7)
          have HSb7 := Sp.hid hsb7
          have e7 : w7.cell? ⟨lk, 0, none⟩ = some (.slice (some ⟨lg2, 0, none⟩) els2.length lcap2) := Nf.blk_cell (i := 0) hsb7.nums.lkb rfl
          clear hsb7 hown7 hg7 hat7 Hsown HSbw Hrn s0 s1 hwz hbw
          by_cases hgt : 3000 < els2.length
          · have hgi : (3000 : Int) < (els2.length : Int) := by omega
            clear hgt
            go_wp2_with fail
            go_ret2
            exact ⟨.inl rfl, HSb7.out.nums.below⟩
          · have hgi : ¬ (3000 : Int) < (els2.length : Int) := by omega
            have hgt2 : els2.length ≤ 3000 := by omega
            have Hke : Hid (k + 1 ≤ els2.length) := Sp.hid (by
              obtain ⟨M, hM⟩ := HM.out
              have h1 := congrArg List.length hM
              simp [Nf.nlists] at h1
              omega)
            clear hgt
            go_wp2_with fail
            go_roundw
            case rel => exact ⟨k + 1, els2, _, rows ++ [(en, (⟨.slice no nl.length ncap, nl⟩ : Nf.NRow))], by go_num, by simp [Hkr.out], Hke.out, hgt2, HSb7, Hdone, Sp.hid (fun r hr => by
              rcases List.mem_append.1 hr with hr | hr
              · exact Hnl.out r hr
              · simp at hr; subst hr; exact hnl40)⟩
            case measure => simp [intOf]; omega
    · have hkl : k = els.length := by omega
      have Hkl := Sp.hid hkl
      obtain ⟨B, bcap, hsv⟩ := Nf.own_form HSb.out.sown (by have h := Hkr.out; omega)
      have Hsv := Sp.hid hsv
      clear hkl hsv hlown
      go_wp2_with fail
      go_ret2
      refine ⟨.inr ⟨B, rows.length, bcap, Nf.rowNx rows, Nf.rowEn rows, Nf.SsOf (Nf.nlists els), (by rw [Hsv.out]; rfl), by have h1 := Hkl.out; have h2 := Hkr.out; omega, Nf.subs_at (by rw [← Hsv.out]; exact HSb.out.sown) HSb.out.nrow Hnl.out, ?_⟩, HSb.out.nums.below⟩
      have e : rows.length = (Nf.nlists els).length := by have h1 := Hkl.out; have h2 := Hkr.out; have h3 := Hnll.out; omega
      have h := HSe.out
      rw [e] at h ⊢
      exact Nf.subs_of h
end Go.Proofs.Ytnaojfhhjknejaa
