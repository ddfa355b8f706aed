/-
  The walk of the reference's Shortlex: the first words of a graph, in order.
-/
import Derived.Test.YtpoblcmjfcpiaaaGreatMgWk
import Derived.Test.YtpoblcmjfcpiaaaGreatMgReBf
import Derived.Test.YtpoblcmjfcpiaaaGreatMgAuY
import Derived.IntWalk
set_option linter.unusedVariables false
set_option linter.unusedSimpArgs false
namespace Go.Proofs.YtpoblcmjfcpiaaaGreat
open Go.RowKit
namespace Nf
theorem boolsInfo : (Tryz.prog.info? 59).map (fun i => (i.zero, i.size, i.bytes)) = some (some (.slice none 0 0), 1, 24) := by kernel_rfl
open Classical in
noncomputable def shlSpec (g : Gr) (most : Nat) : List (List ByteArray) × Bool × Bool :=
  if most < (upto g 61).length then ((upto g 61).take most, true, false) else if Lg g 61 0 ∧ (upto g 61).length < most then ([], false, true) else (upto g 61, bl (Lg g 61 0), false)
def ShlPost (g : Gr) (most : Nat) (w : World) (e : Ending) (w' : World) : Prop :=
  ∃ (bo : Option Addr) (m cap : Nat) (els : List Lst) (more long : Bool), e = .returned (.tuple #[.slice bo m cap, .bool more, .bool long]) ∧ Sp.RowE w' bo m els ∧ Below w.heap.size w w' ∧ (Sp.lists els, more, long) = shlSpec g most
theorem shl_first (g : Gr) (most : Nat) : firstSpec g most = ((shlSpec g most).1, (shlSpec g most).2.1, if (shlSpec g most).2.2 = true then 3 else 0) := by
  unfold firstSpec shlSpec
  by_cases h1 : most < (upto g 61).length
  · rw [if_pos h1, if_pos h1]; rfl
  · rw [if_neg h1, if_neg h1]
    by_cases h2 : Lg g 61 0 ∧ (upto g 61).length < most
    · rw [if_pos h2, if_pos h2]; rfl
    · rw [if_neg h2, if_neg h2]; rfl
theorem BoolsT.ofV {w : World} {hb cp N : Nat} {S : Nat → Prop} (h : Vec Value.bool w hb 4 cp N (fun i => bl (S i))) : BoolsT w hb N S := by
  obtain ⟨cur, h1, _⟩ := id h
  exact ⟨⟨cur, _, h1⟩, fun q hq => h.cell hq⟩
theorem LsAt.rowE {w : World} {base xb eb db N most : Nat} {EX : Value} {els : List Lst} {ao : Option Addr} {n cap : Nat} (h : LsAt w base xb eb db N EX most els (.slice ao n cap)) (hl : els.length ≤ maxLen) {m : Nat} (hm : m ≤ els.length) : Sp.RowE w ao m (els.take m) ∧ n = els.length ∧ els.length ≤ cap := by
  obtain ⟨ao', cap', hv, hseq, hc⟩ := seq_of_own (en := Lst.val) h.lown hl
  cases hv
  refine ⟨⟨by rw [List.length_take]; omega, by omega, fun h0 => ?_, fun x hx => ?_⟩, rfl, hc⟩
  · obtain ⟨b, off, e, hcc⟩ := hseq.2.2 (by omega)
    refine ⟨b, off, e, fun i x hx => hcc i x ?_⟩
    rw [List.getElem?_take] at hx
    split at hx
    · exact hx
    · cases hx
  · exact (h.lrow x (List.mem_of_mem_take hx)).1
/-- The table of marks that grows. -/
def ExRow (w : World) (base : Nat) (EX : Value) (k N : Nat) (g : Gr) : Prop :=
  ∃ (mb cp : Nat → Nat), w.ownsRow base 59 1 EX k ((List.range k).map fun i => .slice (some ⟨mb i, 0, none⟩) N (cp i)) ∧ ∀ i, i < k → BoolsT w (mb i) N (Ex g i)
theorem ExRow.tl {w w' : World} {base b k N : Nat} {EX : Value} {g : Gr} (h : ExRow w base EX k N g) (t : TL b w w') : ExRow w' base EX k N g := by
  obtain ⟨mb, cp, h1, h2⟩ := h
  exact ⟨mb, cp, t.own h1 (by unfold KindL; decide), fun i hi => t.bools (h2 i hi)⟩
theorem BoolsT.far {w : World} {hb N : Nat} {S : Nat → Prop} (h : BoolsT w hb N S) {a : Addr} {cs : Array Value} {t : TypeId} {f : Nat × Nat} (ha : w.heap[a.block]? = some (.cells cs t f)) (hn : 4 ≠ t) (u : Value) : BoolsT (w.setCell a u) hb N S := by
  obtain ⟨⟨cur, fr, h1⟩, h2⟩ := h
  have h3 := blk_far h1 (a := a) (blk_ne h1 ha hn) u
  refine ⟨⟨cur, fr, h3⟩, fun q hq => ?_⟩
  rw [← h2 q hq]
  simp [World.cell?, h1, h3]
theorem BoolsT.grownT {w w' : World} {hb N : Nat} {S : Nat → Prop} (h : BoolsT w hb N S) {b size n : Nat} {e : TypeId} {v : Value} {xs : List Value} (hr : w.ownsRow b e size v n xs) (hn : e ≠ 4) (hg : w.grownBy w' v.ownBlock) : BoolsT w' hb N S := by
  obtain ⟨⟨cur, fr, h1⟩, h2⟩ := h
  have h3 := blk_grown h1 hg (own_ne hr h1 hn)
  refine ⟨⟨cur, fr, h3⟩, fun q hq => ?_⟩
  rw [← h2 q hq]
  simp [World.cell?, h1, h3]
/-- One row of marks appended to the table. -/
theorem push_marks {w : World} {ops : Array Oper} {rest : List Oper} {o : Oper} {a : Act} {Q : Exit → Act → World → Prop} (hgd : o.guard = none) (s x : Operand)
    (ho : o.op = .call { callee := .builtin .append, args := #[s, x], argTypes := #[112, 112] })
    (base : Nat) (v : Value) (L : List Value) (k : Nat) (hs : a.eval s = v) (hown : w.ownsRow base 59 1 v k L)
    (q : Value) (hq1 : q.oneCell' = true) (ad : Addr) (c : Nat) (hx : a.eval x = .slice (some ad) 1 c) (hc : w.cell? ad = some q) (hbig : k ≤ 1000000) (hbase : base ≤ w.heap.size)
    (h : ∀ tb cap w', w'.ownsRow base 59 1 (.slice (some ⟨tb, 0, none⟩) (k + 1) cap) (k + 1) (L ++ [q]) → w.grownBy w' v.ownBlock → wpList Tryz.prog ops Q rest (a.put o.dst (.slice (some ⟨tb, 0, none⟩) (k + 1) cap)) w') : wpList Tryz.prog ops Q (o :: rest) a w := by
  obtain ⟨i0, hi, hz0, hz1, hz2⟩ := info_parts boolsInfo
  have hnews : ∀ j u, ([q])[j]? = some u → w.cell? (ad.add j) = some u := by
    intro j u hj
    match j, hj with
    | 0, hj =>
      simp at hj; subst hj
      have : ad.add 0 = ad := by unfold Addr.add; obtain ⟨b, o, sp⟩ := ad; cases sp <;> simp
      rw [this]; exact hc
  refine wpList_append_own_at w hgd s x 112 ho base 59 i0 (.slice none 0 0) 1 24 Tryz.underlying112 hi hz0 hz1 hz2 rfl (by decide) v _ _ hs hown ad 1 c [q] hx rfl hnews (fun u hu => by simp at hu; subst hu; exact hq1) (by unfold maxLen; omega) (by omega) hbase ?_
  intro v' w' hown' hgrow _ _
  rcases hown'.2 with ⟨rfl, h0⟩ | ⟨g, cap, cur, rfl, _⟩
  · omega
  · exact h g cap w' hown' hgrow
/-- The table grows by the marks of one number more; the lister's block tells it. -/
theorem LsAt.setEx {w w3 : World} {base xb eb db N most k mb cp : Nat} {EX EX' : Value} {els : List Lst} {lv : Value} {g : Gr} (h : LsAt w base xb eb db N EX most els lv) (hx : ExRow w base EX k N g) (hm : BoolsT w mb N (Ex g k)) (hg : w.grownBy w3 EX.ownBlock) (hown : w3.ownsRow base 59 1 EX' (k + 1) (((List.range k).map fun i => Value.slice (some ⟨hx.choose i, 0, none⟩) N (hx.choose_spec.choose i)) ++ [.slice (some ⟨mb, 0, none⟩) N cp])) :
    LsAt (w3.setCell ⟨xb, 3, none⟩ EX') base xb eb db N EX' most els lv ∧ ExRow (w3.setCell ⟨xb, 3, none⟩ EX') base EX' (k + 1) N g ∧ BoolsT (w3.setCell ⟨xb, 3, none⟩ EX') mb N (Ex g k) ∧ Below base w (w3.setCell ⟨xb, 3, none⟩ EX') := by
  obtain ⟨h1, h2⟩ := hx.choose_spec.choose_spec
  have o1 : EX.ownBlock ≠ some xb := own_ne h1 h.xblk (by decide)
  have a1 := blk_grown h.xblk hg o1
  have o2 : EX'.ownBlock ≠ some xb := own_ne hown a1 (by decide)
  have hl3 : w3.ownsRow base 22 1 lv els.length (els.map Lst.val) := h.lown.kept hg (own_own_ne h.lown h1 (by decide))
  have o3 : lv.ownBlock ≠ some xb := own_ne hl3 a1 (by decide)
  have keepT : ∀ (k : Nat) (cs : Array Value), w.heap[k]? = some (Obj.cells cs 9 (0, 0)) → (w3.setCell ⟨xb, 3, none⟩ EX').heap[k]? = some (Obj.cells cs 9 (0, 0)) := fun k cs hk => by
    have b1 := blk_grown hk hg (own_ne h1 hk (by decide))
    exact blk_far b1 (a := ⟨xb, 3, none⟩) (blk_ne b1 a1 (by decide)) _
  refine ⟨⟨?_, ?_, fun y hy => (h.lrow y hy).keep keepT, h.bxb, by have := hg.size; have := h.bw; simp [World.setCell]; omega⟩, ⟨fun i => if i < k then hx.choose i else mb, fun i => if i < k then hx.choose_spec.choose i else cp, ?_, fun i hi => ?_⟩, ?_, ?_⟩
  · have := blk_set (i := 3) a1 EX'
    simpa [lsCells] using this
  · exact own_far hl3 (a := ⟨xb, 3, none⟩) o3
  · have h3 := own_far (u := EX') hown (a := ⟨xb, 3, none⟩) o2
    have e : ((List.range (k + 1)).map fun i => Value.slice (some ⟨if i < k then hx.choose i else mb, 0, none⟩) N (if i < k then hx.choose_spec.choose i else cp)) = ((List.range k).map fun i => Value.slice (some ⟨hx.choose i, 0, none⟩) N (hx.choose_spec.choose i)) ++ [.slice (some ⟨mb, 0, none⟩) N cp] := by
      rw [List.range_succ, List.map_append]
      congr 1
      · apply List.map_congr_left
        intro i hi
        have := List.mem_range.1 hi
        simp [this]
      · simp
    rw [e]
    exact h3
  · by_cases e : i < k
    · simp only [e, if_true]
      exact ((h2 i e).grownT h1 (by decide) hg).far a1 (by decide) _
    · have e2 : i = k := by omega
      subst e2
      simp only [Nat.lt_irrefl, if_false]
      exact (hm.grownT h1 (by decide) hg).far a1 (by decide) _
  · exact (hm.grownT h1 (by decide) hg).far a1 (by decide) _
  · exact ((Below.refl _ w).grown hg h.bw (fun k hk => (h1.lt k hk).1)).setCell (p := ⟨xb, 3, none⟩) h.bxb _
end Nf
end Go.Proofs.YtpoblcmjfcpiaaaGreat

/-
  The walk of the reference's Shortlex.
-/
set_option linter.unusedVariables false
set_option linter.unusedSimpArgs false
namespace Go.Proofs.YtpoblcmjfcpiaaaGreat
open Go.RowKit
set_option maxHeartbeats 16000000 in
set_option maxRecDepth 100000 in
theorem shortlex_any (w : World) (eb db most : Nat) (R : Nat → List (ByteArray × Nat)) (g : Nf.Gr) (hG : Nf.RfAt w eb db R g) (hmost : most ≤ 1000) :
    Calls Tryz.prog 45 #[Nf.rfVal eb db g.N, .int .i64 (most : Int)] w (Nf.ShlPost g most w) := by
  have hp : Nf.ShlPost g most w = fun e w' => ∃ (bo : Option Addr) (m cap : Nat) (els : List Lst) (more long : Bool), e = .returned (.tuple #[.slice bo m cap, .bool more, .bool long]) ∧ Sp.RowE w' bo m els ∧ Below w.heap.size w w' ∧ (Sp.lists els, more, long) = Nf.shlSpec g most := rfl
  rw [hp]
  obtain ⟨i0, hi, hz0, hz1, hz2⟩ := info_parts Nf.boolsInfo
  have hN := hG.small
  have hN0 := hG.ok.pos
  have HG := Sp.hid hG
  have HOk := Sp.hid hG.ok
  have HRd : Hid (∀ w2 : World, Below w.heap.size w w2 → Calls Tryz.prog 61 #[Nf.rfVal eb db g.N] w2 (Nf.RdPost g.N R w2)) := Sp.hid (fun w2 hb => reversed_any w2 eb db R g (hG.below hb))
  have HSt : Hid (∀ w2 : World, Below w.heap.size w w2 → Calls Tryz.prog 62 #[Nf.rfVal eb db g.N] w2 (Nf.AscPost g.N (Nf.Beg g) w2)) := Sp.hid (fun w2 hb => start_any w2 eb db R g (hG.below hb))
  have HLo : Hid (∀ w2 : World, Below w.heap.size w w2 → Calls Tryz.prog 43 #[Nf.rfVal eb db g.N, .int .i64 61] w2 (fun e w' => e = .returned (.bool (Nf.bl (Nf.Lg g 61 0))) ∧ Below w2.heap.size w2 w')) := Sp.hid (fun w2 hb => isLonger_any w2 eb db 61 R g (hG.below hb) (by omega))
  have Hbef : Hid (∀ (T : Nat → List (ByteArray × Nat)) (S : Nat → Prop) (q : Nat), q < g.N → Nf.RelT R g.N T → ((∃ p, p < g.N ∧ (∃ s, s < g.N ∧ S s ∧ ∃ x, x ≠ Nf.eps ∧ (x, p) ∈ T s) ∧ Nf.Star (Nf.Rel [Nf.tabOf Nf.isEps T]) p q) ↔ Nf.Before g S q)) := Sp.hid (fun T S q hq hT => Nf.before_iff hG hT S q hq)
  have Hfin : Hid (∀ (T : Nat → List (ByteArray × Nat)) (q : Nat), Nf.RelT R g.N T → ((∃ p, p < g.N ∧ p ∈ g.ends ∧ Nf.Star (Nf.Rel [Nf.tabOf Nf.isEps T]) p q) ↔ Nf.Ex g 0 q)) := Sp.hid (fun T q hT => by
    have key := fun a b => Nf.star_tabOf (ask := Nf.isEps) (R := T) (E' := fun a b => (Nf.eps, b) ∈ T a) (fun a b => by
      constructor
      · intro h; exact ⟨(Nf.eps, b), h, by simp [Nf.isEps, show Nf.eps.size = 0 from rfl], rfl⟩
      · rintro ⟨⟨x, b'⟩, h1, h2, rfl⟩
        have hz : x.size = 0 := by simpa [Nf.isEps] using h2
        have e : x = Nf.eps := Nf.size_eps.1 hz
        subst e
        exact h1) (p := a) (q := b)
    have e1 : ∀ a b, (Nf.eps, b) ∈ T a → Nf.E g b a := fun a b h => (hG.ed_iff _ _ _).1 ((hT a Nf.eps b).1 h).2
    have e2 : ∀ a b, Nf.E g a b → (Nf.eps, a) ∈ T b := fun a b h => (hT b Nf.eps a).2 ⟨hG.ok.from_ _ h, (hG.ed_iff _ _ _).2 h⟩
    constructor
    · rintro ⟨p, h1, h2, h3⟩; exact ⟨p, h2, Nf.Star.rev e1 ((key p q).1 h3)⟩
    · rintro ⟨p, h1, h2⟩; exact ⟨p, hG.ok.end_ p h1, h1, (key p q).2 (Nf.Star.rev e2 h2)⟩)
  have Hlt : Hid (∀ (T : Nat → List (ByteArray × Nat)) (p : Nat) (x : ByteArray × Nat), Nf.RelT R g.N T → x ∈ T p → x.2 < g.N) := Sp.hid (fun T p x hT hx => ((hT p x.1 x.2).1 hx).1)
  have HE := Sp.hid hG.ends.2
  clear hp hG
  obtain ⟨N, hNe⟩ : ∃ N, g.N = N := ⟨_, rfl⟩
  have HNe := Sp.hid hNe
  rw [hNe] at hN hN0 HRd HSt HLo Hbef Hfin Hlt HE
  rw [hNe]
  unfold Nf.rfVal at *
  obtain ⟨w1, hw1⟩ : ∃ w1, w.alloc (.cells #[.int .i64 0, .slice (some ⟨eb, 0, none⟩) N N, .slice (some ⟨db, 0, none⟩) N N] 71) = w1 := ⟨_, rfl⟩
  have hgb : w1.heap[w.heap.size]? = some (.cells #[.int .i64 0, .slice (some ⟨eb, 0, none⟩) N N, .slice (some ⟨db, 0, none⟩) N N] 71 (0, 0)) := by rw [← hw1]; exact Nf.Below.heap_new _ _
  have hbw : Below w.heap.size w w1 := by rw [← hw1]; exact (Below.refl _ w).alloc (Nat.le_refl _) _
  have hnz : ((N : Int) == 0) = false := by simp; omega
  have c1 : (w.alloc (.cells #[.int .i64 0, .slice (some ⟨eb, 0, none⟩) N N, .slice (some ⟨db, 0, none⟩) N N] 71)).cell? ⟨w.heap.size, 1, none⟩ = some (.slice (some ⟨eb, 0, none⟩) N N) := by rw [hw1]; exact Nf.blk_cell (i := 1) hgb rfl
  have Hgb := Sp.hid hgb
  have Hbw := Sp.hid hbw
  have Hw1 := Sp.hid hw1
  have HR1 := Sp.hid (HRd.out w1 hbw)
  clear hgb hbw hw1 hNe
  go_enter Tryz.func45, Tryz.ntmps45
  go_wp2_with fail
  rw [Hw1.out]
  refine HR1.out.mono ?_
  rintro e w2 ⟨tb1, V, T, rfl, hrows, hT, hlen, hb2⟩
  have hblk2 := Nf.blk_below Hgb.out hb2 (Nf.blk_lt Hgb.out)
  have hbw2 := Hbw.out.trans (hb2.mono Hbw.out.size)
  have Hrows := Sp.hid hrows
  have HT := Sp.hid hT
  have Hlen := Sp.hid hlen
  have Hblk2 := Sp.hid hblk2
  have Hb2 := Sp.hid hbw2
  have HE2 := Sp.hid (HE.out.below hbw2)
  have d2 : w2.cell? ⟨w.heap.size, 2, none⟩ = some (.slice (some ⟨db, 0, none⟩) N N) := Nf.blk_cell (i := 2) hblk2 rfl
  clear hrows hT hlen hb2 hblk2 c1 hnz hbw2
  go_wp2_with (first
    | (at_builtin; refine Nf.app_bools rfl _ _ rfl rfl db N rfl _ HE2.out hN hN0 ?_)
    | fail)
  intro hb cp w3 hv3 hge3 hb3
  have HSp := Sp.hid (spreadE_any w3 w1.heap.size tb1 hb cp N V T (· ∈ g.ends) hN (Hrows.out.below hb3) hv3 Hlen.out (fun p x hx => Hlt.out T p x HT.out hx))
  have Hb3 := Sp.hid hb3
  have Hge3 := Sp.hid hge3
  clear hv3 hge3 hb3 d2
  go_wp2_with fail
  refine HSp.out.mono ?_
  rintro e w4 ⟨rfl, L9, hL9, hv4, hg4⟩
  have hb24 : Below w2.heap.size w2 w4 := Hb3.out.grown hg4 Hb3.out.size (fun k hk => by cases hk; exact Hge3.out)
  have HM4 : Hid (Nf.BoolsT w4 hb N (Nf.Ex g 0)) := Sp.hid (Nf.BoolsT.ofV (hv4.congr fun i hi => by
    rw [Nf.bl_decide]
    exact Nf.bl_congr ((hL9 i).trans (Hfin.out T i HT.out))))
  have hblk4 := Nf.blk_below Hblk2.out hb24 (Nf.blk_lt Hblk2.out)
  have Hblk4 := Sp.hid hblk4
  have Hrows4 := Sp.hid (Hrows.out.below hb24)
  have Hb4 := Sp.hid (Hb2.out.trans (hb24.mono Hb2.out.size))
  have d0 : w4.cell? ⟨w.heap.size, 0, none⟩ = some (.int .i64 0) := Nf.blk_cell (i := 0) hblk4 rfl
  have d1 : w4.cell? ⟨w.heap.size, 1, none⟩ = some (.slice (some ⟨eb, 0, none⟩) N N) := Nf.blk_cell (i := 1) hblk4 rfl
  have d2 : w4.cell? ⟨w.heap.size, 2, none⟩ = some (.slice (some ⟨db, 0, none⟩) N N) := Nf.blk_cell (i := 2) hblk4 rfl
  have hls : Nf.LsAt (w4.alloc (.cells (Nf.lsCells eb db N (.slice none 0 0) most (.slice none 0 0)) 116)) w4.heap.size w4.heap.size eb db N (.slice none 0 0) most [] (.slice none 0 0) :=
    ⟨Nf.Below.heap_new _ _, World.ownsRow_nil _ _ _ _, by simp, Nat.le_refl _, by simp⟩
  have hb45 := (Below.refl w4.heap.size w4).alloc (Nat.le_refl _) (.cells (Nf.lsCells eb db N (.slice none 0 0) most (.slice none 0 0)) 116)
  obtain ⟨w5, hw5⟩ : ∃ w5, w4.alloc (.cells (Nf.lsCells eb db N (.slice none 0 0) most (.slice none 0 0)) 116) = w5 := ⟨_, rfl⟩
  have hw5' : w4.alloc (.cells #[.int .i64 0, .slice (some ⟨eb, 0, none⟩) N N, .slice (some ⟨db, 0, none⟩) N N, .slice none 0 0, .int .i64 (most : Int), .slice none 0 0] 116) = w5 := hw5
  obtain ⟨xb, hxb⟩ : ∃ xb, w4.heap.size = xb := ⟨_, rfl⟩
  rw [hw5] at hls hb45
  have Hxb := Sp.hid hxb
  have Hw5 := Sp.hid hw5'
  have hblk5 := Nf.blk_below hblk4 hb45 (Nf.blk_lt hblk4)
  have Hblk5 := Sp.hid hblk5
  have HLs5 : Hid (Nf.LsAt w5 w4.heap.size xb eb db N (.slice none 0 0) most [] (.slice none 0 0)) := Sp.hid (by rw [← hxb]; exact hls)
  have Hb45 := Sp.hid hb45
  have HSt5 := HSt.out w5 (Hb4.out.trans (hb45.mono Hb4.out.size))
  have hAsc : Nf.AscPost N (Nf.Beg g) w5 = fun e w' => ∃ v L, e = .returned v ∧ w'.ownsRow w5.heap.size 3 1 v (List.length L) (L.map Nf.num) ∧ Nf.Pool N L ∧ L.Pairwise (· < ·) ∧ (∀ q, q ∈ L ↔ Nf.Beg g q) ∧ Below w5.heap.size w5 w' := rfl
  rw [hAsc] at HSt5
  have HSt5 := Sp.hid HSt5
  have e0 : w5.cell? ⟨w.heap.size, 0, none⟩ = some (.int .i64 0) := Nf.blk_cell (i := 0) hblk5 rfl
  have e1 : w5.cell? ⟨w.heap.size, 1, none⟩ = some (.slice (some ⟨eb, 0, none⟩) N N) := Nf.blk_cell (i := 1) hblk5 rfl
  have e2 : w5.cell? ⟨w.heap.size, 2, none⟩ = some (.slice (some ⟨db, 0, none⟩) N N) := Nf.blk_cell (i := 2) hblk5 rfl
  obtain ⟨lc, hlc⟩ : ∃ lc : Array Value, #[.int .i64 0, .slice (some ⟨eb, 0, none⟩) N N, .slice (some ⟨db, 0, none⟩) N N, .slice none 0 0, .int .i64 (most : Int), .slice none 0 0] = lc := ⟨_, rfl⟩
  have g0 : (w4.alloc (.cells #[.int .i64 0, .slice (some ⟨eb, 0, none⟩) N N, .slice (some ⟨db, 0, none⟩) N N, .slice none 0 0, .int .i64 (most : Int), .slice none 0 0] 116)).cell? ⟨w.heap.size, 0, none⟩ = some (.int .i64 0) := by rw [hw5']; exact e0
  have g1 : (w4.alloc (.cells #[.int .i64 0, .slice (some ⟨eb, 0, none⟩) N N, .slice (some ⟨db, 0, none⟩) N N, .slice none 0 0, .int .i64 (most : Int), .slice none 0 0] 116)).cell? ⟨w.heap.size, 1, none⟩ = some (.slice (some ⟨eb, 0, none⟩) N N) := by rw [hw5']; exact e1
  have g2 : (w4.alloc (.cells #[.int .i64 0, .slice (some ⟨eb, 0, none⟩) N N, .slice (some ⟨db, 0, none⟩) N N, .slice none 0 0, .int .i64 (most : Int), .slice none 0 0] 116)).cell? ⟨w.heap.size, 2, none⟩ = some (.slice (some ⟨db, 0, none⟩) N N) := by rw [hw5']; exact e2
  clear hlc lc hL9 hv4 hg4 hb24 hblk4 hls hb45 hw5 hw5' hxb hblk5 hAsc
  go_wp2_with fail
  rw [Hw5.out]
  rw [Hxb.out]
  clear g0 g1 g2
  first | (refine HSt5.out.mono ?_) | (go_wp2_with fail; refine HSt5.out.mono ?_)
  rintro e w6 ⟨sv, L0, rfl, hown6, hpl6, _, hmem6, hb6⟩
  have hll := hpl6.len
  obtain ⟨so, scap, rfl, _, _⟩ := Nf.seq_of_own hown6 (by unfold maxLen; omega)
  have HLs6 := Sp.hid (HLs5.out.below hb6)
  have hb46 : Below w4.heap.size w4 w6 := Hb45.out.trans (hb6.mono Hb45.out.size)
  have HM6 := Sp.hid (HM4.out.below hb46)
  have Hb46 := Sp.hid hb46
  have Hown6 := Sp.hid hown6
  have Hpl6 := Sp.hid hpl6
  have Hmem6 := Sp.hid hmem6
  clear hown6 hpl6 hmem6 hb6 hb46 e0 e1 e2
  go_wp2_with fail
  go_loopw [8, 11] (fun mk i wr => ∃ (k mb cp : Nat) (EXv : Value) (els : List Lst) (lv : Value), mk = .slice (some ⟨mb, 0, none⟩) N cp ∧ i = .int .i64 k ∧ k ≤ 61 ∧ Hid (Nf.LsAt wr w4.heap.size xb eb db N EXv most els lv) ∧ Hid (Nf.ExRow wr w4.heap.size EXv k N g) ∧ Hid (Nf.BoolsT wr mb N (Nf.Ex g k)) ∧ Hid (Below w4.heap.size w4 wr) ∧ Hid (wr.ownsRow w5.heap.size 3 1 (.slice so L0.length scap) L0.length (L0.map Nf.num)) ∧ Hid (Sp.lists els = Nf.upto g k ∧ els.length ≤ most)) (fun _ i _ => 61 - (intOf i).toNat)
  case atStart => exact ⟨0, hb, cp, .slice none 0 0, [], .slice none 0 0, rfl, rfl, by omega, HLs6, Sp.hid ⟨fun _ => 0, fun _ => 0, World.ownsRow_nil _ _ _ _, fun i hi => by omega⟩, HM6, Hb46, Hown6, Sp.hid ⟨by simp [Nf.upto, Sp.lists], by simp⟩⟩
  case round =>
    obtain ⟨k, mb, cpm, EXv, els, lv, rfl, rfl, hk, HL, HX, HM, Hb, Hst, Hlist⟩ := hrel
    have hel := Hlist.out.2
    by_cases hk6 : k < 61
    · have hle : (k : Int) ≤ 60 := by omega
      have hx1 := HX.out.choose_spec.choose_spec.1
      obtain ⟨exo, excap, rfl, _, _⟩ := Nf.seq_of_own (xs := List.range k) (by rw [List.length_range]; exact hx1) (by rw [List.length_range]; unfold maxLen; omega)
      rw [List.length_range] at HL HX
      have y3 : wr.cell? ⟨xb, 3, none⟩ = some (.slice exo k excap) := Nf.blk_cell (i := 3) HL.out.xblk rfl
      have hlp := (Below.refl wr.heap.size wr).alloc (Nat.le_refl _) (.cells #[.slice (some ⟨mb, 0, none⟩) N cpm] 59)
      have htp := Nf.TL.of_below (base := w4.heap.size) hlp HL.out.bw
      have HLp := Sp.hid (HL.out.below hlp)
      have HXp := Sp.hid (HX.out.tl htp)
      have HMp := Sp.hid (HM.out.below hlp)
      have HSp2 := Sp.hid (Hst.out.alloc (.cells #[.slice (some ⟨mb, 0, none⟩) N cpm] 59))
      have Hbp := Sp.hid (Hb.out.trans (hlp.mono HL.out.bw))
      have hbw2 : w4.heap.size ≤ (wr.alloc (.cells #[.slice (some ⟨mb, 0, none⟩) N cpm] 59)).heap.size := HLp.out.bw
      have hcq : (wr.alloc (.cells #[.slice (some ⟨mb, 0, none⟩) N cpm] 59)).cell? ⟨wr.heap.size, 0, none⟩ = some (.slice (some ⟨mb, 0, none⟩) N cpm) := Nf.blk_cell (i := 0) (Nf.Below.heap_new wr _) rfl
      have Hcq := Sp.hid hcq
      clear hx1 hlp htp hcq
      go_wp2_with (first
        | (at_builtin; refine Nf.push_marks rfl _ _ rfl w4.heap.size (.slice exo k excap) _ k rfl HXp.out.choose_spec.choose_spec.1 (.slice (some ⟨mb, 0, none⟩) N cpm) rfl ⟨wr.heap.size, 0, none⟩ 1 rfl ?c1 (by omega) ?c3 ?_)
        | fail)
      case c1 => exact Hcq.out
      case c3 => first | exact hbw2 | simpa using hbw2
      intro tb tcap w7 hown7 hg7
      obtain ⟨q1, q2, q3, q4⟩ := HLp.out.setEx HXp.out HMp.out hg7 hown7
      have o1 : (Value.slice exo k excap).ownBlock ≠ some xb := Nf.own_ne HXp.out.choose_spec.choose_spec.1 HLp.out.xblk (by decide)
      have a1 := Nf.blk_grown HLp.out.xblk hg7 o1
      have m3 : w7.cell? ⟨xb, 3, none⟩ = some (.slice exo k excap) := Nf.blk_cell (i := 3) a1 rfl
      have mf : w7.frozen? ⟨xb, 3, none⟩ = false := Nf.blk_free (i := 3) a1
      have hs7 := HSp2.out.kept hg7 (Nf.own_own_ne HSp2.out HXp.out.choose_spec.choose_spec.1 (by decide))
      have HS8 := Sp.hid (Nf.own_far (u := .slice (some ⟨tb, 0, none⟩) (k + 1) tcap) hs7 (a := ⟨xb, 3, none⟩) (Nf.own_ne hs7 a1 (by decide)))
      have HL8 := Sp.hid q1
      have HX8 := Sp.hid q2
      have HM8 := Sp.hid q3
      have Hb8 := Sp.hid (Hbp.out.trans q4)
      clear q1 q2 q3 q4 o1 a1 hs7 hown7 hg7 y3
      obtain ⟨w8, hw8⟩ : ∃ w8, w7.setCell ⟨xb, 3, none⟩ (.slice (some ⟨tb, 0, none⟩) (k + 1) tcap) = w8 := ⟨_, rfl⟩
      rw [hw8] at HS8 HL8 HX8 HM8 Hb8
      have Hw8 := Sp.hid hw8
      have HWk := Sp.hid (lwalk_any w4 xb eb db N most (k + 1) tb tcap R g (HG.out.below Hb4.out) HNe.out hmost (by omega) k (by omega) w8 els lv (.slice so L0.length scap) (.slice none 0 0) L0 (Nf.Beg g) [] w5.heap.size 0 HL8.out Hb8.out ⟨_, HX8.out.choose, HX8.out.choose_spec.choose, HX8.out.choose_spec.choose_spec.1, HX8.out.choose_spec.choose_spec.2⟩ HS8.out Hpl6.out Hmem6.out (World.ownsRow_nil _ _ _ _) (by simp; omega) (by simp) (by omega))
      clear hw8
      go_wp2_with fail
      rw [Hw8.out]
      go_wp2_with fail
      clear m3 mf Hw8
      refine HWk.out.mono ?_
      rintro e w9 ⟨rfl, els9, lv9, HL9, HT9, Hl9⟩
      have Hup : Hid (Sp.lists els9 = (Nf.upto g (k + 1)).take (most + 1)) := Sp.hid (by
        rw [Hl9.out, Hlist.out.1, Nf.upto_succ, Nf.W_Wk HOk.out]
        congr 2
        simp)
      have hln9 : els9.length ≤ most + 1 := by
        have h := congrArg List.length Hup.out
        rw [List.length_take] at h
        simp only [Sp.lists, List.length_map] at h
        omega
      obtain ⟨lo, lcap, rfl, _, hlcap⟩ := Nf.seq_of_own (en := Lst.val) HL9.out.lown (by unfold maxLen; omega)
      have y5 : w9.cell? ⟨xb, 5, none⟩ = some (.slice lo els9.length lcap) := Nf.blk_cell (i := 5) HL9.out.xblk rfl
      have Hb9 := Sp.hid (Hb8.out.trans HT9.out.below)
      by_cases hgt : most < els9.length
      · have i2 : (0 : Int) ≤ (most : Int) := by omega
        have i3 : (most : Int) ≤ (lcap : Int) := by omega
        have i4 : (most : Int) ≤ (most : Int) := by omega
        have Hrow := Sp.hid (HL9.out.rowE (by unfold maxLen; omega) (show most ≤ els9.length by omega)).1
        have HSpec : Hid ((Sp.lists (els9.take most), true, false) = Nf.shlSpec g most) := Sp.hid (by
          obtain ⟨r9, hr9⟩ := Nf.upto_prefix g (a := k + 1) (b := 61) (by omega)
          have h1 : most < (Nf.upto g (k + 1)).length := by
            have h := congrArg List.length Hup.out
            rw [List.length_take] at h
            simp only [Sp.lists, List.length_map] at h
            omega
          have h2 : Sp.lists (els9.take most) = (Nf.upto g (k + 1)).take most := by
            have h := congrArg (List.take most) Hup.out
            rw [List.take_take, Nat.min_eq_left (by omega)] at h
            rw [← h]
            simp [Sp.lists, List.map_take]
          unfold Nf.shlSpec
          rw [if_pos (by rw [hr9]; simp; omega), h2, hr9, List.take_append_of_le_length (by omega)])
        clear HL HX HM Hb Hst Hlist HLp HXp HMp HSp2 Hbp HS8 HL8 HX8 HM8 Hb8 HWk
        go_wp2_with fail
        go_ret3
        exact ⟨_, _, _, els9.take most, true, false, rfl, Hrow.out, Hb4.out.trans (Hb9.out.mono Hb4.out.size), HSpec.out⟩
      · have HM9 := Sp.hid (HT9.out.bools HM8.out)
        have HX9 := Sp.hid (HX8.out.tl HT9.out)
        have HS9 := Sp.hid (HT9.out.own HS8.out (by unfold Nf.KindL; decide))
        have HBf := Sp.hid (refBefore_any w9 w1.heap.size tb1 mb cpm N V T (Nf.Ex g k) hN (Hrows4.out.below Hb9.out) HM9.out.2 Hlen.out (fun p x hx => Hlt.out T p x HT.out hx))
        have Hfull : Hid (Sp.lists els9 = Nf.upto g (k + 1) ∧ els9.length ≤ most) := Sp.hid ⟨by
          have h := congrArg List.length Hup.out
          rw [List.length_take] at h
          simp only [Sp.lists, List.length_map] at h
          rw [Hup.out, List.take_of_length_le (by omega)], by omega⟩
        clear HL HX HM Hb Hst Hlist HLp HXp HMp HSp2 Hbp HS8 HL8 HX8 HM8 Hb8 HWk
        go_wp2_with fail
        refine HBf.out.mono ?_
        rintro e w10 ⟨ob, rfl, hv10, hb10⟩
        have HM10 : Hid (Nf.BoolsT w10 ob N (Nf.Ex g (k + 1))) := Sp.hid (Nf.BoolsT.ofV (hv10.congr fun q hq => Nf.bl_congr (Hbef.out T (Nf.Ex g k) q hq HT.out)))
        have ht10 := Nf.TL.of_below (base := w4.heap.size) hb10 HL9.out.bw
        have HL10 := Sp.hid (HL9.out.below hb10)
        have HX10 := Sp.hid (HX9.out.tl ht10)
        have HS10 := Sp.hid (ht10.own HS9.out (by unfold Nf.KindL; decide))
        have Hb10 := Sp.hid (Hb9.out.trans ht10.below)
        clear hv10 hb10 ht10
        go_wp2_with fail
        go_roundw
        case rel => exact ⟨k + 1, ob, N, _, els9, _, rfl, by go_num, by omega, HL10, HX10, HM10, Hb10, HS10, Hfull⟩
        case measure => simp [intOf]; omega
    · have hk61 : k = 61 := by omega
      have hle : ¬ (k : Int) ≤ 60 := by omega
      have hup : Sp.lists els = Nf.upto g 61 := by rw [Hlist.out.1, hk61]
      have hul : (Nf.upto g 61).length = els.length := by rw [← hup]; simp [Sp.lists]
      have Hup := Sp.hid hup
      have Hul := Sp.hid hul
      obtain ⟨lo, lcap, rfl, _, hlcap⟩ := Nf.seq_of_own (en := Lst.val) HL.out.lown (by unfold maxLen; omega)
      have hblk := Nf.blk_below Hblk4.out Hb.out (Nf.blk_lt Hblk4.out)
      have e0 : wr.cell? ⟨w.heap.size, 0, none⟩ = some (.int .i64 0) := Nf.blk_cell (i := 0) hblk rfl
      have e1 : wr.cell? ⟨w.heap.size, 1, none⟩ = some (.slice (some ⟨eb, 0, none⟩) N N) := Nf.blk_cell (i := 1) hblk rfl
      have e2 : wr.cell? ⟨w.heap.size, 2, none⟩ = some (.slice (some ⟨db, 0, none⟩) N N) := Nf.blk_cell (i := 2) hblk rfl
      have Hbr := Sp.hid (Hb4.out.trans (Hb.out.mono Hb4.out.size))
      have HLg := Sp.hid (HLo.out wr Hbr.out)
      clear hk61 hup hul hblk
      go_wp2_with fail
      refine HLg.out.mono ?_
      rintro e w7 ⟨rfl, hb7⟩
      have HL7 := Sp.hid (HL.out.below hb7)
      have Hb7 := Sp.hid (Hbr.out.trans (hb7.mono Hbr.out.size))
      have y5 : w7.cell? ⟨xb, 5, none⟩ = some (.slice lo els.length lcap) := Nf.blk_cell (i := 5) HL7.out.xblk rfl
      have Hrow := Sp.hid (HL7.out.rowE (by unfold maxLen; omega) (Nat.le_refl els.length)).1
      clear hb7 e0 e1 e2
      by_cases hlg : Nf.Lg g 61 0
      · by_cases hlt : els.length < most
        · have HSpec : Hid (([], false, true) = Nf.shlSpec g most) := Sp.hid (by
            unfold Nf.shlSpec
            rw [if_neg (by rw [Hul.out]; omega), if_pos ⟨hlg, by rw [Hul.out]; exact hlt⟩])
          rw [Nf.bl_true hlg]
          clear hlg
          go_wp2_with fail
          go_ret3
          exact ⟨none, 0, 0, [], false, true, rfl, Nf.rowE_nil _, Hb7.out, HSpec.out⟩
        · have HSpec : Hid ((Sp.lists (els.take els.length), true, false) = Nf.shlSpec g most) := Sp.hid (by
            unfold Nf.shlSpec
            rw [if_neg (by rw [Hul.out]; omega), if_neg (fun h => hlt (by rw [← Hul.out]; exact h.2)), Nf.bl_true hlg, List.take_length, Hup.out])
          rw [Nf.bl_true hlg]
          clear hlg
          go_wp2_with fail
          go_ret3
          exact ⟨_, _, _, els.take els.length, true, false, rfl, Hrow.out, Hb7.out, HSpec.out⟩
      · have HSpec : Hid ((Sp.lists (els.take els.length), false, false) = Nf.shlSpec g most) := Sp.hid (by
          unfold Nf.shlSpec
          rw [if_neg (by rw [Hul.out]; omega), if_neg (fun h => hlg h.1), Nf.bl_false hlg, List.take_length, Hup.out])
        rw [Nf.bl_false hlg]
        clear hlg
        go_wp2_with fail
        go_ret3
        exact ⟨_, _, _, els.take els.length, false, false, rfl, Hrow.out, Hb7.out, HSpec.out⟩
end Go.Proofs.YtpoblcmjfcpiaaaGreat
