/-
  The walk of first: the first words, and whether there are more.
-/
import Derived.Test.YtnaojfhhjknejaaMgAuX
set_option linter.unusedVariables false
set_option linter.unusedSimpArgs false
namespace Go.Proofs.Ytnaojfhhjknejaa
open Go.RowKit
namespace Nf
open Classical in
/-- The first words, whether there are more, and the error. -/
noncomputable def firstSpec (g : Gr) (most : Nat) : List (List ByteArray) × Bool × Int :=
  if most < (upto g 61).length then ((upto g 61).take most, true, 0) else if Lg g 61 0 ∧ (upto g 61).length < most then ([], false, 3) else (upto g 61, bl (Lg g 61 0), 0)
/-- How long a row is. -/
def rowLen : Value → Nat
  | .slice _ n _ => n
  | _ => 0
def FirstPost (g : Gr) (most : Nat) (w : World) (e : Ending) (w' : World) : Prop :=
  ∃ (bo : Option Addr) (m cap : Nat) (els : List Lst) (more : Bool) (er : Int), e = .returned (.tuple #[.slice bo m cap, .bool more, .int .i64 er]) ∧ Sp.RowE w' bo m els ∧ Below w.heap.size w w' ∧ (Sp.lists els, more, er) = firstSpec g most
theorem upto_prefix (g : Gr) {a b : Nat} (h : a ≤ b) : ∃ r, upto g b = upto g a ++ r := by
  induction b with
  | zero => have : a = 0 := by omega
            subst this; exact ⟨[], by simp⟩
  | succ b ih =>
    by_cases e : a = b + 1
    · subst e; exact ⟨[], by simp⟩
    · obtain ⟨r, hr⟩ := ih (by omega)
      exact ⟨r ++ W g b, by rw [upto_succ, hr, List.append_assoc]⟩
theorem LL.grown {w w' : World} {base cl cr : Nat} {els : List Lst} {lv : Value} (h : LL w base cl els lv) (hg : w.grownBy w' (some cr)) {cur : Array Value} (hcr : w.heap[cr]? = some (Obj.cells cur 47 (0, 0))) : LL w' base cl els lv := by
  refine ⟨blk_grown h.lvar hg ?_, h.lown.kept hg (.inr (own_ne h.lown hcr (by decide))), fun x hx => ?_, h.bcl, Nat.le_trans h.bw hg.size⟩
  · intro e; injection e with e; exact blk_ne h.lvar hcr (by decide) e.symm
  · obtain ⟨⟨h1, h2, h3, h4⟩, h5⟩ := h.lrow x hx
    by_cases h0 : 0 < x.n
    · obtain ⟨a, cs, ha, hb⟩ := h5 h0
      have hb' := blk_grown hb hg (fun e => by injection e with e; exact blk_ne hb hcr (by decide) e.symm)
      refine ⟨⟨h1, h2, fun hn => ?_, h4⟩, fun _ => ⟨a, cs, ha, hb'⟩⟩
      obtain ⟨b, off, e, hc⟩ := h3 hn
      rw [ha] at e
      injection e with e
      subst e
      exact ⟨b, off, ha, fun i hi => (World.cell?_of_block (a := ⟨b, off + i, none⟩) (hb'.trans hb.symm)).trans (hc i hi)⟩
    · exact ⟨⟨h1, h2, fun h => absurd h h0, h4⟩, fun h => absurd h h0⟩
theorem LL.rowE {w : World} {base cl : Nat} {els : List Lst} {ao : Option Addr} {n cap : Nat} (h : LL w base cl els (.slice ao n cap)) (hl : els.length ≤ maxLen) {m : Nat} (hm : m ≤ els.length) : Sp.RowE w ao m (els.take m) ∧ n = els.length ∧ n ≤ cap := by
  obtain ⟨ao', cap', e, hs, hc⟩ := seq_of_own (en := Lst.val) h.lown hl
  injection e with e1 e2 e3
  subst e1; subst e2; subst e3
  refine ⟨⟨by simp; omega, by omega, fun h0 => ?_, fun x hx => (h.lrow x (List.mem_of_mem_take hx)).1⟩, rfl, hc⟩
  obtain ⟨b, off, e, hcc⟩ := hs.2.2 (by omega)
  refine ⟨b, off, e, fun i x hi => hcc i x ?_⟩
  rw [List.getElem?_take] at hi
  split at hi
  · exact hi
  · cases hi
/-- The marks so far: a row of rows. -/
structure CanAt (w : World) (base cr ccap k N : Nat) (g : Gr) (cb : Nat → Nat) : Prop where
  own : w.ownsRow base 47 1 (.slice (some ⟨cr, 0, none⟩) (k + 1) ccap) (k + 1) ((List.range (k + 1)).map fun i => Value.slice (some ⟨cb i, 0, none⟩) N N)
  marks : ∀ i, i ≤ k → BoolsT w (cb i) N (Ex g i)
theorem CanAt.cur {w : World} {base cr ccap k N : Nat} {g : Gr} {cb : Nat → Nat} (h : CanAt w base cr ccap k N g cb) : ∃ cur : Array Value, w.heap[cr]? = some (Obj.cells cur 47 (0, 0)) ∧ ∀ i, i ≤ k → cur[i]? = some (Value.slice (some ⟨cb i, 0, none⟩) N N) := by
  rcases h.own.2 with ⟨e, _⟩ | ⟨g', cap, cur, e, hb, hg, _⟩
  · cases e
  · injection e with e1 _ _
    injection e1 with e1
    injection e1 with e1 _ _
    subst e1
    refine ⟨cur, hg, fun i hi => ?_⟩
    have := h.own.cells (g := cr) rfl i (Value.slice (some ⟨cb i, 0, none⟩) N N) (by rw [List.getElem?_map, List.getElem?_range (by omega)]; rfl)
    rw [plain_add, Nat.zero_add] at this
    simpa [World.cell?, hg] using this
theorem CanAt.below {w w' : World} {base cr ccap k N : Nat} {g : Gr} {cb : Nat → Nat} (h : CanAt w base cr ccap k N g cb) (hb : Below w.heap.size w w') : CanAt w' base cr ccap k N g cb := by
  have hgr : w.grownBy w' none := ⟨hb.os, hb.tape, hb.output, hb.size, fun k hk _ => hb.block k hk⟩
  refine ⟨h.own.kept hgr (by simp [Value.ownBlock]), fun i hi => ?_⟩
  obtain ⟨⟨c, fr, h1⟩, h2⟩ := h.marks i hi
  exact ⟨⟨c, fr, blk_below h1 hb (blk_lt h1)⟩, h2.below hb⟩
theorem CanAt.tf {w w' : World} {base cr ccap k N : Nat} {g : Gr} {cb : Nat → Nat} (h : CanAt w base cr ccap k N g cb) (t : TF base w w') : CanAt w' base cr ccap k N g cb :=
  ⟨own_tf h.own t (by unfold KindW; decide), fun i hi => (h.marks i hi).tf t⟩
theorem boolRowInfo2 : (Try.prog.info? 47).map (fun i => (i.zero, i.size, i.bytes)) = some (some (.slice none 0 0), 1, 24) := by kernel_rfl

/-- One row appended to the marks. -/
theorem push_can {w : World} {ops : Array Oper} {rest : List Oper} {o : Oper} {a : Act} {Q : Exit → Act → World → Prop} (hgd : o.guard = none) (s x : Operand)
    (ho : o.op = .call { callee := .builtin .append, args := #[s, x], argTypes := #[77, 77] })
    (base : Nat) (v : Value) (n : Nat) (L : List Value) (hs : a.eval s = v) (hown : w.ownsRow base 47 1 v n L)
    (q : Value) (b : Nat) (c : Nat) (hx : a.eval x = .slice (some ⟨b, 0, none⟩) 1 c) (hc : w.cell? ⟨b, 0, none⟩ = some q) (hq : q.oneCell' = true) (hbig : n ≤ 1000000) (hbase : base ≤ w.heap.size)
    (h : ∀ v' w', w'.ownsRow base 47 1 v' (n + 1) (L ++ [q]) → w.grownBy w' v.ownBlock → (v'.ownBlock = v.ownBlock ∨ v'.ownBlock = some w.heap.size) → wpList Try.prog ops Q rest (a.put o.dst v') w') : wpList Try.prog ops Q (o :: rest) a w := by
  obtain ⟨i0, hi, hz0, hz1, hz2⟩ := info_parts boolRowInfo2
  have hnews : ∀ j u, ([q] : List Value)[j]? = some u → w.cell? ((⟨b, 0, none⟩ : Addr).add j) = some u := by
    intro j u hj
    match j, hj with
    | 0, hj =>
      simp at hj; subst hj
      rw [plain_add]; exact hc
  refine wpList_append_own_at w hgd s x 77 ho base 47 i0 (.slice none 0 0) 1 24 Try.underlying77 hi hz0 hz1 hz2 rfl (by decide) v _ _ hs hown ⟨b, 0, none⟩ 1 c [q] hx rfl hnews (fun u hu => by simp at hu; subst hu; exact hq) (by unfold maxLen; omega) (by omega) hbase ?_
  intro v' w' hown' hgrow _ hat
  exact h v' w' hown' hgrow hat

structure Fst (w0 w : World) (g : Gr) (cl cm most cr ccap k : Nat) (cb : Nat → Nat) (els : List Lst) (lv : Value) : Prop where
  below : Below w0.heap.size w0 w
  ll : LL w w0.heap.size cl els lv
  mv : w.heap[cm]? = some (.cells #[.int .i64 (most : Int)] 3 (0, 0))
  can : CanAt w w0.heap.size cr ccap k g.N g cb
  ls : Sp.lists els = upto g k
  le : els.length ≤ most
theorem Fst.next {w0 w w3 : World} {g : Gr} {cl cm most cr ccap k hb : Nat} {cb : Nat → Nat} {els : List Lst} {lv v' : Value} (h : CanAt w w0.heap.size cr ccap k g.N g cb) (hL : LL w w0.heap.size cl els lv) (hm : w.heap[cm]? = some (.cells #[.int .i64 (most : Int)] 3 (0, 0))) (hw : Below w0.heap.size w0 w)
    (hls : Sp.lists els = upto g (k + 1)) (hle : els.length ≤ most)
    (hB : BoolsT w hb g.N (Before g (Ex g k))) (hown : w3.ownsRow w0.heap.size 47 1 v' (k + 1 + 1) ((List.range (k + 1)).map (fun i => Value.slice (some ⟨cb i, 0, none⟩) g.N g.N) ++ [.slice (some ⟨hb, 0, none⟩) g.N g.N])) (hg : w.grownBy w3 (some cr)) :
    ∃ cr' ccap', v' = .slice (some ⟨cr', 0, none⟩) (k + 1 + 1) ccap' ∧ Fst w0 w3 g cl cm most cr' ccap' (k + 1) (fun i => if i = k + 1 then hb else cb i) els lv := by
  obtain ⟨cr', ccap', rfl⟩ := own_form hown (by omega)
  obtain ⟨cur, hc1, hc2⟩ := h.cur
  have keepb : ∀ {b : Nat} {c : Array Value} {t : TypeId} {fr : Nat × Nat}, w.heap[b]? = some (Obj.cells c t fr) → t ≠ 47 → w3.heap[b]? = some (Obj.cells c t fr) := fun hb hne => blk_grown hb hg (fun e => by injection e with e; exact blk_ne hb hc1 hne e.symm)
  have keepB : ∀ {b : Nat} {S : Nat → Prop}, BoolsT w b g.N S → BoolsT w3 b g.N S := fun {b S} ⟨⟨c, fr, h1⟩, h2⟩ => by
    have h3 := keepb h1 (by decide)
    exact ⟨⟨c, fr, h3⟩, fun q hq => (World.cell?_of_block (a := ⟨b, q, none⟩) (h3.trans h1.symm)).trans (h2 q hq)⟩
  have hcrb : w0.heap.size ≤ cr := (h.own.lt cr rfl).1
  refine ⟨cr', ccap', rfl, hw.grown hg hw.size (fun k hk => by injection hk with hk; omega), hL.grown hg hc1, keepb hm (by decide), ⟨?_, fun i hi => ?_⟩, hls, hle⟩
  · have e : (List.range (k + 1 + 1)).map (fun i => Value.slice (some ⟨if i = k + 1 then hb else cb i, 0, none⟩) g.N g.N) = (List.range (k + 1)).map (fun i => Value.slice (some ⟨cb i, 0, none⟩) g.N g.N) ++ [.slice (some ⟨hb, 0, none⟩) g.N g.N] := by
      rw [List.range_succ, List.map_append]
      congr 1
      · apply List.map_congr_left
        intro i hi
        have := List.mem_range.1 hi
        rw [if_neg (by omega)]
      · simp
    rw [e]; exact hown
  · by_cases e : i = k + 1
    · subst e; rw [if_pos rfl]; exact keepB hB
    · rw [if_neg e]; exact keepB (h.marks i (by omega))
end Nf

set_option maxHeartbeats 4000000 in
set_option maxRecDepth 100000 in
theorem first_any (w : World) (gb most : Nat) (v : Nf.Gv) (g : Nf.Gr) (hG : Nf.GrAt w gb v g) (hmost : most ≤ 1000) :
    Calls Try.prog 19 #[.pointer (some ⟨gb, 0, none⟩), .int .i64 (most : Int)] w (Nf.FirstPost g most w) := by
  have hN := hG.small
  have hB := hG.blk
  have c5 : w.cell? ⟨gb, 5, none⟩ = some (.slice (some ⟨v.zb, 0, none⟩) g.N g.N) := Nf.blk_cell (i := 5) hB rfl
  have hz := Nf.blk_lt hB
  have HG := Sp.hid hG
  clear hG hB
  have bw : Below w.heap.size w (((w.alloc (.cells #[.int .i64 (most : Int)] 3)).alloc (.cells #[.slice none 0 0] 33)).alloc (.cells #[.slice (some ⟨v.zb, 0, none⟩) g.N g.N] 64)) := (((Below.refl _ w).alloc (Nat.le_refl _) _).alloc (by simp) _).alloc (by simp; omega) _
  have hsq : Nf.Seq (Nf.tabVal g.N) (((w.alloc (.cells #[.int .i64 (most : Int)] 3)).alloc (.cells #[.slice none 0 0] 33)).alloc (.cells #[.slice (some ⟨v.zb, 0, none⟩) g.N g.N] 64)) (some ⟨w.heap.size + 1 + 1, 0, none⟩) 1 [⟨v.zb, v.Be⟩] := by
    refine ⟨rfl, by decide, fun _ => ⟨_, _, rfl, fun i y hy => ?_⟩⟩
    match i, hy with
    | 0, hy =>
      simp at hy; subst hy
      have h2 : ((w.alloc (.cells #[.int .i64 (most : Int)] 3)).alloc (.cells #[.slice none 0 0] 33)).heap.size = w.heap.size + 1 + 1 := by simp
      have h3 := Nf.Below.heap_new ((w.alloc (.cells #[.int .i64 (most : Int)] 3)).alloc (.cells #[.slice none 0 0] 33)) (.cells #[.slice (some ⟨v.zb, 0, none⟩) g.N g.N] 64)
      rw [h2] at h3
      exact Nf.blk_cell (i := 0) h3 rfl
  have n1 : ((((w.alloc (.cells #[.int .i64 (most : Int)] 3)).alloc (.cells #[.slice none 0 0] 33)).alloc (.cells #[.slice (some ⟨v.zb, 0, none⟩) g.N g.N] 64))).heap[w.heap.size]? = some (.cells #[.int .i64 (most : Int)] 3 (0, 0)) := Nf.blk_alloc (Nf.blk_alloc (Nf.Below.heap_new w _) _) _
  have n2 : ((((w.alloc (.cells #[.int .i64 (most : Int)] 3)).alloc (.cells #[.slice none 0 0] 33)).alloc (.cells #[.slice (some ⟨v.zb, 0, none⟩) g.N g.N] 64))).heap[w.heap.size + 1]? = some (.cells #[.slice none 0 0] 33 (0, 0)) := by
    have h2 : (w.alloc (.cells #[.int .i64 (most : Int)] 3)).heap.size = w.heap.size + 1 := by simp
    have h3 := Nf.Below.heap_new (w.alloc (.cells #[.int .i64 (most : Int)] 3)) (.cells #[.slice none 0 0] 33)
    rw [h2] at h3
    exact Nf.blk_alloc h3 _
  have HK := Sp.hid (back_any _ gb v g [⟨v.zb, v.Be⟩] (some ⟨w.heap.size + 1 + 1, 0, none⟩) 1 1 (HG.out.below bw) hsq (by omega)
    (by intro t ht; simp at ht; subst ht; exact HG.out.bem.below bw) (by intro t ht; simp at ht; subst ht; exact HG.out.be_lt))
  have Bw := Sp.hid bw
  clear bw hsq
  go_enter Try.func19, Try.ntmps19
  go_wp2_with fail
  obtain ⟨wa, hwa⟩ : ∃ wa, (((w.alloc (.cells #[.int .i64 (most : Int)] 3)).alloc (.cells #[.slice none 0 0] 33)).alloc (.cells #[.slice (some ⟨v.zb, 0, none⟩) g.N g.N] 64)) = wa := ⟨_, rfl⟩
  rw [hwa] at HK Bw n1 n2 ⊢
  clear hwa
  obtain ⟨cm, hcm⟩ : ∃ cm, w.heap.size = cm := ⟨_, rfl⟩
  have Hcm := Sp.hid hcm
  rw [hcm] at HK n1 n2 ⊢
  obtain ⟨cl, hcl⟩ : ∃ cl, cm + 1 = cl := ⟨_, rfl⟩
  have Hcl := Sp.hid hcl
  rw [hcl] at HK n2 ⊢
  clear hcm hcl
  refine HK.out.mono ?_
  rintro e w2 ⟨hb0, rfl, hS0, hb2⟩
  have hba : Below w.heap.size w w2 := Bw.out.trans (hb2.mono Bw.out.size)
  have hF : Nf.Fst w (w2.alloc (.cells #[.slice (some ⟨hb0, 0, none⟩) g.N g.N] 47)) g cl cm most w2.heap.size 1 0 (fun _ => hb0) [] (.slice none 0 0) := by
    have hbb : Below w2.heap.size w2 (w2.alloc (.cells #[.slice (some ⟨hb0, 0, none⟩) g.N g.N] 47)) := (Below.refl _ w2).alloc (Nat.le_refl _) _
    have hnew := Nf.Below.heap_new w2 (.cells #[.slice (some ⟨hb0, 0, none⟩) g.N g.N] 47)
    refine ⟨hba.trans (hbb.mono hba.size), ⟨Nf.blk_alloc (Nf.blk_below n2 hb2 (Nf.blk_lt n2)) _, World.ownsRow_nil _ _ _ _, by simp, ?_, Nat.le_trans hba.size hbb.size⟩, Nf.blk_alloc (Nf.blk_below n1 hb2 (Nf.blk_lt n1)) _, ⟨?_, fun i hi => ?_⟩, by simp [Sp.lists, Nf.upto], by simp⟩
    · have := Hcm.out; have := Hcl.out; omega
    · exact ⟨by simp, .inr ⟨w2.heap.size, 1, #[.slice (some ⟨hb0, 0, none⟩) g.N g.N], rfl, hba.size, hnew, Nat.le_refl _, by decide, rfl, by simp [List.range_succ]⟩⟩
    · have e : i = 0 := by omega
      subst e
      obtain ⟨⟨c, fr, h1⟩, h2⟩ := hS0
      refine ⟨⟨c, fr, Nf.blk_alloc h1 _⟩, (h2.congr fun q hq => ?_).below hbb⟩
      constructor
      · rintro ⟨p, hp, hs⟩; exact ⟨p, hp, (Nf.rel_be HG.out).1 hs⟩
      · rintro ⟨p, hp, hs⟩; exact ⟨p, hp, (Nf.rel_be HG.out).2 hs⟩
  have HF := Sp.hid hF
  clear hF hS0 hb2 hba n1 n2 c5
  go_wp2_with fail
  obtain ⟨w3, hw3⟩ : ∃ w3, w2.alloc (.cells #[.slice (some ⟨hb0, 0, none⟩) g.N g.N] 47) = w3 := ⟨_, rfl⟩
  rw [hw3] at HF ⊢
  obtain ⟨cr0, hcr0⟩ : ∃ cr0, w2.heap.size = cr0 := ⟨_, rfl⟩
  rw [hcr0] at HF ⊢
  clear hw3 hcr0
  go_loopw [9] (fun cn wr => ∃ (k cr ccap : Nat) (cb : Nat → Nat) (els : List Lst) (lv : Value), cn = .slice (some ⟨cr, 0, none⟩) (k + 1) ccap ∧ k ≤ 61 ∧ Nf.Fst w wr g cl cm most cr ccap k cb els lv) (fun cn _ => 62 - Nf.rowLen cn)
  case atStart => exact ⟨0, cr0, 1, _, _, _, rfl, by omega, HF.out⟩
  case round =>
    obtain ⟨k, cr, ccap, cb, els, lv, rfl, hk61, hF⟩ := hrel
    have HF2 := Sp.hid hF
    clear hF HF
    obtain ⟨k1, hk1⟩ : ∃ k1, k + 1 = k1 := ⟨_, rfl⟩
    by_cases hk : k ≤ 60
    · have k61 : (k1 : Int) ≤ 61 := by omega
      obtain ⟨cur, hc1, hc2⟩ := HF2.out.can.cur
      have HE := each_any w wr gb v g HG.out HF2.out.below cl cm most k cr ccap els lv HF2.out.ll HF2.out.mv cb cur hc1 hc2 HF2.out.can.marks hk HF2.out.le hmost
      rw [hk1] at HE ⊢
      have Hk1 := Sp.hid hk1
      have HE := Sp.hid HE
      clear hk1 hc1 hc2
      go_wp2_with fail
      refine HE.out.mono ?_
      rintro e w4 ⟨b, els2, lv2, rfl, hLL, hTF, hls, hbb⟩
      have Hbel4 := Sp.hid (HF2.out.below.trans hTF.below)
      have HLL := Sp.hid hLL
      have Hls := Sp.hid hls
      have Hbb := Sp.hid hbb
      have HTF := Sp.hid hTF
      have Hmv := Sp.hid (hTF.keep _ _ _ _ HF2.out.mv (by unfold Nf.KindW; decide))
      have Hcan := Sp.hid (HF2.out.can.tf hTF)
      clear hLL hls hbb hTF
      cases b with
      | false =>
        have hgt : most < els2.length := by
          have h := Hbb.out
          simp at h
          omega
        have hln : els2.length ≤ maxLen := by
          have h := congrArg List.length Hls.out
          simp only [Sp.lists, List.length_map, List.length_take] at h
          unfold maxLen; omega
        obtain ⟨ao, cap, hv, hsq, hcap⟩ := Nf.seq_of_own HLL.out.lown hln
        obtain ⟨b0, off, rfl, _⟩ := hsq.2.2 (by omega)
        obtain ⟨n, hn⟩ : ∃ n, els2.length = n := ⟨_, rfl⟩
        have Hn := Sp.hid hn
        have hc1 : w4.cell? ⟨cl, 0, none⟩ = some lv2 := Nf.blk_cell (i := 0) HLL.out.lvar rfl
        have hc2 : w4.cell? ⟨cm, 0, none⟩ = some (.int .i64 (most : Int)) := Nf.blk_cell (i := 0) Hmv.out rfl
        have HLL2 := Sp.hid (show Nf.LL w4 w.heap.size cl els2 (.slice (some ⟨b0, off, none⟩) els2.length cap) by rw [← hv]; exact HLL.out)
        rw [hv] at hc1
        rw [hn] at hc1 hgt hcap hln
        have g1 : (n : Int) > (most : Int) := by omega
        have g2 : (0 : Int) ≤ (most : Int) := by omega
        have g3 : (most : Int) ≤ (cap : Int) := by omega
        clear hv hsq hn
        go_wp2_with fail
        go_ret3
        refine ⟨some ⟨b0, off, none⟩, most, most, els2.take most, true, 0, rfl, (HLL2.out.rowE (by rw [Hn.out]; exact hln) (by rw [Hn.out]; omega)).1, Hbel4.out, ?_⟩
        have hl2 : Sp.lists els2 = (Nf.upto g (k + 1)).take (most + 1) := by rw [Nf.upto_succ, ← HF2.out.ls]; exact Hls.out
        have hlen := congrArg List.length hl2
        simp only [Sp.lists, List.length_map, List.length_take, Hn.out] at hlen
        obtain ⟨r, hr⟩ := Nf.upto_prefix g (a := k + 1) (b := 61) (by omega)
        unfold Nf.firstSpec
        rw [if_pos (by rw [hr, List.length_append]; omega)]
        congr 1
        rw [hr, List.take_append_of_le_length (by omega)]
        have : Sp.lists (els2.take most) = (Sp.lists els2).take most := by simp [Sp.lists, List.map_take]
        rw [this, hl2, List.take_take]
        congr 1
        omega
      | true =>
        have hle2 : els2.length ≤ most := by
          have h := Hbb.out
          simp at h
          omega
        have hls2 : Sp.lists els2 = Nf.upto g (k + 1) := by
          rw [Nf.upto_succ, ← HF2.out.ls, Hls.out]
          refine Nf.take_small ?_
          rw [← Hls.out]; simpa [Sp.lists] using hle2
        have Hls2 := Sp.hid hls2
        obtain ⟨cur4, h41, h42⟩ := Hcan.out.cur
        have hcc : w4.cell? ⟨cr, k, none⟩ = some (.slice (some ⟨cb k, 0, none⟩) g.N g.N) := Nf.blk_cell h41 (h42 k (Nat.le_refl _))
        have HBf := Sp.hid (before_any w4 gb (cb k) v g (Nf.Ex g k) (HG.out.below Hbel4.out) (Hcan.out.marks k (Nat.le_refl _)).2)
        have i1 : (0 : Int) ≤ (k : Int) := by omega
        have i2 : (k : Int) < (k1 : Int) := by have := Hk1.out; omega
        have i3 : IntKind.i64.wrap ((k1 : Int) - 1) = (k : Int) := by have := Hk1.out; rw [IntWalk.i64_in _ (by omega)]; omega
        clear h41 h42 hls2
        go_wp2_with fail
        refine HBf.out.mono ?_
        rintro e w5 ⟨hb, rfl, hSb, hb5⟩
        have hb56 : Below w5.heap.size w5 (w5.alloc (.cells #[.slice (some ⟨hb, 0, none⟩) g.N g.N] 47)) := (Below.refl _ w5).alloc (Nat.le_refl _) _
        have hb46 : Below w4.heap.size w4 (w5.alloc (.cells #[.slice (some ⟨hb, 0, none⟩) g.N g.N] 47)) := hb5.trans (hb56.mono hb5.size)
        have Hb46 := Sp.hid hb46
        have Hcan6 := Sp.hid (Hcan.out.below hb46)
        have HS6 := Sp.hid (show Nf.BoolsT (w5.alloc (.cells #[.slice (some ⟨hb, 0, none⟩) g.N g.N] 47)) hb g.N (Nf.Before g (Nf.Ex g k)) from by
          obtain ⟨⟨c, fr, h1⟩, h2⟩ := hSb
          exact ⟨⟨c, fr, Nf.blk_alloc h1 _⟩, h2.below hb56⟩)
        have hown6 := Hcan6.out.own
        rw [Hk1.out] at hown6
        have hsz := Hbel4.out.size
        have hsz2 := hb46.size
        clear hb56 hb46 hb5 hSb
        go_wp2_with (at_builtin; refine Nf.push_can rfl _ _ rfl w.heap.size (.slice (some ⟨cr, 0, none⟩) k1 ccap) k1 _ rfl hown6 (.slice (some ⟨hb, 0, none⟩) g.N g.N) w5.heap.size 1 rfl ?c1 rfl ?c2 ?c3 ?_)
        case c1 => simp [go_sem]
        case c2 => have := Hk1.out; omega
        case c3 => omega
        intro v7 w7 hown7 hgrow7 _
        have hown7' := hown7
        rw [← Hk1.out] at hown7'
        have hcrE : (Value.slice (some (⟨cr, 0, none⟩ : Addr)) k1 ccap).ownBlock = some cr := rfl
        rw [hcrE] at hgrow7
        obtain ⟨cr', ccap', rfl, hF7⟩ := Nf.Fst.next Hcan6.out (HLL.out.below Hb46.out) (Nf.blk_below Hmv.out Hb46.out (Nf.blk_lt Hmv.out)) (Hbel4.out.trans (Hb46.out.mono Hbel4.out.size)) Hls2.out hle2 HS6.out hown7' hgrow7
        have HF7 := Sp.hid hF7
        clear hF7 hown7 hown7' hown6 hgrow7
        go_wp2_with fail
        go_roundw
        case rel => exact ⟨k + 1, cr', ccap', _, els2, lv2, rfl, by omega, HF7.out⟩
        case measure => have := Hk1.out; simp [Nf.rowLen]; omega
    · have hke : k = 61 := by omega
      subst hke
      have hle := HF2.out.le
      obtain ⟨ao, cap, hv, _, hcap⟩ := Nf.seq_of_own HF2.out.ll.lown (by unfold maxLen; omega)
      obtain ⟨n, hn⟩ : ∃ n, els.length = n := ⟨_, rfl⟩
      have Hn := Sp.hid hn
      have hc1 : wr.cell? ⟨cl, 0, none⟩ = some lv := Nf.blk_cell (i := 0) HF2.out.ll.lvar rfl
      have hc2 : wr.cell? ⟨cm, 0, none⟩ = some (.int .i64 (most : Int)) := Nf.blk_cell (i := 0) HF2.out.mv rfl
      have l1 := Nf.blk_lt HF2.out.ll.lvar
      have l2 := Nf.blk_lt HF2.out.mv
      have HLL2 := Sp.hid (show Nf.LL wr w.heap.size cl els (.slice ao els.length cap) by rw [← hv]; exact HF2.out.ll)
      rw [hv, hn] at hc1
      rw [hn] at hle
      have HFr : Calls Try.prog 21 #[.pointer (some ⟨gb, 0, none⟩), .int .i64 61] wr (Nf.EqPost (Nf.Lg g 61 0) wr) := hasFrom_any wr gb 61 v g (HG.out.below HF2.out.below) (by omega)
      have HFr := Sp.hid HFr
      have g1 : ¬ (n : Int) > (most : Int) := by omega
      have k61 : ¬ (k1 : Int) ≤ 61 := by omega
      have hun : (Nf.upto g 61).length = n := by rw [← HF2.out.ls, ← hn]; simp [Sp.lists]
      have Hun := Sp.hid hun
      have hsm : ¬ most < (Nf.upto g 61).length := by omega
      have Hsm := Sp.hid hsm
      rw [hk1]
      clear hv hn hun hsm
      go_wp2_with fail
      refine HFr.out.mono ?_
      rintro e w4 ⟨rfl, hb4⟩
      have Hb4 := Sp.hid hb4
      have c1 : w4.cell? ⟨cl, 0, none⟩ = some (.slice ao n cap) := by rw [hb4.cell (p := ⟨cl, 0, none⟩) l1]; exact hc1
      have c2 : w4.cell? ⟨cm, 0, none⟩ = some (.int .i64 (most : Int)) := by rw [hb4.cell (p := ⟨cm, 0, none⟩) l2]; exact hc2
      have HB := Sp.hid (HF2.out.below.trans (hb4.mono HF2.out.below.size))
      have hrow := (HLL2.out.below hb4).rowE (by unfold maxLen; have := Hn.out; omega) (Nat.le_refl _)
      rw [List.take_length, Hn.out] at hrow
      have Hrow := Sp.hid hrow.1
      clear hrow hc1 hc2 l1 l2 hb4
      by_cases hlg : Nf.Lg g 61 0
      · rw [Nf.bl_true hlg]
        have Hlg := Sp.hid hlg
        by_cases hlt : n < most
        · have g4 : (n : Int) < (most : Int) := by omega
          clear hlg
          go_wp2_with fail
          go_ret3
          refine ⟨none, 0, 0, [], false, 3, rfl, ⟨rfl, by decide, fun h => absurd h (by decide), by simp⟩, HB.out, ?_⟩
          unfold Nf.firstSpec
          rw [if_neg Hsm.out, if_pos ⟨Hlg.out, by rw [Hun.out]; exact hlt⟩]
          rfl
        · have g4 : ¬ (n : Int) < (most : Int) := by omega
          clear hlg
          go_wp2_with fail
          go_ret3
          refine ⟨ao, n, cap, els, true, 0, rfl, Hrow.out, HB.out, ?_⟩
          unfold Nf.firstSpec
          rw [if_neg Hsm.out, if_neg (fun h => hlt (by rw [← Hun.out]; exact h.2)), Nf.bl_true Hlg.out, HF2.out.ls]
      · rw [Nf.bl_false hlg]
        have Hlg := Sp.hid hlg
        clear hlg
        go_wp2_with fail
        go_ret3
        refine ⟨ao, n, cap, els, false, 0, rfl, Hrow.out, HB.out, ?_⟩
        unfold Nf.firstSpec
        rw [if_neg Hsm.out, if_neg (fun h => Hlg.out h.1), Nf.bl_false Hlg.out, HF2.out.ls]
end Go.Proofs.Ytnaojfhhjknejaa
