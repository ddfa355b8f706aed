/-
  The walk of each: the words of one length.
-/
import Derived.Test.YtnaojfhhjknejaaMgAuW
import Derived.Laws.EntriesVeiled
set_option linter.unusedVariables false
set_option linter.unusedSimpArgs false
namespace Go.Proofs.Ytnaojfhhjknejaa
open Go.RowKit
namespace Nf
/-- A row of texts, in a block of texts. -/
def RowS (w : World) (x : Lst) : Prop := Sp.Row w x.ao x.n x.l ∧ (0 < x.n → ∃ (a : Addr) (cs : Array Value), x.ao = some a ∧ w.heap[a.block]? = some (Obj.cells cs 9 (0, 0)))
/-- The list of words so far. -/
structure LL (w : World) (base cl : Nat) (els : List Lst) (lv : Value) : Prop where
  lvar : w.heap[cl]? = some (.cells #[lv] 33 (0, 0))
  lown : w.ownsRow base 22 1 lv els.length (els.map Lst.val)
  lrow : ∀ x ∈ els, RowS w x
  bcl : base ≤ cl
  bw : base ≤ w.heap.size
theorem RowT.rowS {w : World} {gw : Nat} {x : Lst} (h : RowT w gw x) : RowS w x := ⟨h.1, fun hn => by obtain ⟨a, cs, h1, h2, _⟩ := h.2 hn; exact ⟨a, cs, h1, h2⟩⟩
theorem RowS.below {w w' : World} {x : Lst} (h : RowS w x) (hb : Below w.heap.size w w') : RowS w' x :=
  ⟨h.1.below hb, fun hn => by obtain ⟨a, cs, h1, h2⟩ := h.2 hn; exact ⟨a, cs, h1, blk_below h2 hb (blk_lt h2)⟩⟩
theorem RowS.rowT {w w' : World} {x : Lst} (h : RowS w x) (hb : Below w.heap.size w w') {gw : Nat} (hg : w.heap.size ≤ gw) : RowT w' gw x :=
  ⟨h.1.below hb, fun hn => by obtain ⟨a, cs, h1, h2⟩ := h.2 hn; have := blk_lt h2; exact ⟨a, cs, h1, blk_below h2 hb (blk_lt h2), by omega⟩⟩
theorem LW.ll {w : World} {base cl cw gw len : Nat} {els : List Lst} {lv : Value} {u : List ByteArray} (h : LW w base cl cw gw len els lv u) : LL w base cl els lv := ⟨h.lvar, h.lown, fun x hx => (h.lrow x hx).rowS, h.bcl, h.bw⟩
theorem LL.lw {w w' : World} {base cl : Nat} {els : List Lst} {lv : Value} (h : LL w base cl els lv) (hb : Below w.heap.size w w') {cw gw len : Nat} {cur : Array Value} (hw : w'.heap[cw]? = some (.cells #[.slice (some ⟨gw, 0, none⟩) 0 len] 22 (0, 0)))
    (hg : w'.heap[gw]? = some (Obj.cells cur 9 (0, 0))) (hs : cur.size = len) (h1 : w.heap.size ≤ cw) (h2 : w.heap.size ≤ gw) : LW w' base cl cw gw len els lv [] := by
  have hgr : w.grownBy w' none := ⟨hb.os, hb.tape, hb.output, hb.size, fun k hk _ => hb.block k hk⟩
  have hbw := h.bw
  exact ⟨blk_below h.lvar hb (blk_lt h.lvar), h.lown.kept hgr (by cases lv.ownBlock <;> simp), fun x hx => (h.lrow x hx).rowT hb h2, hw, ⟨cur, hg, hs, Nat.zero_le _, fun i s hi => by simp at hi⟩, by simp, fun e => by have := h.lown.lt _ e; omega, h.bcl, by omega, by omega, Nat.le_trans h.bw hb.size⟩
/-- 'make([]T, 0, n)': a row of n zero values, none of them shown. -/
theorem wpList_make_cap {P : Program} (w : World) {ops : Array Oper} {rest : List Oper} {o : Oper} {a : Act} {Q : Exit → Act → World → Prop}
    (hg : o.guard = none) (l c : Operand) (t : TypeId) (hop : o.op = Op.makeSlice t l c)
    (e : TypeId) (i : TypeInfo) (z : Value) (ht : P.underlying t = some (.slice e)) (hi : P.info? e = some i) (hz : i.zero = some z) (hsize : i.size = 1) (hz1 : z.cells = #[z])
    (kl kc : IntKind) (n : Nat) (hl : a.eval l = .int kl 0) (hc : a.eval c = .int kc (n : Int)) (hbytes : i.bytes * n ≤ 281474976710656) (h63 : n ≤ 9223372036854775807)
    (hK : wpList P ops Q rest (a.put o.dst (.slice (some ⟨w.heap.size, 0, none⟩) 0 n)) (w.alloc (.cells (madeCells #[z] n) e))) : wpList P ops Q (o :: rest) a w := by
  refine wpList_plain hg fun K hK' => ?_
  have hb' : (i.bytes : Int) * (n : Int) ≤ 281474976710656 := by
    have h : ((i.bytes * n : Nat) : Int) ≤ 281474976710656 := by omega
    rwa [Int.natCast_mul] at h
  have hr := run_make (P := P) w t e i z ht hi hz kl kc 0 n (by omega) (by omega) hb' (by omega)
  simp only [Int.toNat_natCast, Int.toNat_zero, hsize, Nat.mul_one, hz1] at hr
  unfold Oper.wp
  simp [execOp, hop, hl, hc, hr, Result.andThen]
  exact hK' _ _ hK
theorem four_new (w : World) (A B C D : Obj) : ((((w.alloc A).alloc B).alloc C).alloc D).heap[w.heap.size]? = some A ∧ ((((w.alloc A).alloc B).alloc C).alloc D).heap[w.heap.size + 1]? = some B ∧ ((((w.alloc A).alloc B).alloc C).alloc D).heap[w.heap.size + 1 + 1]? = some C ∧ ((((w.alloc A).alloc B).alloc C).alloc D).heap[w.heap.size + 1 + 1 + 1]? = some D := by
  have h1 : (w.alloc A).heap.size = w.heap.size + 1 := by simp
  have h2 : ((w.alloc A).alloc B).heap.size = w.heap.size + 1 + 1 := by simp
  have h3 : (((w.alloc A).alloc B).alloc C).heap.size = w.heap.size + 1 + 1 + 1 := by simp
  have b := Below.heap_new (w.alloc A) B
  have c := Below.heap_new ((w.alloc A).alloc B) C
  have d := Below.heap_new (((w.alloc A).alloc B).alloc C) D
  rw [h1] at b; rw [h2] at c; rw [h3] at d
  exact ⟨blk_alloc (blk_alloc (blk_alloc (Below.heap_new w A) _) _) _, blk_alloc (blk_alloc b _) _, blk_alloc c _, d⟩
theorem LL.below {w w' : World} {base cl : Nat} {els : List Lst} {lv : Value} (h : LL w base cl els lv) (hb : Below w.heap.size w w') : LL w' base cl els lv := by
  have hgr : w.grownBy w' none := ⟨hb.os, hb.tape, hb.output, hb.size, fun k hk _ => hb.block k hk⟩
  exact ⟨blk_below h.lvar hb (blk_lt h.lvar), h.lown.kept hgr (by cases lv.ownBlock <;> simp), fun x hx => (h.lrow x hx).below hb, h.bcl, Nat.le_trans h.bw hb.size⟩
/-- What each's own call of the walk brings. -/
def OwnWalk (base : Nat) (g : Gr) (cl len most : Nat) (els : List Lst) (ck cg : Nat) (F G : Value) (w : World) (e : Ending) (w' : World) : Prop :=
  ∃ (b : Bool) (els' : List Lst) (lv' : Value), e = .returned (.bool b) ∧ Hid (LL w' base cl els' lv') ∧ Hid (TF base w w') ∧ Hid (Sp.lists els' = (Sp.lists els ++ W g len).take (most + 1)) ∧ Hid (b = decide (els'.length ≤ most)) ∧ w'.cell? ⟨ck, 0, none⟩ = some F ∧ w'.cell? ⟨cg, 0, none⟩ = some G
def EachPost (base : Nat) (g : Gr) (cl len most : Nat) (els : List Lst) (w : World) (e : Ending) (w' : World) : Prop :=
  ∃ (b : Bool) (els' : List Lst) (lv' : Value), e = .returned (.bool b) ∧ LL w' base cl els' lv' ∧ TF base w w' ∧ Sp.lists els' = (Sp.lists els ++ W g len).take (most + 1) ∧ b = decide (els'.length ≤ most)
end Nf

set_option maxHeartbeats 4000000 in
set_option maxRecDepth 100000 in
theorem each_any (wG w : World) (gb : Nat) (v : Nf.Gv) (g : Nf.Gr) (hG : Nf.GrAt wG gb v g) (hb : Below wG.heap.size wG w) (cl cm most len cr ccap : Nat) (els : List Lst) (lv : Value) (hL : Nf.LL w wG.heap.size cl els lv) (hm : w.heap[cm]? = some (.cells #[.int .i64 (most : Int)] 3 (0, 0)))
    (cb : Nat → Nat) (cur : Array Value) (hcr : w.heap[cr]? = some (Obj.cells cur 47 (0, 0))) (hcur : ∀ i, i ≤ len → cur[i]? = some (Value.slice (some ⟨cb i, 0, none⟩) g.N g.N)) (hmk : ∀ i, i ≤ len → Nf.BoolsT w (cb i) g.N (Nf.Ex g i)) (hlen : len ≤ 60) (hel : els.length ≤ most) (hmost : most ≤ 1000) :
    Calls Try.prog 33 #[.pointer (some ⟨gb, 0, none⟩), .slice (some ⟨cr, 0, none⟩) (len + 1) ccap, .func (.func 31) #[] #[.pointer (some ⟨cl, 0, none⟩), .pointer (some ⟨cm, 0, none⟩)]] w (Nf.EachPost wG.heap.size g cl len most els w) := by
  obtain ⟨i0, hi, hz0, hz1, hz2⟩ := info_parts Nf.textInfo
  have hpos := hG.ok.pos
  have hN := hG.small
  have hgl := Nf.blk_lt hG.blk
  have k1 : w.cell? ⟨cr, len, none⟩ = some (.slice (some ⟨cb len, 0, none⟩) g.N g.N) := Nf.blk_cell hcr (hcur len (Nat.le_refl _))
  have k2 : w.cell? ⟨cb len, 0, none⟩ = some (.bool (Nf.bl (Nf.Ex g len 0))) := (hmk len (Nat.le_refl _)).2 0 hpos
  have HG := Sp.hid (hG.below hb)
  have HL := Sp.hid hL
  have Hmk := Sp.hid hmk
  have Hcr := Sp.hid hcr
  have Hcur := Sp.hid hcur
  have Hm := Sp.hid hm
  have Hb := Sp.hid hb
  have HG0 := Sp.hid hG
  obtain ⟨cn, hcn⟩ : ∃ cn : Nat, len + 1 = cn := ⟨_, rfl⟩
  have r1 : (0 : Int) ≤ (len : Int) := by omega
  have r2 : (len : Int) < (cn : Int) := by omega
  have r3 : (0 : Int) < (g.N : Int) := by omega
  have e2 : IntKind.i64.wrap ((cn : Int) - 1) = (len : Int) := by rw [IntWalk.i64_in _ (by omega)]; omega
  have Hcn := Sp.hid hcn
  rw [hcn]
  have hba : Below w.heap.size w ((((w.alloc (.cells #[.pointer (some ⟨gb, 0, none⟩)] 48)).alloc (.cells #[.slice (some ⟨cr, 0, none⟩) cn ccap] 77)).alloc (.cells #[.func (.func 31) #[] #[.pointer (some ⟨cl, 0, none⟩), .pointer (some ⟨cm, 0, none⟩)]] 76)).alloc (.cells #[.int .i64 (len : Int)] 3)) := ((((Below.refl _ w).alloc (Nat.le_refl _) _).alloc (by simp) _).alloc (by simp; omega) _).alloc (by simp; omega) _
  have d1 : (((((w.alloc (.cells #[.pointer (some ⟨gb, 0, none⟩)] 48)).alloc (.cells #[.slice (some ⟨cr, 0, none⟩) cn ccap] 77)).alloc (.cells #[.func (.func 31) #[] #[.pointer (some ⟨cl, 0, none⟩), .pointer (some ⟨cm, 0, none⟩)]] 76)).alloc (.cells #[.int .i64 (len : Int)] 3))).cell? ⟨cr, len, none⟩ = some (.slice (some ⟨cb len, 0, none⟩) g.N g.N) := by rw [hba.cell (p := ⟨cr, len, none⟩) (World.block_lt_of_cell? w _ k1)]; exact k1
  have d2 : (((((w.alloc (.cells #[.pointer (some ⟨gb, 0, none⟩)] 48)).alloc (.cells #[.slice (some ⟨cr, 0, none⟩) cn ccap] 77)).alloc (.cells #[.func (.func 31) #[] #[.pointer (some ⟨cl, 0, none⟩), .pointer (some ⟨cm, 0, none⟩)]] 76)).alloc (.cells #[.int .i64 (len : Int)] 3))).cell? ⟨cb len, 0, none⟩ = some (.bool (Nf.bl (Nf.Ex g len 0))) := by rw [hba.cell (p := ⟨cb len, 0, none⟩) (World.block_lt_of_cell? w _ k2)]; exact k2
  have Hba := Sp.hid hba
  clear hG hb hL hm hcr hcur hmk hcn hba k1 k2
  by_cases hex : Nf.Ex g len 0
  · rw [Nf.bl_true hex] at d2
    go_enter Try.func33, Try.ntmps33
    go_wp2_with fail
    obtain ⟨n1, n2, n3, n4⟩ := Nf.four_new w (.cells #[.pointer (some ⟨gb, 0, none⟩)] 48) (.cells #[.slice (some ⟨cr, 0, none⟩) cn ccap] 77) (.cells #[.func (.func 31) #[] #[.pointer (some ⟨cl, 0, none⟩), .pointer (some ⟨cm, 0, none⟩)]] 76) (.cells #[.int .i64 (len : Int)] 3)
    obtain ⟨w1, hw1⟩ : ∃ w1, ((((w.alloc (.cells #[.pointer (some ⟨gb, 0, none⟩)] 48)).alloc (.cells #[.slice (some ⟨cr, 0, none⟩) cn ccap] 77)).alloc (.cells #[.func (.func 31) #[] #[.pointer (some ⟨cl, 0, none⟩), .pointer (some ⟨cm, 0, none⟩)]] 76)).alloc (.cells #[.int .i64 (len : Int)] 3)) = w1 := ⟨_, rfl⟩
    rw [hw1] at Hba n1 n2 n3 n4 d1 d2 ⊢
    obtain ⟨cg, hcg⟩ : ∃ cg, w.heap.size = cg := ⟨_, rfl⟩
    have Hcg := Sp.hid hcg
    rw [hcg] at n1 n2 n3 n4 ⊢
    obtain ⟨cc, hcc⟩ : ∃ cc, cg + 1 = cc := ⟨_, rfl⟩
    rw [hcc] at n2 n3 n4 ⊢
    obtain ⟨ct, hct⟩ : ∃ ct, cc + 1 = ct := ⟨_, rfl⟩
    rw [hct] at n3 n4 ⊢
    obtain ⟨cL, hcL⟩ : ∃ cL, ct + 1 = cL := ⟨_, rfl⟩
    rw [hcL] at n4 ⊢
    have N1 := Sp.hid n1
    have N2 := Sp.hid n2
    have N3 := Sp.hid n3
    have N4 := Sp.hid n4
    have HS := Sp.hid (stepper_any w1 gb v g (HG.out.below Hba.out))
    clear hw1 hcg hcc hct hcL n1 n2 n3 n4 d1 d2
    refine HS.out.mono ?_
    rintro e w2 ⟨bg, bs, sb, sr, rfl, hbg, hseen, hsr, hbel, _, _, _⟩
    have Hbg := Sp.hid hbg
    have Hseen := Sp.hid hseen
    have Hsr := Sp.hid hsr
    have Hbel := Sp.hid hbel
    have q1 : w2.cell? ⟨cL, 0, none⟩ = some (.int .i64 (len : Int)) := Nf.blk_cell (i := 0) (Nf.blk_below N4.out hbel (Nf.blk_lt N4.out)) rfl
    have lcL : cL < w2.heap.size := Nf.blk_lt (Nf.blk_below N4.out hbel (Nf.blk_lt N4.out))
    clear hbg hseen hsr hbel
    go_wp2_with (at_make; refine Nf.wpList_make_cap _ rfl _ _ 22 rfl 9 i0 (.string ⟨#[]⟩) Try.underlying22 hi hz0 hz1 rfl _ _ len rfl rfl ?c1 ?c2 ?_)
    case c1 => rw [hz2]; omega
    case c2 => omega
    obtain ⟨m1, m2, m3, m4⟩ := Nf.four_new w2 (.cells #[.func (.func 55) #[] #[.pointer (some ⟨bg, 0, none⟩), .pointer (some ⟨bs, 0, none⟩)]] 82) (.cells (madeCells #[.string ⟨#[]⟩] len) 9) (.cells #[.slice (some ⟨w2.heap.size + 1, 0, none⟩) 0 len] 22) (.cells #[.func (.func 53) #[] #[.pointer (some ⟨w2.heap.size + 1 + 1, 0, none⟩), .pointer (some ⟨cL, 0, none⟩), .pointer (some ⟨ct, 0, none⟩), .pointer (some ⟨w2.heap.size, 0, none⟩), .pointer (some ⟨cc, 0, none⟩), .pointer (some ⟨cg, 0, none⟩), .pointer (some ⟨w2.heap.size + 1 + 1 + 1, 0, none⟩)]] 102)
    have hba2 : Below w2.heap.size w2 ((((w2.alloc (.cells #[.func (.func 55) #[] #[.pointer (some ⟨bg, 0, none⟩), .pointer (some ⟨bs, 0, none⟩)]] 82)).alloc (.cells (madeCells #[.string ⟨#[]⟩] len) 9)).alloc (.cells #[.slice (some ⟨w2.heap.size + 1, 0, none⟩) 0 len] 22)).alloc (.cells #[.func (.func 53) #[] #[.pointer (some ⟨w2.heap.size + 1 + 1, 0, none⟩), .pointer (some ⟨cL, 0, none⟩), .pointer (some ⟨ct, 0, none⟩), .pointer (some ⟨w2.heap.size, 0, none⟩), .pointer (some ⟨cc, 0, none⟩), .pointer (some ⟨cg, 0, none⟩), .pointer (some ⟨w2.heap.size + 1 + 1 + 1, 0, none⟩)]] 102)) := ((((Below.refl _ w2).alloc (Nat.le_refl _) _).alloc (by simp) _).alloc (by simp; omega) _).alloc (by simp; omega) _
    have Hba2 := Sp.hid hba2
    clear hba2
    obtain ⟨w3, hw3⟩ : ∃ w3, ((((w2.alloc (.cells #[.func (.func 55) #[] #[.pointer (some ⟨bg, 0, none⟩), .pointer (some ⟨bs, 0, none⟩)]] 82)).alloc (.cells (madeCells #[.string ⟨#[]⟩] len) 9)).alloc (.cells #[.slice (some ⟨w2.heap.size + 1, 0, none⟩) 0 len] 22)).alloc (.cells #[.func (.func 53) #[] #[.pointer (some ⟨w2.heap.size + 1 + 1, 0, none⟩), .pointer (some ⟨cL, 0, none⟩), .pointer (some ⟨ct, 0, none⟩), .pointer (some ⟨w2.heap.size, 0, none⟩), .pointer (some ⟨cc, 0, none⟩), .pointer (some ⟨cg, 0, none⟩), .pointer (some ⟨w2.heap.size + 1 + 1 + 1, 0, none⟩)]] 102)) = w3 := ⟨_, rfl⟩
    rw [hw3] at Hba2 m1 m2 m3 m4 ⊢
    obtain ⟨cs, hcs⟩ : ∃ cs, w2.heap.size = cs := ⟨_, rfl⟩
    have Hcs := Sp.hid hcs
    rw [hcs] at m1 m2 m3 m4 ⊢
    obtain ⟨gw, hgw⟩ : ∃ gw, cs + 1 = gw := ⟨_, rfl⟩
    have Hgw := Sp.hid hgw
    rw [hgw] at m2 m3 m4 ⊢
    obtain ⟨cw, hcw⟩ : ∃ cw, gw + 1 = cw := ⟨_, rfl⟩
    have Hcw := Sp.hid hcw
    rw [hcw] at m3 m4 ⊢
    obtain ⟨ck, hck⟩ : ∃ ck, cw + 1 = ck := ⟨_, rfl⟩
    rw [hck] at m4 ⊢
    have M1 := Sp.hid m1
    have M2 := Sp.hid m2
    have M3 := Sp.hid m3
    have M4 := Sp.hid m4
    have k1 : w3.cell? ⟨ck, 0, none⟩ = some (.func (.func 53) #[] #[.pointer (some ⟨cw, 0, none⟩), .pointer (some ⟨cL, 0, none⟩), .pointer (some ⟨ct, 0, none⟩), .pointer (some ⟨cs, 0, none⟩), .pointer (some ⟨cc, 0, none⟩), .pointer (some ⟨cg, 0, none⟩), .pointer (some ⟨ck, 0, none⟩)]) := Nf.blk_cell (i := 0) m4 rfl
    have h12 := Hbel.out
    have h23 := Hba2.out
    have b12 := h12.size
    have b23 := h23.size
    have b01 := Hba.out.size
    have bG := Hb.out.size
    have k2 : w3.cell? ⟨cg, 0, none⟩ = some (.pointer (some ⟨gb, 0, none⟩)) := Nf.blk_cell (i := 0) (Nf.blk_below (Nf.blk_below N1.out h12 (Nf.blk_lt N1.out)) h23 (by have := Nf.blk_lt N1.out; omega)) rfl
    have hCst : ∀ w4, Below w3.heap.size w3 w4 → Nf.Cst wG w4 ⟨gb, v, g, cl, cw, gw, len, cm, most, cL, ct, cs, cc, cg, ck, cr, ccap, bg, bs, sb, sr, cb⟩ ∧ Nf.LW w4 wG.heap.size cl cw gw len els lv [] := by
      intro w4 h34
      have h24 := h23.trans (h34.mono b23)
      have h14 := h12.trans (h24.mono b12)
      have h04 := Hba.out.trans (h14.mono b01)
      have keep0 : ∀ {b : Nat} {o : Obj}, w.heap[b]? = some o → w4.heap[b]? = some o := fun hb => Nf.blk_below hb h04 (Nf.blk_lt hb)
      have keep1 : ∀ {b : Nat} {o : Obj}, w1.heap[b]? = some o → w4.heap[b]? = some o := fun hb => Nf.blk_below hb h14 (Nf.blk_lt hb)
      have keep2 : ∀ {b : Nat} {o : Obj}, w2.heap[b]? = some o → w4.heap[b]? = some o := fun hb => Nf.blk_below hb h24 (Nf.blk_lt hb)
      have keep3 : ∀ {b : Nat} {o : Obj}, w3.heap[b]? = some o → w4.heap[b]? = some o := fun hb => Nf.blk_below hb h34 (Nf.blk_lt hb)
      refine ⟨⟨Hb.out.trans (h04.mono bG), keep1 N4.out, keep1 N3.out, keep3 M1.out, ?_, ⟨cur, keep0 Hcr.out, Hcur.out⟩, fun i hi => ?_, keep1 N1.out, keep3 M4.out, keep0 Hm.out, keep2 Hbg.out, ⟨keep2 Hseen.out.var, ?_, fun x hx => ?_, Hseen.out.inj⟩, fun i x hi hx e => ?_, fun x hx => ?_⟩, ?_⟩
      · have := keep1 N2.out; rw [← Hcn.out] at this; exact this
      · obtain ⟨⟨c, fr, h1⟩, h2⟩ := Hmk.out i hi
        exact ⟨⟨c, fr, keep0 h1⟩, h2.below h04⟩
      · obtain ⟨c, h1, h2⟩ := Hseen.out.tab; exact ⟨c, keep2 h1, h2⟩
      · obtain ⟨c, h1, h2⟩ := Hseen.out.row x hx; exact ⟨c, keep2 h1, h2⟩
      · obtain ⟨⟨c, fr, h1⟩, _⟩ := Hmk.out i hi
        have := Nf.blk_lt h1
        have := Hsr.out x hx
        have e : cb i = sr x := e
        omega
      · have := Hsr.out x hx
        show wG.heap.size ≤ sr x
        omega
      · refine HL.out.lw h04 (keep3 M3.out) (keep3 M2.out) (by simp [madeCells]) ?_ ?_
        · have := Hcs.out; have := Hgw.out; have := Hcw.out; omega
        · have := Hcs.out; have := Hgw.out; omega
    have HCst := Sp.hid hCst
    have hWalk : ∀ w4, Below w3.heap.size w3 w4 → ∀ (vv : Value) (L : List Nat) (b0 : Nat), w4.ownsRow b0 3 1 vv L.length (L.map Nf.num) → Nf.Pool g.N L → (∀ q, q ∈ L ↔ Nf.Beg g q) →
        Calls Try.prog 53 #[vv, .pointer (some ⟨cw, 0, none⟩), .pointer (some ⟨cL, 0, none⟩), .pointer (some ⟨ct, 0, none⟩), .pointer (some ⟨cs, 0, none⟩), .pointer (some ⟨cc, 0, none⟩), .pointer (some ⟨cg, 0, none⟩), .pointer (some ⟨ck, 0, none⟩)] w4 (Nf.OwnWalk wG.heap.size g cl len most els ck cg (.func (.func 53) #[] #[.pointer (some ⟨cw, 0, none⟩), .pointer (some ⟨cL, 0, none⟩), .pointer (some ⟨ct, 0, none⟩), .pointer (some ⟨cs, 0, none⟩), .pointer (some ⟨cc, 0, none⟩), .pointer (some ⟨cg, 0, none⟩), .pointer (some ⟨ck, 0, none⟩)]) (.pointer (some ⟨gb, 0, none⟩)) w4) := by
      intro w4 h34 vv L b0 hown hpool hiff
      obtain ⟨hC, hLW⟩ := HCst.out w4 h34
      refine (walk_any wG ⟨gb, v, g, cl, cw, gw, len, cm, most, cL, ct, cs, cc, cg, ck, cr, ccap, bg, bs, sb, sr, cb⟩ HG0.out hlen hmost len w4 els lv [] vv L b0 hC hLW (by simp) hel hown hpool).mono ?_
      rintro e w5 ⟨b, els', lv', u', rfl, _, h1, h2, h3, h4⟩
      have hC5 := hC.tf h2
      have hF : Nf.F g len (· ∈ L) = Nf.W g len := by
        rw [show Nf.W g len = Nf.F g len (Nf.Beg g) from if_pos hex]
        exact Nf.F_congr hiff
      refine ⟨b, els', lv', rfl, Sp.hid h1.ll, Sp.hid h2, Sp.hid ?_, Sp.hid h4, Nf.blk_cell (i := 0) hC5.walk rfl, Nf.blk_cell (i := 0) hC5.gv rfl⟩
      rw [← hF]
      simpa using h3
    have HWalk := Sp.hid hWalk
    have hA : Below w.heap.size w w3.drew := (Hba.out.trans (h12.mono b01)).trans ((h23.trans ((Below.refl w3.heap.size w3).drew.mono b23)).mono (by omega))
    have HB := Sp.hid ((begin_any w3.drew gb v g (HG.out.below hA)).mono (R' := fun e w4 => ∃ vv L, e = .returned vv ∧ Hid (w4.ownsRow w3.drew.heap.size 3 1 vv (List.length L) (L.map Nf.num)) ∧ Hid (Nf.Pool g.N L) ∧ Hid (∀ q, q ∈ L ↔ Nf.Beg g q) ∧ Hid (Below w3.heap.size w3 w4) ∧ w4.cell? ⟨ck, 0, none⟩ = some (.func (.func 53) #[] #[.pointer (some ⟨cw, 0, none⟩), .pointer (some ⟨cL, 0, none⟩), .pointer (some ⟨ct, 0, none⟩), .pointer (some ⟨cs, 0, none⟩), .pointer (some ⟨cc, 0, none⟩), .pointer (some ⟨cg, 0, none⟩), .pointer (some ⟨ck, 0, none⟩)]) ∧ w4.cell? ⟨cg, 0, none⟩ = some (.pointer (some ⟨gb, 0, none⟩))) (fun e w4 ⟨vv, L, he, h1, h2, h3, h4⟩ =>
      have h34 : Below w3.heap.size w3 w4 := ((Below.refl w3.heap.size w3).drew).trans h4
      ⟨vv, L, he, Sp.hid h1, Sp.hid h2, Sp.hid h3, Sp.hid h34, by rw [h34.cell (p := ⟨ck, 0, none⟩) (Nf.blk_lt M4.out)]; exact k1, by rw [h34.cell (p := ⟨cg, 0, none⟩) (World.block_lt_of_cell? w3 _ k2)]; exact k2⟩))
    clear hA hw3 hcs hgw hcw hck m1 m2 m3 m4 hCst hWalk h12 h23 b12 b23 b01 bG q1 lcL
    go_wp2_with fail
    go_region_held3 (fun w' => w'.cell? ⟨ck, 0, none⟩ = some (.func (.func 53) #[] #[.pointer (some ⟨cw, 0, none⟩), .pointer (some ⟨cL, 0, none⟩), .pointer (some ⟨ct, 0, none⟩), .pointer (some ⟨cs, 0, none⟩), .pointer (some ⟨cc, 0, none⟩), .pointer (some ⟨cg, 0, none⟩), .pointer (some ⟨ck, 0, none⟩)]) ∧ w'.cell? ⟨cg, 0, none⟩ = some (.pointer (some ⟨gb, 0, none⟩))) (go_keep) ((first | (go_at_call 40; refine HB.out.mono ?_; rintro e w4 ⟨vv, L, rfl, Ho, Hp, Hi, H34, d1, d2⟩) | (go_at_call 53; refine (HWalk.out w4 H34.out vv L _ Ho.out Hp.out Hi.out).mono ?_; rintro e w5 ⟨b, els', lv', rfl, HLL, HTF, Hls, Hbb, f1, f2⟩)))
    all_goals
      go_wp2_with fail
      go_ret
      exact ⟨b, els', lv', rfl, HLL.out, (Nf.TF.of_below ((Hba.out.trans (Hbel.out.mono Hba.out.size)).trans ((Hba2.out.trans (H34.out.mono Hba2.out.size)).mono (Nat.le_trans Hba.out.size Hbel.out.size))) HL.out.bw).trans HTF.out, Hls.out, Hbb.out⟩
  · rw [Nf.bl_false hex] at d2
    go_enter Try.func33, Try.ntmps33
    go_wp2_with fail
    go_ret
    refine ⟨true, els, lv, rfl, HL.out.below Hba.out, Nf.TF.of_below Hba.out HL.out.bw, ?_, by simp [hel]⟩
    rw [show Nf.W g len = [] from if_neg hex, List.append_nil, List.take_of_length_le]
    simp [Sp.lists]; omega
end Go.Proofs.Ytnaojfhhjknejaa
