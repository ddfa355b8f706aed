/-
  The walk of what each calls: all words of a length that go on from a set.
-/
import Derived.Test.YtnaojfhhjknejaaMgAuClAuVAuWp
set_option linter.unusedVariables false
set_option linter.unusedSimpArgs false
namespace Go.Proofs.Ytnaojfhhjknejaa
open Go.RowKit
namespace Nf
theorem Cst.drew {wG w : World} {c : WcK} (h : Cst wG w c) : Cst wG w.drew c := h.tf ⟨(Below.refl _ w).drew, fun _ _ _ _ h _ => h⟩
/-- One text appended where there is room. -/
theorem wp_append_room {P : Program} {w : World} {o : Oper} {a : Act} {K : Act → World → Prop} {Q : Exit → Act → World → Prop} (s x : Operand) (t : TypeId) (ho : o.op = .call { callee := .builtin .append, args := #[s, x], argTypes := #[t, t] }) (e : TypeId) (i : TypeInfo) (ht : P.underlying t = some (.slice e)) (hi : P.info? e = some i) (hz : i.size = 1)
    (b n cap : Nat) (hs : a.eval s = .slice (some ⟨b, 0, none⟩) n cap) (g : Nat) (u : Value) (hx : a.eval x = .slice (some ⟨g, 0, none⟩) 1 1) (hg : w.cell? ⟨g, 0, none⟩ = some u) (h1 : u.oneCell' = true) (hroom : n + 1 ≤ cap)
    (hc : (w.cell? ⟨b, n, none⟩).isSome = true) (hf : w.frozen? ⟨b, n, none⟩ = false) (h : K (a.put o.dst (.slice (some ⟨b, 0, none⟩) (n + 1) cap)) (w.setCell ⟨b, n, none⟩ u)) : o.wp P a w K Q := by
  have hr := run_append_room_cells (P := P) w t o.type e i ht hi b 0 n cap ⟨g, 0, none⟩ 1 1 [u] (by simp [hz]) (fun j v hj => by
    match j, hj with
    | 0, hj => simp at hj; subst hj; exact hg) (by simpa using h1) hroom (fun j hj => by simp at hj; subst hj; simpa [hz] using hc) (fun j hj => by simp at hj; subst hj; simpa [hz] using hf)
  have hsc : w.setCells b n [u] = w.setCell ⟨b, n, none⟩ u := by simp [World.setCells]
  simp only [hz, Nat.mul_one, Nat.zero_add, hsc] at hr
  unfold Oper.wp execOp
  simp only [ho, resolve, invoke, builtin, Sem.run_bind, Sem.run_pure, Result.andThen_ok, List.map_toArray, List.map_cons, List.map_nil, hs, hx, hr]
  exact h
/-- What the next sets are, and that all else stands. -/
def StepsPost (wG : World) (c : WcK) (l : List Nat) (rem : Nat) (u : List ByteArray) (w : World) (e : Ending) (w' : World) : Prop :=
  ∃ nb V L, e = .returned (.slice (some ⟨nb, 0, none⟩) c.v.sn c.v.sn) ∧ Hid (NextAt w' w.heap.size c.v.sn nb V L) ∧ Hid (∀ x, x < c.v.sn → Pool c.g.N (L x) ∧ ∀ y, y ∈ L x ↔ T2 c.g c.v (Ex c.g rem) l x y) ∧ Hid (Below w.heap.size w w') ∧
    w'.cell? ⟨c.cs, 0, none⟩ = some (.func (.func 55) #[] #[.pointer (some ⟨c.bg, 0, none⟩), .pointer (some ⟨c.bs, 0, none⟩)]) ∧
    w'.cell? ⟨c.cc, 0, none⟩ = some (.slice (some ⟨c.cr, 0, none⟩) (c.len + 1) c.ccap) ∧
    w'.cell? ⟨c.cL, 0, none⟩ = some (.int .i64 (c.len : Int)) ∧
    w'.cell? ⟨c.cw, 0, none⟩ = some (.slice (some ⟨c.gw, 0, none⟩) u.length c.len) ∧
    w'.cell? ⟨c.cr, rem, none⟩ = some (.slice (some ⟨c.cb rem, 0, none⟩) c.g.N c.g.N)
theorem steps_any (wG w : World) (c : WcK) (hG : GrAt wG c.gb c.v c.g) (hC : Cst wG w c) (u : List ByteArray) (l : List Nat) (rem : Nat) (hrem : rem ≤ c.len) (ao : Option Addr) (acap : Nat) (hat : Seq num w ao l.length l) (hpool : Pool c.g.N l)
    (hw : w.heap[c.cw]? = some (.cells #[.slice (some ⟨c.gw, 0, none⟩) u.length c.len] 22 (0, 0))) :
    Calls Try.prog 55 #[.slice ao l.length acap, .slice (some ⟨c.cb rem, 0, none⟩) c.g.N c.g.N, .pointer (some ⟨c.bg, 0, none⟩), .pointer (some ⟨c.bs, 0, none⟩)] w (StepsPost wG c l rem u w) := by
  have h := stepS_any wG w c.gb c.v c.g hG hC.below c.bg c.bs c.sb c.sr hC.bgp hC.seen hC.srb (c.cb rem) (Ex c.g rem) (hC.marks rem hrem).2 (fun x hx => hC.sep rem x hrem hx) ao l.length acap l hat hpool
  refine h.mono ?_
  rintro e w' ⟨nb, V, L, rfl, h1, h2, h3⟩
  obtain ⟨cur, hc1, hc2⟩ := hC.canr
  have key : ∀ {b i : Nat} {cs : Array Value} {t : TypeId} {fr : Nat × Nat} {v : Value}, w.heap[b]? = some (Obj.cells cs t fr) → cs[i]? = some v → w'.cell? ⟨b, i, none⟩ = some v := fun hb hv => blk_cell (blk_below hb h3 (blk_lt hb)) hv
  exact ⟨nb, V, L, rfl, Sp.hid h1, Sp.hid h2, Sp.hid h3, key hC.steps rfl, key hC.can rfl, key hC.len_ rfl, key hw rfl, key hc1 (hc2 rem hrem)⟩
end Nf

set_option maxHeartbeats 4000000 in
set_option maxRecDepth 100000 in
theorem walk_any (wG : World) (c : Nf.WcK) (hG : Nf.GrAt wG c.gb c.v c.g) (hlen : c.len ≤ 60) (hmost : c.most ≤ 1000) :
    ∀ (rem : Nat) (w : World) (els : List Lst) (lv : Value) (u : List ByteArray) (vat : Value) (l : List Nat) (b0 : Nat), Nf.Cst wG w c → Nf.LW w wG.heap.size c.cl c.cw c.gw c.len els lv u → u.length + rem = c.len → els.length ≤ c.most → w.ownsRow b0 3 1 vat l.length (l.map Nf.num) → Nf.Pool c.g.N l →
      Calls Try.prog 53 #[vat, .pointer (some ⟨c.cw, 0, none⟩), .pointer (some ⟨c.cL, 0, none⟩), .pointer (some ⟨c.ct, 0, none⟩), .pointer (some ⟨c.cs, 0, none⟩), .pointer (some ⟨c.cc, 0, none⟩), .pointer (some ⟨c.cg, 0, none⟩), .pointer (some ⟨c.ck, 0, none⟩)] w (Nf.WalkPost wG c els u l rem w)
  | 0, w, els, lv, u, vat, l, b0, hC, hL, hul, hel, hat, hpool => by
    have hul : u.length = c.len := by omega
    have k1 : w.cell? ⟨c.cw, 0, none⟩ = some (.slice (some ⟨c.gw, 0, none⟩) c.len c.len) := by rw [← hul]; have := Nf.blk_cell (i := 0) hL.wvar rfl; rw [hul] at this ⊢; exact this
    have k2 : w.cell? ⟨c.cL, 0, none⟩ = some (.int .i64 (c.len : Int)) := Nf.blk_cell (i := 0) hC.len_ rfl
    have k3 : w.cell? ⟨c.ct, 0, none⟩ = some (.func (.func 31) #[] #[.pointer (some ⟨c.cl, 0, none⟩), .pointer (some ⟨c.cm, 0, none⟩)]) := Nf.blk_cell (i := 0) hC.take rfl
    have HT := take_any w wG.heap.size c.cl c.cw c.gw c.len c.cm c.most els lv u hL hC.most_ hlen hel hmost
    rw [hul] at HT
    have HT := Sp.hid HT
    have hlen63 : c.len ≤ 60 := hlen
    have HC := Sp.hid hC
    clear hG hL hat hC hul
    go_enter Try.func53, Try.ntmps53
    go_wp2_with fail
    refine HT.out.mono ?_
    rintro e w2 ⟨x, lv', rfl, hx, hL2, hT2⟩
    have HL2 := Sp.hid hL2
    have HT2 := Sp.hid hT2
    clear hL2 hT2
    go_wp2_with fail
    go_ret
    refine ⟨_, els ++ [x], lv', u, rfl, fun _ => rfl, HL2.out, HT2.out, ?_, ?_⟩
    · simp only [Nf.F, List.map_cons, List.map_nil, List.append_nil, Sp.lists, List.map_append, hx]
      rw [List.take_of_length_le]
      simp; omega
    · simp
  | rem + 1, w, els, lv, u, vat, l, b0, hC, hL, hul, hel, hat, hpool => by
    obtain ⟨i0, hi, hz0, hz1, hz2⟩ := info_parts Nf.textInfo
    have IH := Sp.hid (walk_any wG c hG hlen hmost rem)
    have hlN := hpool.len
    have hN := hG.small
    have hsn := hG.sn
    obtain ⟨ao, acap, rfl, hseq, _⟩ := Nf.seq_of_own hat (by unfold maxLen; omega)
    have k1 : w.cell? ⟨c.cw, 0, none⟩ = some (.slice (some ⟨c.gw, 0, none⟩) u.length c.len) := Nf.blk_cell (i := 0) hL.wvar rfl
    have k2 : w.cell? ⟨c.cL, 0, none⟩ = some (.int .i64 (c.len : Int)) := Nf.blk_cell (i := 0) hC.len_ rfl
    have k3 : w.cell? ⟨c.cs, 0, none⟩ = some (.func (.func 55) #[] #[.pointer (some ⟨c.bg, 0, none⟩), .pointer (some ⟨c.bs, 0, none⟩)]) := Nf.blk_cell (i := 0) hC.steps rfl
    have k4 : w.cell? ⟨c.cc, 0, none⟩ = some (.slice (some ⟨c.cr, 0, none⟩) (c.len + 1) c.ccap) := Nf.blk_cell (i := 0) hC.can rfl
    have k5 : w.cell? ⟨c.cr, rem, none⟩ = some (.slice (some ⟨c.cb rem, 0, none⟩) c.g.N c.g.N) := by obtain ⟨cur, h1, h2⟩ := hC.canr; exact Nf.blk_cell h1 (h2 rem (by omega))
    have HSt := Sp.hid (Nf.steps_any wG w.drew c hG hC.drew u l rem (by omega) ao acap hseq hpool hL.wvar)
    have HG := Sp.hid hG
    have HC := Sp.hid hC
    have HL := Sp.hid hL
    have Hul := Sp.hid hul
    have hne : ((u.length : Int) == (c.len : Int)) = false := by simp; omega
    obtain ⟨ul, hule⟩ : ∃ ul, u.length = ul := ⟨_, rfl⟩
    have Hule := Sp.hid hule
    rw [hule] at k1 hne hul
    obtain ⟨m1, hm1⟩ : ∃ m1 : Nat, rem + 1 = m1 := ⟨_, rfl⟩
    obtain ⟨cn, hcn⟩ : ∃ cn : Nat, c.len + 1 = cn := ⟨_, rfl⟩
    have Hcn := Sp.hid hcn
    rw [hcn] at k4
    have r1 : (0 : Int) ≤ (rem : Int) := by omega
    have r2 : (rem : Int) < (cn : Int) := by omega
    have e1 : IntKind.i64.wrap ((c.len : Int) - (ul : Int)) = (m1 : Int) := by rw [IntWalk.i64_in _ (by omega)]; omega
    have e2 : IntKind.i64.wrap ((m1 : Int) - 1) = (rem : Int) := by rw [IntWalk.i64_in _ (by omega)]; omega
    have Hm1 := Sp.hid hm1
    clear hm1 hcn
    clear hG hC hL hat hseq hule
    go_enter Try.func53, Try.ntmps53
    go_wp2_with fail
    go_region_held3 (fun w' => w'.cell? ⟨c.cs, 0, none⟩ = some (.func (.func 55) #[] #[.pointer (some ⟨c.bg, 0, none⟩), .pointer (some ⟨c.bs, 0, none⟩)]) ∧ w'.cell? ⟨c.cc, 0, none⟩ = some (.slice (some ⟨c.cr, 0, none⟩) cn c.ccap) ∧ w'.cell? ⟨c.cL, 0, none⟩ = some (.int .i64 (c.len : Int)) ∧ w'.cell? ⟨c.cw, 0, none⟩ = some (.slice (some ⟨c.gw, 0, none⟩) ul c.len) ∧ w'.cell? ⟨c.cr, rem, none⟩ = some (.slice (some ⟨c.cb rem, 0, none⟩) c.g.N c.g.N)) (go_keep) ((go_at_call 55; refine HSt.out.mono ?_; rintro e w2 ⟨nb, V, L, rfl, Hnx, Hpl, Hb, d1, d2, d3, d4, d5⟩; rw [Hule.out] at d4; rw [Hcn.out] at d2))
    all_goals
      have hb : Below w.heap.size w w2 := ((Below.refl _ w).drew).trans Hb.out
      have HLW := Sp.hid (HL.out.below hb)
      have HTF := Sp.hid (Nf.TF.of_below hb HL.out.bw)
      have HCw := Sp.hid (HC.out.tf HTF.out)
      have hsz : w.heap.size ≤ w.drew.heap.size := Nat.le_refl _
      clear hb d1 d2 d3 d4 d5 k1 k2 k3 k4 k5 e1 e2 r1 r2 HSt
      go_wp2_with fail
      go_loopw [10, 11, 31] (fun _ _ i wr => ∃ (x : Nat) (els' : List Lst) (lv' : Value), i = .int .i64 x ∧ x ≤ c.v.sn ∧ Nf.LW wr wG.heap.size c.cl c.cw c.gw c.len els' lv' u ∧ Nf.TF wG.heap.size w2 wr ∧ Sp.lists els' = Sp.lists els ++ (Nf.Fp c.g rem (· ∈ l) x).map (u ++ ·) ∧ els'.length ≤ c.most) (fun _ _ i _ => c.v.sn - (intOf i).toNat)
      case atStart => exact ⟨0, els, lv, rfl, Nat.zero_le _, HLW.out, Nf.TF.refl _ _, by simp [Nf.Fp_zero], hel⟩
      case round =>
        obtain ⟨x, els', lv', rfl, hxs, hlw, htf, hls, hel'⟩ := hrel
        have Hlw := Sp.hid hlw
        have Htf := Sp.hid htf
        have Hls := Sp.hid hls
        clear hlw htf hls
        by_cases hx : x < c.v.sn
        · have hnx := Hnx.out.tf Htf.out
          have hcx := hnx.tab.cell hx
          simp only [id] at hcx
          have hrowx := hnx.row hx
          have Hrowx := Sp.hid hrowx
          obtain ⟨hpx, hmx⟩ := Hpl.out x hx
          have hLN := hpx.len
          obtain ⟨vo, vcap, hvx, hseqx, _⟩ := Nf.seq_of_own hrowx (by unfold maxLen; omega)
          have Hvx := Sp.hid hvx
          obtain ⟨ln, hln⟩ : ∃ ln, (L x).length = ln := ⟨_, rfl⟩
          have Hln := Sp.hid hln
          rw [hvx, hln] at hcx
          have hsl : x < c.g.sig.length := by rw [HG.out.sig.1]; exact hx
          have hget : c.g.sig[x]? = some c.g.sig[x] := List.getElem?_eq_getElem hsl
          obtain ⟨s, hs⟩ : ∃ s, c.g.sig[x] = s := ⟨_, rfl⟩
          rw [hs] at hget
          have Hget := Sp.hid hget
          have Hst := Sp.hid (fun y => (hmx y).trans (Nf.t2_iff HG.out hget l y))
          have Hpx := Sp.hid hpx
          clear hnx hrowx hpx hmx hseqx hvx hln hget hs
          by_cases h0 : ln = 0
          · subst h0
            have HfS := Sp.hid (Nf.Fp_succ (k := rem) (S := (· ∈ l)) Hget.out)
            have HhN := Sp.hid (Nf.Hs_none Hst.out (List.length_eq_zero_iff.1 Hln.out))
            go_wp2_with fail
            go_roundw
            case rel => exact ⟨x + 1, els', lv', by go_num, hx, Hlw.out, Htf.out, by rw [HfS.out, HhN.out, List.append_nil]; exact Hls.out, hel'⟩
            case measure => simp [intOf]; omega
          · have hwb := Htf.out.below
            have HCr := Sp.hid (HCw.out.tf Htf.out)
            have hgl := Nf.blk_lt HG.out.blk
            have hbr := HCr.out.below
            have k1 : wr.cell? ⟨c.cw, 0, none⟩ = some (.slice (some ⟨c.gw, 0, none⟩) ul c.len) := by rw [← Hule.out]; exact Nf.blk_cell (i := 0) Hlw.out.wvar rfl
            have k2 : wr.cell? ⟨c.cg, 0, none⟩ = some (.pointer (some ⟨c.gb, 0, none⟩)) := Nf.blk_cell (i := 0) HCr.out.gv rfl
            have k3 : wr.cell? ⟨c.gb, 0, none⟩ = some (.slice c.v.so c.v.sn c.v.scap) := by rw [hbr.cell (p := ⟨c.gb, 0, none⟩) hgl]; exact Nf.blk_cell (i := 0) HG.out.blk rfl
            obtain ⟨sb, so, hso, hsc⟩ := HG.out.sig.2.2.1 (by omega)
            have hscx := hsc x hx
            have hgd : c.g.sig.getD x ByteArray.empty = s := by simp [List.getD, Hget.out]
            rw [hgd] at hscx
            have hsl2 := World.block_lt_of_cell? wG _ hscx
            have k4 : wr.cell? ⟨sb, so + x, none⟩ = some (.string s) := by rw [hbr.cell (p := ⟨sb, so + x, none⟩) hsl2]; exact hscx
            have hssz : s.size ≤ maxLen := HG.out.sig.2.2.2 s (List.mem_of_getElem? Hget.out)
            have hcg : c.cg ≠ c.gw := by obtain ⟨cur, h1, _⟩ := Hlw.out.wrow; exact Nf.blk_ne HCr.out.gv h1 (by decide)
            have hcw : c.cw ≠ c.gw := by obtain ⟨cur, h1, _⟩ := Hlw.out.wrow; exact Nf.blk_ne Hlw.out.wvar h1 (by decide)
            have hbg := Hlw.out.bgw
            have hgg : c.gb ≠ c.gw := by intro e; have hgl : c.gb < wG.heap.size := hgl; omega
            have hgs : sb ≠ c.gw := by intro e; have hgl : sb < wG.heap.size := hsl2; omega
            have l1 := Nf.blk_lt Hlw.out.wvar
            have l2 := Nf.blk_lt HCr.out.gv
            have l3 : c.gb < wr.heap.size := by have := hbr.size; omega
            have l4 : sb < wr.heap.size := by have := hbr.size; have hgl : sb < wG.heap.size := hsl2; omega
            have hba : Below wr.heap.size wr ((wr.alloc (.cells #[.string s] 9)).drew) := ((Below.refl _ wr).alloc (Nat.le_refl _) _).drew
            have hmore := (Hlw.out.below hba).more (s := s) (by have := Hule.out; omega) hssz
            have htw := (Nf.TF.of_below hba Hlw.out.bw).trans hmore.2
            obtain ⟨gcur, hg1, hg2, hg3, _⟩ := (Hlw.out.below hba).wrow
            have hgc : (((wr.alloc (.cells #[.string s] 9)).drew).cell? ⟨c.gw, ul, none⟩).isSome = true := by
              rw [Nf.blk_cell (i := ul) hg1 (Array.getElem?_eq_getElem (by omega))]; rfl
            have hgf : ((wr.alloc (.cells #[.string s] 9)).drew).frozen? ⟨c.gw, ul, none⟩ = false := Nf.blk_free hg1
            have hgn : ((wr.alloc (.cells #[.string s] 9)).drew).cell? ⟨wr.heap.size, 0, none⟩ = some (.string s) := by simp
            have keepb : ∀ p : Addr, p.block < wr.heap.size → p.block ≠ c.gw → (((wr.alloc (.cells #[.string s] 9)).drew).setCell ⟨c.gw, ul, none⟩ (.string s)).cell? p = wr.cell? p := fun p hp hq => World.cell?_of_block ((Below.heap_setCell _ _ _ _ hq).trans (Below.heap_alloc _ _ _ hp))
            have keepf : (((wr.alloc (.cells #[.string s] 9)).drew).setCell ⟨c.gw, ul, none⟩ (.string s)).frozen? ⟨c.cw, 0, none⟩ = false := Nf.blk_free ((Below.heap_setCell _ _ _ _ hcw).trans (Nf.blk_alloc Hlw.out.wvar _))
            have hul1 : (u ++ [s]).length = ul + 1 := by simp [Hule.out]
            rw [Hule.out] at hmore htw
            have Hmore := Sp.hid hmore.1
            have Htw := Sp.hid htw
            have Hul1 := Sp.hid hul1
            have hroom : ul + 1 ≤ c.len := by omega
            have hx0 : (0 : Int) ≤ (x : Int) := by omega
            have hxs2 : (x : Int) < (c.v.sn : Int) := by omega
            have hso2 : c.v.so = some ⟨sb, so, none⟩ := hso
            rw [hso2] at k3
            have hl0 : ((ln : Int) == 0) = false := by simp; omega
            clear hmore htw hba hsc hscx hgd hbr hwb hg1 hg2 hg3 hssz hul1 hgl hsl2 hso hso2 hsl
            go_wp2_with fail
            refine Open.begin (S := fun w' => w'.cell? ⟨c.cw, 0, none⟩ = some (.slice (some ⟨c.gw, 0, none⟩) ul c.len) ∧ w'.cell? ⟨c.cg, 0, none⟩ = some (.pointer (some ⟨c.gb, 0, none⟩)) ∧ w'.cell? ⟨c.gb, 0, none⟩ = some (.slice (some ⟨sb, so, none⟩) c.v.sn c.v.scap) ∧ w'.cell? ⟨sb, so + x, none⟩ = some (.string s)) (z := 10) (by kernel_rfl) ?_
            have HS : wr.drew.cell? ⟨c.cw, 0, none⟩ = some (.slice (some ⟨c.gw, 0, none⟩) ul c.len) ∧ wr.drew.cell? ⟨c.cg, 0, none⟩ = some (.pointer (some ⟨c.gb, 0, none⟩)) ∧ wr.drew.cell? ⟨c.gb, 0, none⟩ = some (.slice (some ⟨sb, so, none⟩) c.v.sn c.v.scap) ∧ wr.drew.cell? ⟨sb, so + x, none⟩ = some (.string s) := ⟨k1, k2, k3, k4⟩
            refine Open.take (i := 0) (v := ?_) rfl (by kernel_rfl) (by kernel_rfl) (by kernel_rfl) (by kernel_rfl) (fun _ _ _ h => h) HS (Or.inl ⟨rfl, ?_⟩) ?_
            rotate_left
            · rintro w' ⟨k1, k2, k3, k4⟩
              go_simp
              try rfl
            simp only [Act.put, List.setIfInBounds_toArray, List.set_cons_zero, List.set_cons_succ]
            refine Open.take (i := 1) (v := ?_) rfl (by kernel_rfl) (by kernel_rfl) (by kernel_rfl) (by kernel_rfl) (fun _ _ _ h => h) HS (Or.inl ⟨rfl, ?_⟩) ?_
            rotate_left
            · rintro w' ⟨k1, k2, k3, k4⟩
              go_simp
              try rfl
            simp only [Act.put, List.setIfInBounds_toArray, List.set_cons_zero, List.set_cons_succ]
            refine Open.take (i := 2) (v := ?_) rfl (by kernel_rfl) (by kernel_rfl) (by kernel_rfl) (by kernel_rfl) (fun _ _ _ h => h) HS (Or.inl ⟨rfl, ?_⟩) ?_
            rotate_left
            · rintro w' ⟨k1, k2, k3, k4⟩
              go_simp
              try rfl
            simp only [Act.put, List.setIfInBounds_toArray, List.set_cons_zero, List.set_cons_succ]
            refine Open.take (i := 3) (v := ?_) rfl (by kernel_rfl) (by kernel_rfl) (by kernel_rfl) (by kernel_rfl) (fun _ _ _ h => h) HS (Or.inl ⟨rfl, ?_⟩) ?_
            rotate_left
            · rintro w' ⟨k1, k2, k3, k4⟩
              go_simp
              try rfl
            simp only [Act.put, List.setIfInBounds_toArray, List.set_cons_zero, List.set_cons_succ]
            refine Open.take (i := 4) (v := ?_) rfl (by kernel_rfl) (by kernel_rfl) (by kernel_rfl) (by kernel_rfl) (fun _ _ _ h => h) HS (Or.inl ⟨rfl, ?_⟩) ?_
            rotate_left
            · rintro w' ⟨k1, k2, k3, k4⟩
              go_simp
              try rfl
            simp only [Act.put, List.setIfInBounds_toArray, List.set_cons_zero, List.set_cons_succ]
            refine Open.take (i := 5) (v := ?_) rfl (by kernel_rfl) (by kernel_rfl) (by kernel_rfl) (by kernel_rfl) (fun _ _ _ h => h) HS (Or.inl ⟨rfl, ?_⟩) ?_
            rotate_left
            · rintro w' ⟨k1, k2, k3, k4⟩
              go_simp
              try rfl
            simp only [Act.put, List.setIfInBounds_toArray, List.set_cons_zero, List.set_cons_succ]
            refine Open.take (i := 6) (v := ?_) rfl (by kernel_rfl) (by kernel_rfl) (by kernel_rfl) (by kernel_rfl) (fun _ _ _ h => h) HS (Or.inl ⟨rfl, ?_⟩) ?_
            rotate_left
            · rintro w' ⟨k1, k2, k3, k4⟩
              go_simp
              try rfl
            simp only [Act.put, List.setIfInBounds_toArray, List.set_cons_zero, List.set_cons_succ]
            refine Open.take (i := 7) (v := ?_) rfl (by kernel_rfl) (by kernel_rfl) (by kernel_rfl) (by kernel_rfl) (fun _ _ _ h => h) HS (Or.inl ⟨rfl, ?_⟩) ?_
            rotate_left
            · rintro w' ⟨k1, k2, k3, k4⟩
              go_simp
              try rfl
            simp only [Act.put, List.setIfInBounds_toArray, List.set_cons_zero, List.set_cons_succ]
            refine Open.one (i := 8) rfl (by kernel_rfl) rfl (fun K hK => ?_)
            go_simp
            refine hK _ _ ⟨fun _ => ⟨?_, ?_, ?_, ?_⟩, ?_⟩
            · simpa [World.cell?_alloc_past _ _ _ l1] using k1
            · simpa [World.cell?_alloc_past _ _ _ l2] using k2
            · simpa [World.cell?_alloc_past _ _ _ l3] using k3
            · simpa [World.cell?_alloc_past _ _ _ l4] using k4
            clear hK K
            refine Open.one (i := 9) rfl (by kernel_rfl) rfl (fun K hK => ?_)
            refine Nf.wp_append_room _ _ 22 (by rfl) 9 i0 (by rfl) hi hz1 c.gw ul c.len (by rfl) wr.heap.size (.string s) (by rfl) hgn rfl hroom hgc hgf ?_
            have HSb : (((wr.alloc (.cells #[.string s] 9)).drew).setCell ⟨c.gw, ul, none⟩ (.string s)).cell? ⟨c.cw, 0, none⟩ = some (.slice (some ⟨c.gw, 0, none⟩) ul c.len) ∧ (((wr.alloc (.cells #[.string s] 9)).drew).setCell ⟨c.gw, ul, none⟩ (.string s)).cell? ⟨c.cg, 0, none⟩ = some (.pointer (some ⟨c.gb, 0, none⟩)) ∧ (((wr.alloc (.cells #[.string s] 9)).drew).setCell ⟨c.gw, ul, none⟩ (.string s)).cell? ⟨c.gb, 0, none⟩ = some (.slice (some ⟨sb, so, none⟩) c.v.sn c.v.scap) ∧ (((wr.alloc (.cells #[.string s] 9)).drew).setCell ⟨c.gw, ul, none⟩ (.string s)).cell? ⟨sb, so + x, none⟩ = some (.string s) :=
              ⟨by rw [keepb ⟨c.cw, 0, none⟩ l1 hcw]; exact k1, by rw [keepb ⟨c.cg, 0, none⟩ l2 hcg]; exact k2, by rw [keepb ⟨c.gb, 0, none⟩ l3 hgg]; exact k3, by rw [keepb ⟨sb, so + x, none⟩ l4 hgs]; exact k4⟩
            have m1 := HSb.1
            obtain ⟨w3, hw3⟩ : ∃ w3, ((wr.alloc (.cells #[.string s] 9)).drew).setCell ⟨c.gw, ul, none⟩ (.string s) = w3 := ⟨_, rfl⟩
            rw [hw3] at Hmore Htw HSb keepf m1 ⊢
            clear hw3 keepb
            refine hK _ _ ⟨fun _ => HSb, ?_⟩
            clear hK K
            refine Open.one (i := 10) rfl (by kernel_rfl) rfl (fun K hK => ?_)
            go_simp
            refine hK _ _ ⟨fun e => absurd rfl e, ?_⟩
            clear hK K HS HSb
            refine Open.end (by kernel_rfl) ?_
            obtain ⟨w4, hw4⟩ : ∃ w4, w3.setCell ⟨c.cw, 0, none⟩ (.slice (some ⟨c.gw, 0, none⟩) (ul + 1) c.len) = w4 := ⟨_, rfl⟩
            rw [hw4] at Hmore Htw ⊢
            clear hw4 k1 k2 k3 k4 m1 keepf hgc hgf hgn l1 l2 l3 l4
            have HC4 := Sp.hid (HCr.out.tf Htw.out)
            have q1 : w4.cell? ⟨c.ck, 0, none⟩ = some (.func (.func 53) #[] #[.pointer (some ⟨c.cw, 0, none⟩), .pointer (some ⟨c.cL, 0, none⟩), .pointer (some ⟨c.ct, 0, none⟩), .pointer (some ⟨c.cs, 0, none⟩), .pointer (some ⟨c.cc, 0, none⟩), .pointer (some ⟨c.cg, 0, none⟩), .pointer (some ⟨c.ck, 0, none⟩)]) := Nf.blk_cell (i := 0) HC4.out.walk rfl
            have hown4 := Nf.own_tf Hrowx.out Htw.out (by unfold Nf.KindW; decide)
            rw [Hvx.out, Hln.out] at hown4
            have HI := Sp.hid (IH.out w4 els' lv' (u ++ [s]) (.slice vo ln vcap) (L x) _ HC4.out Hmore.out (by have := Hul1.out; omega) hel' (by rw [Hln.out]; exact hown4) Hpx.out)
            clear hown4
            go_wp2_with fail
            refine HI.out.mono ?_
            rintro e w5 ⟨b, els2, lv2, u2, rfl, hu2, hlw2, htf2, hls2, hb2⟩
            have Hlw2 := Sp.hid hlw2
            have Htf2 := Sp.hid htf2
            have Hls2 := Sp.hid hls2
            have HT5 := Sp.hid (Htf.out.trans (Htw.out.trans htf2))
            have HfS := Sp.hid (Nf.Fp_succ (k := rem) (S := (· ∈ l)) Hget.out)
            have HhN := Sp.hid (Nf.Hs_some Hst.out (fun e => h0 (by rw [← Hln.out, e]; rfl)))
            clear hlw2 htf2 hls2 q1
            have hkey : Sp.lists els ++ (Nf.Fp c.g rem (· ∈ l) (x + 1)).map (u ++ ·) = Sp.lists els' ++ (Nf.F c.g rem (· ∈ L x)).map ((u ++ [s]) ++ ·) := by
              rw [HfS.out, HhN.out, List.map_append, ← List.append_assoc, ← Hls.out, Nf.map_cons]
            have Hkey := Sp.hid hkey
            clear hkey
            have hlen2 : els2.length = (Sp.lists els2).length := by simp [Sp.lists]
            have Hlen2 := Sp.hid hlen2
            clear hlen2
            cases b with
            | false =>
              have Hb2 := Sp.hid hb2
              clear hb2
              go_wp2_with fail
              go_ret
              refine ⟨false, els2, lv2, u2, rfl, (fun e => by cases e), Hlw2.out, HTF.out.trans HT5.out, ?_, Hb2.out⟩
              have hgt : ¬ els2.length ≤ c.most := fun h => by have := Hb2.out; rw [decide_eq_true h] at this; cases this
              obtain ⟨r, hr⟩ := Nf.Fp_rest c.g rem (· ∈ l) (x + 1)
              rw [hr, List.map_append, ← List.append_assoc, Hkey.out, Nf.take_large, Hls2.out]
              rw [Hlen2.out, Hls2.out] at hgt
              exact hgt
            | true =>
              obtain rfl := hu2 rfl
              have hle : els2.length ≤ c.most := by simpa using hb2.symm
              have hcw5 := Nf.blk_cell (i := 0) Hlw2.out.wvar rfl
              have hfr5 := Nf.blk_free (i := 0) Hlw2.out.wvar
              obtain ⟨u1, hu1⟩ : ∃ u1, (u ++ [s]).length = u1 := ⟨_, rfl⟩
              rw [hu1] at hcw5
              have hu1' : u1 = ul + 1 := by rw [← hu1]; exact Hul1.out
              have s1 : IntKind.i64.wrap ((u1 : Int) - 1) = (ul : Int) := by rw [IntWalk.i64_in _ (by omega)]; omega
              have s2 : (0 : Int) ≤ (ul : Int) := by omega
              have s3 : (ul : Int) ≤ (c.len : Int) := by omega
              have hless := Hlw2.out.less
              rw [Hule.out] at hless
              have Hless := Sp.hid hless
              clear hless hu1 hu1' hb2
              go_wp2_with fail
              go_roundw
              case rel => exact ⟨x + 1, els2, lv2, by go_num, hx, Hless.out.1, HT5.out.trans Hless.out.2, by
                rw [Hkey.out, Hls2.out]
                refine Nf.take_small ?_
                rw [← Hls2.out, ← Hlen2.out]; exact hle, hle⟩
              case measure => simp [intOf]; omega
        · have hxe : x = c.v.sn := by omega
          have HF := Sp.hid (Nf.Fp_all (g := c.g) (k := rem) (S := (· ∈ l)) (x := x) (by rw [HG.out.sig.1]; omega))
          clear hxe
          go_wp2_with fail
          go_ret
          refine ⟨_, els', lv', u, rfl, fun _ => rfl, Hlw.out, HTF.out.trans Htf.out, ?_, ?_⟩
          · rw [← HF.out, ← Hls.out, List.take_of_length_le]
            simp [Sp.lists]; omega
          · simp [hel']
end Go.Proofs.Ytnaojfhhjknejaa
