/-
  append(nil, a list of texts that came in ...) at a step of a region that draws its order.
-/
import Derived.Test.YtpoblcmjfcpiaaaGreatMgReIl
import Derived.Laws.AppendOwn
import Derived.Laws.OwnMore
set_option linter.unusedVariables false
namespace Go.Proofs.YtpoblcmjfcpiaaaGreat
open Go.RowKit
namespace Nf
theorem run_append_nil0 (w : World) (ty : TypeId) (c : Nat) : (Builtin.append_ #[22, 22] ty #[.slice none 0 0, .slice none 0 c]).run Tryz.prog w = .ok (.slice none 0 0) w := by
  obtain ⟨i0, hi, hz0, hz1, hz2⟩ := info_parts strInfo
  simp [Builtin.append_, run_underlying Tryz.underlying22, sizeOf, typeInfo, hi, Builtin.lenOf, Builtin.firstCells]
theorem run_append_row (w : World) (ty : TypeId) (base : Nat) (so : Option Addr) (sn scap : Nat) (sig : List ByteArray) (h : Sp.Row w so sn sig) (hr : sn * 16 ≤ 140737488351232) (hb : base ≤ w.heap.size) :
    ∃ so' sn' scap' w', (Builtin.append_ #[22, 22] ty #[.slice none 0 0, .slice so sn scap]).run Tryz.prog w = .ok (.slice so' sn' scap') w' ∧ w'.ownsRow base 9 1 (.slice so' sn' scap') sig.length (sig.map Value.string) ∧ Below w.heap.size w w' := by
  obtain ⟨i0, hi, hz0, hz1, hz2⟩ := info_parts strInfo
  have hl := h.1
  cases so with
  | none =>
    have h0 : sn = 0 := by
      by_cases h0 : 0 < sn
      · obtain ⟨b, off, e, _⟩ := h.2.2.1 h0; cases e
      · omega
    subst h0
    have hl0 : sig = [] := List.length_eq_zero_iff.1 hl
    subst hl0
    exact ⟨none, 0, 0, w, run_append_nil0 w ty scap, World.ownsRow_nil _ _ _ _, Below.refl _ _⟩
  | some ad =>
    have hnews : ∀ j u, (sig.map Value.string)[j]? = some u → w.cell? (ad.add j) = some u := by
      intro j u hj
      have hjl : j < sig.length := by have := (List.getElem?_eq_some_iff.1 hj).1; simpa using this
      obtain ⟨b, off, e, hc⟩ := h.2.2.1 (by omega)
      cases e
      rw [plain_add, hc j (by omega)]
      rw [List.getElem?_map] at hj
      simp [hjl] at hj
      simp [List.getD, hjl, ← hj]
    obtain ⟨v', w', hrun, hown, hg, _⟩ := run_append_own (P := Tryz.prog) w base 22 ty 9 i0 (.string ⟨#[]⟩) 1 16 Tryz.underlying22 hi hz0 hz1 hz2 rfl (by decide) (.slice none 0 0) 0 [] (World.ownsRow_nil _ _ _ _) ad sn scap (sig.map Value.string) (by simp; omega) hnews (fun u hu => by obtain ⟨s, _, rfl⟩ := List.mem_map.1 hu; rfl) (by unfold maxLen; omega) (by omega) hb
    rw [Nat.zero_add, List.nil_append] at hown
    have hb' : Below w.heap.size w w' := ⟨hg.os, hg.tape, hg.output, hg.size, fun k hk => hg.block k hk (by simp [Value.ownBlock])⟩
    rcases hown.2 with ⟨rfl, h0⟩ | ⟨g, cap, cur, rfl, _⟩
    · exact ⟨none, 0, 0, w', hrun, by rw [hl]; exact hown, hb'⟩
    · exact ⟨_, _, _, w', hrun, by rw [hl]; exact hown, hb'⟩

/-- The step. -/
theorem step_app {ops : Array Oper} {o : Oper} {a : Act} {K : Act → World → Prop} {Q : Exit → Act → World → Prop} {E : Prop} {w0 w2 w5 : World} {B : Nat} {so : Option Addr} {sn scap : Nat} {st : Int} {d2 d3 : Value} {sig : List ByteArray}
    (NB2 : w2.heap[B]? = some (.cells #[.slice so sn scap, .int .i64 st, d2, d3] 26 (0, 0))) (h02 : Below w0.heap.size w0 w2) (h25 : Below w2.heap.size w2 w5) (hrow : Sp.Row w0 so sn sig) (hr : sn * 16 ≤ 140737488351232)
    (hgd : o.guard = none) (s x : Operand) (ho : o.op = .call { callee := .builtin .append, args := #[s, x], argTypes := #[22, 22] }) (hs : a.eval s = .slice none 0 0) (hx : a.eval x = .slice so sn scap)
    (h : ∀ so' sn' scap' w6, RowKit.Hid (w6.ownsRow w0.heap.size 9 1 (.slice so' sn' scap') sig.length (sig.map Value.string)) → RowKit.Hid (Below w2.heap.size w2 w6) → RowKit.Hid (Below w5.heap.size w5 w6) → w6.cell? ⟨B, 0, none⟩ = some (.slice so sn scap) → w6.cell? ⟨B, 1, none⟩ = some (.int .i64 st) → B < w6.heap.size → K (a.put o.dst (.slice so' sn' scap')) w6) :
    if Region.wanted o (yielded ops a.tmps) = true then Oper.wp Tryz.prog o a w5 K Q else E := by
  have hw : Region.wanted o (yielded ops a.tmps) = true := by simp [Region.wanted, hgd]
  rw [if_pos hw]
  have hb5 := h02.trans (h25.mono h02.size)
  obtain ⟨so', sn', scap', w6, hrun, hown, hbel⟩ := run_append_row w5 o.type w0.heap.size so sn scap sig (hrow.below hb5) hr hb5.size
  have hb6 := h25.trans (hbel.mono h25.size)
  have k := blk_below NB2 hb6 (blk_lt NB2)
  unfold Oper.wp execOp
  simp only [ho, resolve, invoke, builtin, Sem.run_bind, Sem.run_pure, Result.andThen_ok, List.map_toArray, List.map_cons, List.map_nil, hs, hx, hrun]
  exact h _ _ _ _ (Sp.hid hown) (Sp.hid hb6) (Sp.hid hbel) (blk_cell (i := 0) k rfl) (blk_cell (i := 1) k rfl) (blk_lt k)
/-- .. where a net's block has been laid already. -/
theorem step_appZ {ops : Array Oper} {o : Oper} {a : Act} {K : Act → World → Prop} {Q : Exit → Act → World → Prop} {E : Prop} {w0 w2 w5 : World} {B : Nat} {so : Option Addr} {sn scap : Nat} {st : Int} {d2 d3 : Value} {sig : List ByteArray}
    (NB2 : w2.heap[B]? = some (.cells #[.slice so sn scap, .int .i64 st, d2, d3] 26 (0, 0))) (h02 : Below w0.heap.size w0 w2) (h25 : Below w2.heap.size w2 w5) (hrow : Sp.Row w0 so sn sig) (hr : sn * 16 ≤ 140737488351232)
    (zb : Nat) (hz : w5.heap[zb]? = some (.cells #[.slice none 0 0, .int .i64 0, .slice none 0 0, .slice none 0 0] 26 (0, 0)))
    (hgd : o.guard = none) (s x : Operand) (ho : o.op = .call { callee := .builtin .append, args := #[s, x], argTypes := #[22, 22] }) (hs : a.eval s = .slice none 0 0) (hx : a.eval x = .slice so sn scap)
    (h : ∀ so' sn' scap' w6, RowKit.Hid (w6.ownsRow w0.heap.size 9 1 (.slice so' sn' scap') sig.length (sig.map Value.string)) → RowKit.Hid (Below w2.heap.size w2 w6) → RowKit.Hid (Below w5.heap.size w5 w6) → w6.cell? ⟨B, 0, none⟩ = some (.slice so sn scap) → w6.cell? ⟨B, 1, none⟩ = some (.int .i64 st) → B < w6.heap.size →
      RowKit.Hid (w6.heap[zb]? = some (.cells #[.slice none 0 0, .int .i64 0, .slice none 0 0, .slice none 0 0] 26 (0, 0))) →
      (w6.cell? ⟨zb, 0, none⟩ = some (.slice none 0 0) ∧ w6.cell? ⟨zb, 1, none⟩ = some (.int .i64 0) ∧ w6.cell? ⟨zb, 2, none⟩ = some (.slice none 0 0) ∧ w6.cell? ⟨zb, 3, none⟩ = some (.slice none 0 0)) → (w6.frozen? ⟨zb, 0, none⟩ = false ∧ w6.frozen? ⟨zb, 1, none⟩ = false ∧ w6.frozen? ⟨zb, 2, none⟩ = false ∧ w6.frozen? ⟨zb, 3, none⟩ = false) → zb < w6.heap.size →
      K (a.put o.dst (.slice so' sn' scap')) w6) :
    if Region.wanted o (yielded ops a.tmps) = true then Oper.wp Tryz.prog o a w5 K Q else E :=
  step_app NB2 h02 h25 hrow hr hgd s x ho hs hx fun so' sn' scap' w6 ho6 hb6 hb56 k0 k1 lB => by
    have kz := blk_below hz hb56.out (blk_lt hz)
    exact h so' sn' scap' w6 ho6 hb6 hb56 k0 k1 lB (Sp.hid kz) ⟨blk_cell (i := 0) kz rfl, blk_cell (i := 1) kz rfl, blk_cell (i := 2) kz rfl, blk_cell (i := 3) kz rfl⟩ ⟨blk_free (i := 0) kz, blk_free (i := 1) kz, blk_free (i := 2) kz, blk_free (i := 3) kz⟩ (blk_lt kz)
end Nf
end Go.Proofs.YtpoblcmjfcpiaaaGreat
