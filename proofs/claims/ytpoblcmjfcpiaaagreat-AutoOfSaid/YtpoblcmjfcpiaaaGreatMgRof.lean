/-
  The walk of the reference's Of: only its error and the form of the net are told.
-/
import Derived.Test.YtpoblcmjfcpiaaaGreatMgMapBReRaRoM
import Derived.Test.YtpoblcmjfcpiaaaGreatMgOf
import Derived.Test.YtpoblcmjfcpiaaaGreatMgShelfSAuIn
import Derived.Test.YtpoblcmjfcpiaaaGreatMgWkPWkM
import Derived.IntWalk
set_option linter.unusedVariables false
set_option linter.unusedSimpArgs false
namespace Go.Proofs.YtpoblcmjfcpiaaaGreat
open Go.RowKit
namespace Nf
theorem inL_iff (sig : List ByteArray) (s : ByteArray) : Sp.inL sig s = true ↔ s ∈ sig := by
  unfold Sp.inL
  rw [List.any_eq_true]
  constructor
  · rintro ⟨x, hx, h⟩
    have h1 : x.data.toList = s.data.toList := by simpa using h
    have h2 : x = s := by
      obtain ⟨xd⟩ := x
      obtain ⟨sd⟩ := s
      simp only at h1
      exact congrArg ByteArray.mk (Array.ext' h1)
    rw [← h2]; exact hx
  · intro h; exact ⟨s, h, by simp⟩
theorem isF_iff (v sig : List ByteArray) : Sp.isF v sig = true ↔ ∀ s ∈ v, s ∈ sig := by
  unfold Sp.isF
  rw [List.all_eq_true]
  exact ⟨fun h s hs => (inL_iff sig s).1 (h s hs), fun h s hs => (inL_iff sig s).2 (h s hs)⟩
def RofPost (sig : List ByteArray) (L : List (List ByteArray)) (w : World) (e : Ending) (w' : World) : Prop :=
  ∃ (a1 : Option Addr) (n1 c1 : Nat) (st : Int) (a2 : Option Addr) (n2 c2 : Nat) (a3 : Option Addr) (n3 c3 : Nat), e = .returned (.tuple #[.agg #[.slice a1 n1 c1, .int .i64 st, .slice a2 n2 c2, .slice a3 n3 c3], .int .i64 (errOf sig L)]) ∧ RowKit.Below w.heap.size w w'
/-- append(nil, a list of texts ...) at the operation. -/
theorem wpList_append_row {w : World} {ops : Array Oper} {rest : List Oper} {o : Oper} {a : Act} {Q : Exit → Act → World → Prop} (hgd : o.guard = none) (s x : Operand)
    (ho : o.op = .call { callee := .builtin .append, args := #[s, x], argTypes := #[22, 22] }) (so : Option Addr) (sn scap : Nat) (sig : List ByteArray) (hs : a.eval s = .slice none 0 0) (hx : a.eval x = .slice so sn scap)
    (hrow : Sp.Row w so sn sig) (hr : sn * 16 ≤ 140737488351232)
    (h : ∀ so' sn' scap' w', RowKit.Below w.heap.size w w' → wpList Tryz.prog ops Q rest (a.put o.dst (.slice so' sn' scap')) w') : wpList Tryz.prog ops Q (o :: rest) a w := by
  refine wpList_plain hgd fun K' hK' => ?_
  obtain ⟨so', sn', scap', w', hrun, _, hbel⟩ := run_append_row w o.type w.heap.size so sn scap sig hrow hr (Nat.le_refl _)
  unfold Oper.wp execOp
  simp only [ho, resolve, invoke, builtin, Sem.run_bind, Sem.run_pure, Result.andThen_ok, List.map_toArray, List.map_cons, List.map_nil, hs, hx, hrun]
  exact hK' _ _ (h _ _ _ _ hbel)
theorem RoAt.start {w0 w3 : World} {R : Nat} {sv : Value} (hz : w3.heap[R]? = some (.cells #[.slice none 0 0, .int .i64 0, .slice none 0 0, .slice none 0 0] 26 (0, 0))) (hb : RowKit.Below w0.heap.size w0 w3) (hR : w0.heap.size ≤ R) :
    RoAt w0 ((((w3.alloc (.cells #[sv, .int .i64 1, .slice none 0 0, .slice none 0 0] 26)).alloc (.map #[] 0)).alloc (.cells #[.map (some (w3.heap.size + 1))] 92)).alloc (.map #[] 0)) R w3.heap.size (w3.heap.size + 1 + 1 + 1) 1 (fun _ => w3.heap.size + 1) [] (.slice (some ⟨w3.heap.size + 1 + 1, 0, none⟩) 1 1) sv [] (.slice none 0 0) [] (.slice none 0 0) [] := by
  obtain ⟨wa, ha⟩ : ∃ wa, w3.alloc (.cells #[sv, .int .i64 1, .slice none 0 0, .slice none 0 0] 26) = wa := ⟨_, rfl⟩
  obtain ⟨wb, hwb⟩ : ∃ wb, wa.alloc (.map #[] 0) = wb := ⟨_, rfl⟩
  obtain ⟨wc, hwc⟩ : ∃ wc, wb.alloc (.cells #[.map (some (w3.heap.size + 1))] 92) = wc := ⟨_, rfl⟩
  have sa : wa.heap.size = w3.heap.size + 1 := by rw [← ha]; simp
  have sb : wb.heap.size = w3.heap.size + 1 + 1 := by rw [← hwb, World.size_alloc, sa]
  have sc : wc.heap.size = w3.heap.size + 1 + 1 + 1 := by rw [← hwc, World.size_alloc, sb]
  have r1 : wa.heap[w3.heap.size]? = some (.cells #[sv, .int .i64 1, .slice none 0 0, .slice none 0 0] 26 (0, 0)) := by rw [← ha]; exact Below.heap_new w3 _
  have z1 : wa.heap[R]? = some (.cells #[.slice none 0 0, .int .i64 0, .slice none 0 0, .slice none 0 0] 26 (0, 0)) := by rw [← ha]; exact blk_alloc hz _
  have m1 : RMap wb (w3.heap.size + 1) 0 0 [] := by
    have h := KMap.new (K := 9) (kv := Value.string) (dom := fun s : ByteArray => s.size ≤ maxLen) wa
    rw [sa, hwb] at h
    exact h
  have x1 : SetMap (wc.alloc (.map #[] 0)) (w3.heap.size + 1 + 1 + 1) [] := by
    have h := SetMap.new wc
    rw [sc] at h
    exact h
  have c1 : wc.heap[w3.heap.size + 1 + 1]? = some (.cells #[.map (some (w3.heap.size + 1))] 92 (0, 0)) := by
    have h := Below.heap_new wb (.cells #[.map (some (w3.heap.size + 1))] 92)
    rw [sb, hwc] at h
    exact h
  have bwb : ∀ {g : Nat} {o : Obj}, wa.heap[g]? = some o → wc.heap[g]? = some o := fun h => by rw [← hwc]; exact blk_alloc (by rw [← hwb]; exact blk_alloc h _) _
  have m2 : RMap wc (w3.heap.size + 1) 0 0 [] := by rw [← hwc]; exact m1.below ((RowKit.Below.refl _ wb).alloc (Nat.le_refl _) _)
  have hlt := blk_lt hz
  have hbs := hb.size
  rw [ha, hwb, hwc]
  refine ⟨blk_alloc (bwb z1) _, blk_alloc (bwb r1) _, World.ownsRow_nil _ _ _ _, World.ownsRow_nil _ _ _ _, ?_, fun i hi => ?_, fun i j hi hj _ => by omega, x1, fun i hi => by omega, ?_, hR, hbs, fun i hi => by omega, by omega, by omega⟩
  · exact ⟨rfl, .inr ⟨w3.heap.size + 1 + 1, 1, #[.map (some (w3.heap.size + 1))], rfl, by omega, blk_alloc c1 _, Nat.le_refl _, by unfold maxLen; omega, rfl, rfl⟩⟩
  · have e : i = 0 := by omega
    subst e
    exact m2.below ((RowKit.Below.refl _ wc).alloc (Nat.le_refl _) _)
  · have b1 : RowKit.Below w0.heap.size w0 wa := by rw [← ha]; exact hb.alloc hbs _
    have b2 : RowKit.Below w0.heap.size w0 wb := by rw [← hwb]; exact b1.alloc b1.size _
    have b3 : RowKit.Below w0.heap.size w0 wc := by rw [← hwc]; exact b2.alloc b2.size _
    exact b3.alloc b3.size _
theorem RoAt.nown' {w0 w : World} {R oB xb K : Nat} {mbs : Nat → Nat} {A : TrA} {nv sv lv ev : Value} {l : List ArcV} {E : List EndV} {X : List Nat} (h : RoAt w0 w R oB xb K mbs A nv sv l lv E ev X) :
    w.ownsRow w0.heap.size 92 1 nv ((List.range K).map mbs).length (((List.range K).map mbs).map mapV) := by
  rw [show ((List.range K).map mbs).length = K by simp]; exact h.nown
theorem TrOk.fresh {A : TrA} (h : TrOk A) (s : ByteArray) : trFind A A.length s = none := by
  cases hf : trFind A A.length s with
  | none => rfl
  | some t => have := h.mem (trFind_some hf); omega
end Nf

set_option maxHeartbeats 8000000 in
set_option maxRecDepth 100000 in
theorem rof_any (w : World) (ao : Option Addr) (n cap : Nat) (sig : List ByteArray) (bo : Option Addr) (m mcap : Nat) (els : List Lst) (h : Sp.Row w ao n sig) (hL : Sp.RowE w bo m els) :
    Calls Tryz.prog 23 #[.slice ao n cap, .slice bo m mcap] w (Nf.RofPost sig (Sp.lists els) w) := by
  obtain ⟨i0, hi, hiz0, hiz1, hiz2⟩ := info_parts Nf.arcInfo
  have hb0 : Below w.heap.size w (w.alloc (.cells #[.slice none 0 0, .int .i64 0, .slice none 0 0, .slice none 0 0] 26)) := (Below.refl _ w).alloc (Nat.le_refl _) _
  have hblk : (w.alloc (.cells #[.slice none 0 0, .int .i64 0, .slice none 0 0, .slice none 0 0] 26)).heap[w.heap.size]? = some (.cells #[.slice none 0 0, .int .i64 0, .slice none 0 0, .slice none 0 0] 26 (0, 0)) := Nf.Below.heap_new w _
  have hp : Nf.RofPost sig (Sp.lists els) w = fun e w' => ∃ (a1 : Option Addr) (n1 c1 : Nat) (st : Int) (a2 : Option Addr) (n2 c2 : Nat) (a3 : Option Addr) (n3 c3 : Nat), e = .returned (.tuple #[.agg #[.slice a1 n1 c1, .int .i64 st, .slice a2 n2 c2, .slice a3 n3 c3], .int .i64 (Nf.errOf sig (Sp.lists els))]) ∧ RowKit.Below w.heap.size w w' := rfl
  rw [hp]
  have Hlen := Sp.hid (show (Sp.lists els).length = m by simp [Sp.lists, hL.1])
  have hmm := hL.2.1
  unfold maxLen at hmm
  obtain ⟨w1, hw1⟩ : ∃ w1, w.alloc (.cells #[.slice none 0 0, .int .i64 0, .slice none 0 0, .slice none 0 0] 26) = w1 := ⟨_, rfl⟩
  rw [hw1] at hb0 hblk
  obtain ⟨R, hR⟩ : ∃ R, w.heap.size = R := ⟨_, rfl⟩
  have hblk' : w1.heap[R]? = some (.cells #[.slice none 0 0, .int .i64 0, .slice none 0 0, .slice none 0 0] 26 (0, 0)) := by rw [← hR]; exact hblk
  have hV := refValidate_any ao n cap sig w1 (h.below hb0)
  have HH := Sp.hid h
  have HL := Sp.hid hL
  have Hb0 := Sp.hid hb0
  have Hblk := Sp.hid hblk'
  have Hw1 := Sp.hid hw1
  have HR := Sp.hid hR
  have HRge := Sp.hid (show w.heap.size ≤ R by omega)
  obtain ⟨r, hr⟩ : ∃ r, Sp.errAlpha sig = r := ⟨_, rfl⟩
  rw [hr] at hV
  have HV := Sp.hid hV
  have Hr := Sp.hid hr
  clear h hL hb0 hblk hblk' hw1 hr hp hR hV
  obtain ⟨er, hEr⟩ : ∃ er, Nf.errOf sig (Sp.lists els) = er := ⟨_, rfl⟩
  rw [hEr]
  have HEr := Sp.hid hEr
  clear hEr
  by_cases h0 : r = 0
  · subst h0
    by_cases h2 : 200 < m
    · have hE := Sp.hid (show er = 3 by
        have e := Nf.errAll_many (L := Sp.lists els) Hr.out (by rw [Hlen.out]; exact h2)
        rw [← HEr.out, Nf.errOf_all (by rw [e]; decide), e])
      have hi2 : (m : Int) > 200 := by omega
      go_enter Tryz.func23, Tryz.ntmps23
      go_wp2_with fail
      rw [Hw1.out, HR.out]
      go_wp2_with fail
      refine HV.out.mono ?_
      rintro e w2 ⟨rfl, hd2⟩
      have hb2 := Sp.below_of_drew hd2
      have NRx := Sp.hid (Nf.blk_below Hblk.out hb2 (Nf.blk_lt Hblk.out))
      have B02 := Sp.hid (Hb0.out.trans (hb2.mono Hb0.out.size))
      clear hd2 hb2
      have y0 : w2.cell? ⟨R, 0, none⟩ = some (.slice none 0 0) := Nf.blk_cell (i := 0) NRx.out rfl
      have y1 : w2.cell? ⟨R, 1, none⟩ = some (.int .i64 0) := Nf.blk_cell (i := 1) NRx.out rfl
      have y2 : w2.cell? ⟨R, 2, none⟩ = some (.slice none 0 0) := Nf.blk_cell (i := 2) NRx.out rfl
      have y3 : w2.cell? ⟨R, 3, none⟩ = some (.slice none 0 0) := Nf.blk_cell (i := 3) NRx.out rfl
      have f0 := Nf.blk_free (i := 0) NRx.out
      have f1 := Nf.blk_free (i := 1) NRx.out
      have f2 := Nf.blk_free (i := 2) NRx.out
      have f3 := Nf.blk_free (i := 3) NRx.out
      have HR5 := Sp.hid (Nf.blk_set (i := 3) (Nf.blk_set (i := 2) (Nf.blk_set (i := 1) (Nf.blk_set (i := 0) NRx.out (.slice none 0 0)) (.int .i64 0)) (.slice none 0 0)) (.slice none 0 0))
      have B05 := Sp.hid ((((B02.out.setCell (p := ⟨R, 0, none⟩) HRge.out (.slice none 0 0)).setCell (p := ⟨R, 1, none⟩) HRge.out (.int .i64 0)).setCell (p := ⟨R, 2, none⟩) HRge.out (.slice none 0 0)).setCell (p := ⟨R, 3, none⟩) HRge.out (.slice none 0 0))
      go_wp2_with fail
      obtain ⟨w6, hw6⟩ : ∃ w6, (((w2.setCell ⟨R, 0, none⟩ (.slice none 0 0)).setCell ⟨R, 1, none⟩ (.int .i64 0)).setCell ⟨R, 2, none⟩ (.slice none 0 0)).setCell ⟨R, 3, none⟩ (.slice none 0 0) = w6 := ⟨_, rfl⟩
      rw [hw6] at B05 HR5 ⊢
      have q0 := Nf.blk_cell (i := 0) (v := .slice none 0 0) HR5.out rfl
      have q1 := Nf.blk_cell (i := 1) (v := .int .i64 0) HR5.out rfl
      have q2 := Nf.blk_cell (i := 2) (v := .slice none 0 0) HR5.out rfl
      have q3 := Nf.blk_cell (i := 3) (v := .slice none 0 0) HR5.out rfl
      refine bodyPost_ret (v := .tuple #[.agg #[.slice none 0 0, .int .i64 0, .slice none 0 0, .slice none 0 0], .int .i64 3]) (by simp [results, Tryz.results23, go_sem, Tryz.underlying26, Tryz.isAgg26, Tryz.sizeOf26, q0, q1, q2, q3]) rfl ?_
      exact ⟨none, 0, 0, 0, none, 0, 0, none, 0, 0, by rw [hE.out], B05.out⟩
    · have hm2 : m ≤ 200 := by omega
      have h2' : ¬ (m : Int) > 200 := by omega
      have hlen2 : ¬ 200 < (Sp.lists els).length := by rw [Hlen.out]; exact h2
      have H2 := Sp.hid hlen2
      have hsn : n ≤ 40 := by have := (Sp.errAlpha_zero.1 Hr.out).1; have h2 := HH.out.1; omega
      have HAsc := Sp.hid (Sp.asc_of_alpha Hr.out)
      clear hlen2 h2
      have hmk := @run_makeMap Tryz.prog
      go_enter Tryz.func23, Tryz.ntmps23
      go_wp2_with fail
      rw [Hw1.out, HR.out]
      go_wp2_with fail
      refine HV.out.mono ?_
      rintro e w2 ⟨rfl, hd2⟩
      have hb2 := Sp.below_of_drew hd2
      have NR2 := Sp.hid (Nf.blk_below Hblk.out hb2 (Nf.blk_lt Hblk.out))
      have B02 := Sp.hid (Hb0.out.trans (hb2.mono Hb0.out.size))
      have HL2 := Sp.hid (HL.out.below B02.out)
      clear hd2 hb2
      go_wp2_with fail
      go_loopw [7, 8] (fun i _ wr => ∃ k : Nat, i = .int .i64 k ∧ k ≤ m ∧ Hid (∀ x ∈ (Sp.lists els).take k, Sp.errWord x = 0) ∧ wr = w2) (fun i _ _ => m - (intOf i).toNat)
      case atStart => exact ⟨0, rfl, Nat.zero_le _, Sp.hid (by simp), rfl⟩
      case round =>
        obtain ⟨k, rfl, hk, Hall, hww⟩ := hrel
        subst hww
        by_cases hkm : k < m
        · obtain ⟨b, off, x, rfl, ca0, hrx, hk?, ht⟩ := HL2.out.at hkm
          have hl? := Nf.lists_get hk?
          have hlt2 := Nf.lists_snoc ht
          obtain ⟨xo, xn, xc, xl⟩ := x
          simp only at ca0 hrx hl? hlt2
          have hvw := refValidateWord_any xo xn xc xl _ hrx
          obtain ⟨s, hs⟩ : ∃ s, Sp.errWord xl = s := ⟨_, rfl⟩
          rw [hs] at hvw
          have HW := Sp.hid hvw
          by_cases hs0 : s = 0
          · subst hs0
            have HA := Sp.hid (show ∀ x ∈ (Sp.lists els).take (k + 1), Sp.errWord x = 0 from fun x hx => by
              rw [hlt2] at hx
              rcases List.mem_append.1 hx with hx | hx
              · exact Hall.out x hx
              · simp at hx; rw [hx]; exact hs)
            clear hk? ht hl? hlt2 hs hrx hvw
            go_wp2_with fail
            refine HW.out.mono ?_
            rintro e w' ⟨rfl, rfl⟩
            go_wp2_with fail
            go_roundw
            case rel => exact ⟨k + 1, by go_num, hkm, HA, by first | rfl | trivial⟩
            case measure => simp [intOf]; omega
          · have he := Sp.errWords_bad Hall.out hl? (by rw [hs]; exact hs0)
            have hE := Sp.hid (show er = s by
              have e := Nf.errAll_word (L := Sp.lists els) Hr.out H2.out (by rw [he, hs]; exact hs0)
              rw [← HEr.out, Nf.errOf_all (by rw [e, he, hs]; exact hs0), e, he, hs])
            have h3 : (s != 0) = true := by simpa using hs0
            clear hk? ht hl? hlt2 hs hrx hvw he hs0
            have NRx := NR2
            have y0 : wr.cell? ⟨R, 0, none⟩ = some (.slice none 0 0) := Nf.blk_cell (i := 0) NRx.out rfl
            have y1 : wr.cell? ⟨R, 1, none⟩ = some (.int .i64 0) := Nf.blk_cell (i := 1) NRx.out rfl
            have y2 : wr.cell? ⟨R, 2, none⟩ = some (.slice none 0 0) := Nf.blk_cell (i := 2) NRx.out rfl
            have y3 : wr.cell? ⟨R, 3, none⟩ = some (.slice none 0 0) := Nf.blk_cell (i := 3) NRx.out rfl
            have f0 := Nf.blk_free (i := 0) NRx.out
            have f1 := Nf.blk_free (i := 1) NRx.out
            have f2 := Nf.blk_free (i := 2) NRx.out
            have f3 := Nf.blk_free (i := 3) NRx.out
            have HR5 := Sp.hid (Nf.blk_set (i := 3) (Nf.blk_set (i := 2) (Nf.blk_set (i := 1) (Nf.blk_set (i := 0) NRx.out (.slice none 0 0)) (.int .i64 0)) (.slice none 0 0)) (.slice none 0 0))
            have B05 := Sp.hid ((((B02.out.setCell (p := ⟨R, 0, none⟩) HRge.out (.slice none 0 0)).setCell (p := ⟨R, 1, none⟩) HRge.out (.int .i64 0)).setCell (p := ⟨R, 2, none⟩) HRge.out (.slice none 0 0)).setCell (p := ⟨R, 3, none⟩) HRge.out (.slice none 0 0))
            go_wp2_with fail
            refine HW.out.mono ?_
            rintro e w' ⟨rfl, rfl⟩
            go_wp2_with fail
            obtain ⟨w6, hw6⟩ : ∃ w6, (((wr.setCell ⟨R, 0, none⟩ (.slice none 0 0)).setCell ⟨R, 1, none⟩ (.int .i64 0)).setCell ⟨R, 2, none⟩ (.slice none 0 0)).setCell ⟨R, 3, none⟩ (.slice none 0 0) = w6 := ⟨_, rfl⟩
            rw [hw6] at B05 HR5 ⊢
            have q0 := Nf.blk_cell (i := 0) (v := .slice none 0 0) HR5.out rfl
            have q1 := Nf.blk_cell (i := 1) (v := .int .i64 0) HR5.out rfl
            have q2 := Nf.blk_cell (i := 2) (v := .slice none 0 0) HR5.out rfl
            have q3 := Nf.blk_cell (i := 3) (v := .slice none 0 0) HR5.out rfl
            refine bodyPost_ret (v := .tuple #[.agg #[.slice none 0 0, .int .i64 0, .slice none 0 0, .slice none 0 0], .int .i64 s]) (by simp [results, Tryz.results23, go_sem, Tryz.underlying26, Tryz.isAgg26, Tryz.sizeOf26, q0, q1, q2, q3]) rfl ?_
            exact ⟨none, 0, 0, 0, none, 0, 0, none, 0, 0, by rw [hE.out], B05.out⟩
        · have hW := Sp.errWords_good (ll := Sp.lists els) (fun x hx => Hall.out x (by rw [List.take_of_length_le (by rw [Hlen.out]; omega)]; exact hx))
          have HWs := Sp.hid hW
          have HWd : Hid (∀ v ∈ Sp.lists els, Sp.errWord v = 0) := Sp.hid (fun x hx => Hall.out x (by rw [List.take_of_length_le (by rw [Hlen.out]; omega)]; exact hx))
          clear hW
          obtain ⟨w2, hw2⟩ : ∃ w2 : World, w2 = wr := ⟨_, rfl⟩
          rw [← hw2] at NR2 B02 HL2 ⊢
          clear hw2
          go_wp2_with fail
          go_loopw [9, 10] (fun i _ wr => ∃ k : Nat, i = .int .i64 k ∧ k ≤ m ∧ Hid (∀ x ∈ (Sp.lists els).take k, Sp.isF x sig = true) ∧ Hid (Below w2.heap.size w2 wr)) (fun i _ _ => m - (intOf i).toNat)
          case atStart => exact ⟨0, rfl, Nat.zero_le _, Sp.hid (by simp), Sp.hid (Below.refl _ _)⟩
          case round =>
            obtain ⟨k, rfl, hk, Hall, Hb⟩ := hrel
            by_cases hkm : k < m
            · obtain ⟨b, off, x, rfl, ca0, hrx, hk?, ht⟩ := HL2.out.at hkm
              have hl? := Nf.lists_get hk?
              have hlt2 := Nf.lists_snoc ht
              obtain ⟨xo, xn, xc, xl⟩ := x
              simp only at ca0 hrx hl? hlt2
              have hxn := hrx.le
              have HX := Sp.hid hrx
              have Hca := Sp.hid ca0
              have Hl? := Sp.hid hl?
              have Hlt2 := Sp.hid hlt2
              clear hk? ht hl? hlt2 hrx ca0
              go_wp2_with fail
              go_loopw [10] (fun i wr => ∃ j : Nat, i = .int .i64 j ∧ j ≤ xn ∧ Hid (∀ s ∈ xl.take j, s ∈ sig) ∧ Hid (Below w2.heap.size w2 wr)) (fun i _ => xn - (intOf i).toNat)
              case atStart => exact ⟨0, rfl, Nat.zero_le _, Sp.hid (by simp), Hb⟩
              case round =>
                clear Hb
                obtain ⟨j, rfl, hj, Hin, Hb⟩ := hrel
                have ca : wr.cell? ⟨b, off + k, none⟩ = some (.slice xo xn xc) := by rw [Hb.out.cell (World.block_lt_of_cell? w2 _ Hca.out)]; exact Hca.out
                by_cases hjn : j < xn
                · obtain ⟨b', off', s, rfl, cs0, hsz, hs?, hst⟩ := (HX.out.below Hb.out).at hjn
                  have cs : wr.cell? ⟨b', off' + j, none⟩ = some (.string s) := cs0
                  have hin := isIn_any wr ao n cap sig s ((HH.out.below B02.out).below Hb.out) hsn HAsc.out
                  by_cases hmem : s ∈ sig
                  · rw [Nf.bl_true hmem] at hin
                    have HI := Sp.hid hin
                    have HN := Sp.hid (show ∀ t ∈ xl.take (j + 1), t ∈ sig from fun t ht => by
                      rw [hst] at ht
                      rcases List.mem_append.1 ht with ht | ht
                      · exact Hin.out t ht
                      · simp at ht; rw [ht]; exact hmem)
                    clear cs0 hsz hs? hst hin hmem
                    go_wp2_with fail
                    refine HI.out.mono ?_
                    rintro e w4 ⟨rfl, hb4⟩
                    have Hb4 := Sp.hid (Hb.out.trans (hb4.mono Hb.out.size))
                    clear hb4 ca cs
                    go_wp2_with fail
                    go_roundw
                    case rel => exact ⟨j + 1, by go_num, hjn, HN, Hb4⟩
                    case measure => simp [intOf]; omega
                  · rw [Nf.bl_false hmem] at hin
                    have HI := Sp.hid hin
                    have hE := Sp.hid (show er = 4 by
                      have hany : ((Sp.lists els).any fun v => !Sp.isF v sig) = true := by
                        rw [List.any_eq_true]
                        refine ⟨xl, List.mem_of_getElem? Hl?.out, ?_⟩
                        cases hf : Sp.isF xl sig with
                        | false => rfl
                        | true => exact absurd ((Nf.isF_iff xl sig).1 hf s (List.mem_of_getElem? hs?)) hmem
                      have e := Nf.errAll_none Hr.out H2.out HWs.out hany
                      rw [← HEr.out, Nf.errOf_all (by rw [e]; decide), e])
                    clear cs0 hsz hs? hst hin hmem
                    go_wp2_with fail
                    refine HI.out.mono ?_
                    rintro e w4 ⟨rfl, hb4⟩
                    have B04 := Sp.hid (B02.out.trans ((Hb.out.trans (hb4.mono Hb.out.size)).mono B02.out.size))
                    have NRx := Sp.hid (Nf.blk_below NR2.out (Hb.out.trans (hb4.mono Hb.out.size)) (Nf.blk_lt NR2.out))
                    clear hb4 ca cs
                    have y0 : w4.cell? ⟨R, 0, none⟩ = some (.slice none 0 0) := Nf.blk_cell (i := 0) NRx.out rfl
                    have y1 : w4.cell? ⟨R, 1, none⟩ = some (.int .i64 0) := Nf.blk_cell (i := 1) NRx.out rfl
                    have y2 : w4.cell? ⟨R, 2, none⟩ = some (.slice none 0 0) := Nf.blk_cell (i := 2) NRx.out rfl
                    have y3 : w4.cell? ⟨R, 3, none⟩ = some (.slice none 0 0) := Nf.blk_cell (i := 3) NRx.out rfl
                    have f0 := Nf.blk_free (i := 0) NRx.out
                    have f1 := Nf.blk_free (i := 1) NRx.out
                    have f2 := Nf.blk_free (i := 2) NRx.out
                    have f3 := Nf.blk_free (i := 3) NRx.out
                    have HR5 := Sp.hid (Nf.blk_set (i := 3) (Nf.blk_set (i := 2) (Nf.blk_set (i := 1) (Nf.blk_set (i := 0) NRx.out (.slice none 0 0)) (.int .i64 0)) (.slice none 0 0)) (.slice none 0 0))
                    have B05 := Sp.hid ((((B04.out.setCell (p := ⟨R, 0, none⟩) HRge.out (.slice none 0 0)).setCell (p := ⟨R, 1, none⟩) HRge.out (.int .i64 0)).setCell (p := ⟨R, 2, none⟩) HRge.out (.slice none 0 0)).setCell (p := ⟨R, 3, none⟩) HRge.out (.slice none 0 0))
                    go_wp2_with fail
                    obtain ⟨w6, hw6⟩ : ∃ w6, (((w4.setCell ⟨R, 0, none⟩ (.slice none 0 0)).setCell ⟨R, 1, none⟩ (.int .i64 0)).setCell ⟨R, 2, none⟩ (.slice none 0 0)).setCell ⟨R, 3, none⟩ (.slice none 0 0) = w6 := ⟨_, rfl⟩
                    rw [hw6] at B05 HR5 ⊢
                    have q0 := Nf.blk_cell (i := 0) (v := .slice none 0 0) HR5.out rfl
                    have q1 := Nf.blk_cell (i := 1) (v := .int .i64 0) HR5.out rfl
                    have q2 := Nf.blk_cell (i := 2) (v := .slice none 0 0) HR5.out rfl
                    have q3 := Nf.blk_cell (i := 3) (v := .slice none 0 0) HR5.out rfl
                    refine bodyPost_ret (v := .tuple #[.agg #[.slice none 0 0, .int .i64 0, .slice none 0 0, .slice none 0 0], .int .i64 4]) (by simp [results, Tryz.results23, go_sem, Tryz.underlying26, Tryz.isAgg26, Tryz.sizeOf26, q0, q1, q2, q3]) rfl ?_
                    exact ⟨none, 0, 0, 0, none, 0, 0, none, 0, 0, by rw [hE.out], B05.out⟩
                · have HN := Sp.hid (show ∀ x ∈ (Sp.lists els).take (k + 1), Sp.isF x sig = true from fun x hx => by
                    rw [Hlt2.out] at hx
                    rcases List.mem_append.1 hx with hx | hx
                    · exact Hall.out x hx
                    · simp at hx
                      rw [hx]
                      refine (Nf.isF_iff xl sig).2 fun s hs => Hin.out s ?_
                      rw [List.take_of_length_le (by have := HX.out.1; omega)]
                      exact hs)
                  go_wp2_with fail
                  go_roundw
                  case rel => exact ⟨k + 1, by go_num, hkm, HN, Hb⟩
                  case measure => simp [intOf]; omega
            · have HF : Hid (Nf.errAll sig (Sp.lists els) = 0) := Sp.hid (by
                refine Nf.errAll_ok Hr.out H2.out HWs.out ?_
                rw [List.any_eq_false]
                intro v hv
                have := Hall.out v (by rw [List.take_of_length_le (by rw [Hlen.out]; omega)]; exact hv)
                simp [this])
              have B03 := Sp.hid (B02.out.trans (Hb.out.mono B02.out.size))
              have NR3 := Sp.hid (Nf.blk_below NR2.out Hb.out (Nf.blk_lt NR2.out))
              have HH3 := Sp.hid (HH.out.below B03.out)
              clear Hall
              go_wp2_with (first
                | (at_builtin; refine Nf.wpList_append_row rfl _ _ rfl ao n cap sig rfl rfl HH3.out (by omega) ?_)
                | fail)
              intro so' sn' scap' w3 hb3
              have hS := Nf.RoAt.start (w0 := w) (sv := .slice so' sn' scap') (Nf.blk_below NR3.out hb3 (Nf.blk_lt NR3.out)) (B03.out.trans (hb3.mono B03.out.size)) HRge.out
              have HS := Sp.hid hS
              clear hb3 hS
              obtain ⟨oB, hoB⟩ : ∃ oB, w3.heap.size = oB := ⟨_, rfl⟩
              rw [hoB] at HS
              have HoB := Sp.hid hoB
              clear hoB
              go_wp2_with fail
              try rw [HoB.out]
              obtain ⟨xb, hxb⟩ : ∃ xb, oB + 1 + 1 + 1 = xb := ⟨_, rfl⟩
              rw [hxb] at HS
              try rw [hxb]
              clear hxb
              go_loopw [12, 14, 15, 16, 17, 18] (fun nv i _ _ _ _ wr => ∃ (k K : Nat) (A : Nf.TrA) (Q X : List Nat) (mbs : Nat → Nat) (l : List ArcV) (lv : Value) (E : List EndV) (ev : Value), i = .int .i64 k ∧ k ≤ m ∧ Hid (K = A.length + 1) ∧ Hid ((A, Q) = Nf.trAll [] [] ((Sp.lists els).take k)) ∧ Hid (A.length ≤ 60 * k) ∧ Hid (l.length ≤ A.length) ∧ Hid (E.length ≤ k ∧ X.length ≤ k) ∧ Hid (Nf.RoAt w wr R oB xb K mbs A nv (.slice so' sn' scap') l lv E ev X)) (fun _ i _ _ _ _ _ => m - (intOf i).toNat)
              case atStart => exact ⟨0, 1, [], [], [], _, [], _, [], _, rfl, Nat.zero_le _, Sp.hid rfl, Sp.hid (by simp [Nf.trAll]), Sp.hid (by simp), Sp.hid (by simp), Sp.hid (by simp), HS⟩
              case round =>
                obtain ⟨k, K, A0, Q0, X, mbs0, l0, lv0, E, ev, rfl, hk, HK0, HA0, Hl0, Hla0, HEX, HRo⟩ := hrel
                by_cases hkm : k < m
                · obtain ⟨b, off, x, rfl, ca0, hrx, hk?, ht⟩ := HL.out.at hkm
                  have hl? := Nf.lists_get hk?
                  have hlt2 := Nf.lists_snoc ht
                  obtain ⟨xo, xn, xc, xl⟩ := x
                  simp only at ca0 hrx hl? hlt2
                  have HOk0 : Hid (Nf.TrOk A0) := Sp.hid (by have := (Nf.trAll_ok ((Sp.lists els).take k)).ok; rw [← HA0.out] at this; exact this)
                  have hxl : xl.length ≤ 60 := (Sp.word_small (HWd.out xl (List.mem_of_getElem? hl?))).1
                  have hxn : xn ≤ 60 := by have := hrx.1; omega
                  have Hxl := Sp.hid hxl
                  have Hxx := Sp.hid (show xl.length = xn from hrx.1)
                  have HT := Sp.hid (show Nf.trAll [] [] ((Sp.lists els).take (k + 1)) = ((Nf.trWord A0 0 xl).1, Q0 ++ [(Nf.trWord A0 0 xl).2]) by rw [hlt2, Nf.trAll_snoc, ← HA0.out])
                  have HX := Sp.hid hrx
                  have Hca := Sp.hid ca0
                  clear ca0 hrx hk? ht hl? hlt2 hxl
                  go_wp2_with fail
                  obtain ⟨wo, hwo⟩ : ∃ wo : World, wo = wr := ⟨_, rfl⟩
                  go_loopw [12, 15, 16, 17, 18] (fun nv at' i _ _ wr => ∃ (j q K : Nat) (A : Nf.TrA) (mbs : Nat → Nat) (l : List ArcV) (lv : Value), at' = .int .i64 q ∧ i = .int .i64 j ∧ j ≤ xn ∧ Hid (K = A.length + 1) ∧ Hid ((A, q) = Nf.trWord A0 0 (xl.take j)) ∧ Hid (l.length ≤ A.length) ∧ Hid (Nf.RoAt w wr R oB xb K mbs A nv (.slice so' sn' scap') l lv E ev X)) (fun _ _ i _ _ _ => xn - (intOf i).toNat)
                  case atStart => exact ⟨0, 0, K, A0, mbs0, l0, lv0, rfl, rfl, Nat.zero_le _, HK0, Sp.hid (by simp [Nf.trWord]), Hla0, by rw [← hwo]; first | exact HRo | (rw [hwo]; exact HRo)⟩
                  case round =>
                    clear HK0 Hla0 HRo
                    rename_i nv0
                    obtain ⟨j, q, K, A, mbs, l, lv, rfl, rfl, hj, HK, HA, Hla, HRj⟩ := hrel
                    have HW := Sp.hid (Nf.trWord_ok HOk0.out (xl.take j))
                    rw [← HA.out] at HW
                    have hAl : A.length ≤ 12000 := by
                      have h1 := HW.out.hi
                      have h2 := Hl0.out
                      have h3 : (xl.take j).length ≤ 60 := by rw [List.length_take]; have := Hxl.out; omega
                      simp only at h1
                      omega
                    have hqK : q < K := by
                      have h1 := HW.out.way.lt HW.out.ok
                      have h2 := HK.out
                      simp only at h1
                      omega
                    have hKl : K ≤ 12001 := by have h2 := HK.out; omega
                    have ca : wr.cell? ⟨b, off + k, none⟩ = some (.slice xo xn xc) := by rw [HRj.out.below.cell (World.block_lt_of_cell? w _ Hca.out)]; exact Hca.out
                    by_cases hjn : j < xn
                    · obtain ⟨b', off', s, rfl, cs0, hsz, hs?, hst⟩ := HX.out.at hjn
                      have cs : wr.cell? ⟨b', off' + j, none⟩ = some (.string s) := by rw [HRj.out.below.cell (World.block_lt_of_cell? w _ cs0)]; exact cs0
                      have Hst := Sp.hid (show Nf.trWord A0 0 (xl.take (j + 1)) = Nf.trStep A q s by rw [hst, Nf.trWord_snoc, ← HA.out])
                      have Hszm : Hid (s.size ≤ maxLen) := Sp.hid (by unfold maxLen; exact hsz)
                      have Hcb := Sp.hid (World.block_lt_of_cell? w _ Hca.out)
                      have Hcs := Sp.hid (World.block_lt_of_cell? w _ cs0)
                      have Hcsv := Sp.hid cs0
                      clear cs0 hsz hs? hst
                      obtain ⟨nb, ncap, hnv, hy1⟩ := HRj.out.cell hqK
                      subst hnv
                      have i1 : (0 : Int) ≤ (q : Int) := by omega
                      have i2 : (q : Int) < (K : Int) := by omega
                      have i3 : (0 : Int) ≤ (k : Int) := by omega
                      have i4 : (k : Int) < (m : Int) := by omega
                      have i5 : (0 : Int) ≤ (j : Int) := by omega
                      have i6 : (j : Int) < (xn : Int) := by omega
                      cases hf : Nf.trFind A q s with
                      | some t =>
                        have HN := Sp.hid (show (A, t) = Nf.trWord A0 0 (xl.take (j + 1)) by rw [Hst.out]; unfold Nf.trStep; rw [hf])
                        have hlook := (HRj.out.drew.maps q hqK).run_some Nf.strK Tryz.underlying92 (y := s) Hszm.out hf
                        have Hlook := Sp.hid hlook
                        clear hf hlook
                        go_wp2_with fail
                        refine Open.begin (S := fun w' => w'.cell? ⟨nb, q, none⟩ = some (.map (some (mbs q))) ∧ w'.cell? ⟨b, off + k, none⟩ = some (.slice (some ⟨b', off', none⟩) xn xc) ∧ w'.cell? ⟨b', off' + j, none⟩ = some (.string s) ∧ (Instr.lookup 92 (.map (some (mbs q))) (.string s) true).run Tryz.prog w' = .ok (.tuple #[.int .i64 (t : Int), .bool true]) w') (z := 17) (by kernel_rfl) ?_
                        have HS : wr.drew.cell? ⟨nb, q, none⟩ = some (.map (some (mbs q))) ∧ wr.drew.cell? ⟨b, off + k, none⟩ = some (.slice (some ⟨b', off', none⟩) xn xc) ∧ wr.drew.cell? ⟨b', off' + j, none⟩ = some (.string s) ∧ (Instr.lookup 92 (.map (some (mbs q))) (.string s) true).run Tryz.prog wr.drew = .ok (.tuple #[.int .i64 (t : Int), .bool true]) wr.drew := ⟨hy1, ca, cs, Hlook.out⟩
                        refine Open.takeN (i := 0) (v := ?_) rfl (by kernel_rfl) (by kernel_rfl) (by kernel_rfl) (Nat.le_refl _) (fun _ _ _ h => h) HS (Or.inl ⟨rfl, ?_⟩) ?_
                        rotate_left
                        · rintro w' ⟨k1, k2, k3, k4⟩
                          go_simp
                          try rfl
                        simp only [List.getElem_toArray, List.getElem_cons_zero, List.getElem_cons_succ, Act.put, List.setIfInBounds_toArray, List.set_cons_zero, List.set_cons_succ]
                        refine Open.takeN (i := 1) (v := ?_) rfl (by kernel_rfl) (by kernel_rfl) (by kernel_rfl) (Nat.le_refl _) (fun _ _ _ h => h) HS (Or.inl ⟨rfl, ?_⟩) ?_
                        rotate_left
                        · rintro w' ⟨k1, k2, k3, k4⟩
                          go_simp
                          try rfl
                        simp only [List.getElem_toArray, List.getElem_cons_zero, List.getElem_cons_succ, Act.put, List.setIfInBounds_toArray, List.set_cons_zero, List.set_cons_succ]
                        refine Open.takeN (i := 2) (v := ?_) rfl (by kernel_rfl) (by kernel_rfl) (by kernel_rfl) (Nat.le_refl _) (fun _ _ _ h => h) HS (Or.inl ⟨rfl, ?_⟩) ?_
                        rotate_left
                        · rintro w' ⟨k1, k2, k3, k4⟩
                          go_simp
                          try rfl
                        simp only [List.getElem_toArray, List.getElem_cons_zero, List.getElem_cons_succ, Act.put, List.setIfInBounds_toArray, List.set_cons_zero, List.set_cons_succ]
                        refine Open.takeN (i := 3) (v := ?_) rfl (by kernel_rfl) (by kernel_rfl) (by kernel_rfl) (Nat.le_refl _) (fun _ _ _ h => h) HS (Or.inl ⟨rfl, ?_⟩) ?_
                        rotate_left
                        · rintro w' ⟨k1, k2, k3, k4⟩
                          go_simp
                          try rfl
                        simp only [List.getElem_toArray, List.getElem_cons_zero, List.getElem_cons_succ, Act.put, List.setIfInBounds_toArray, List.set_cons_zero, List.set_cons_succ]
                        refine Open.takeN (i := 4) (v := ?_) rfl (by kernel_rfl) (by kernel_rfl) (by kernel_rfl) (Nat.le_refl _) (fun _ _ _ h => h) HS (Or.inl ⟨rfl, ?_⟩) ?_
                        rotate_left
                        · rintro w' ⟨k1, k2, k3, k4⟩
                          go_simp
                          try rfl
                        simp only [List.getElem_toArray, List.getElem_cons_zero, List.getElem_cons_succ, Act.put, List.setIfInBounds_toArray, List.set_cons_zero, List.set_cons_succ]
                        refine Open.takeN (i := 5) (v := ?_) rfl (by kernel_rfl) (by kernel_rfl) (by kernel_rfl) (Nat.le_refl _) (fun _ _ _ h => h) HS (Or.inl ⟨rfl, ?_⟩) ?_
                        rotate_left
                        · rintro w' ⟨k1, k2, k3, k4⟩
                          go_simp
                          try rfl
                        simp only [List.getElem_toArray, List.getElem_cons_zero, List.getElem_cons_succ, Act.put, List.setIfInBounds_toArray, List.set_cons_zero, List.set_cons_succ]
                        refine Open.takeN (i := 6) (v := ?_) rfl (by kernel_rfl) (by kernel_rfl) (by kernel_rfl) (Nat.le_refl _) (fun _ _ _ h => h) HS (Or.inl ⟨rfl, ?_⟩) ?_
                        rotate_left
                        · rintro w' ⟨k1, k2, k3, k4⟩
                          go_simp
                          try rfl
                        simp only [List.getElem_toArray, List.getElem_cons_zero, List.getElem_cons_succ, Act.put, List.setIfInBounds_toArray, List.set_cons_zero, List.set_cons_succ]
                        refine Open.takeN (i := 7) (v := ?_) rfl (by kernel_rfl) (by kernel_rfl) (by kernel_rfl) (Nat.le_refl _) (fun _ _ _ h => h) HS (Or.inl ⟨rfl, ?_⟩) ?_
                        rotate_left
                        · rintro w' ⟨k1, k2, k3, k4⟩
                          go_simp
                          try rfl
                        simp only [List.getElem_toArray, List.getElem_cons_zero, List.getElem_cons_succ, Act.put, List.setIfInBounds_toArray, List.set_cons_zero, List.set_cons_succ]
                        refine Open.takeN (i := 8) (v := ?_) rfl (by kernel_rfl) (by kernel_rfl) (by kernel_rfl) (Nat.le_refl _) (fun _ _ _ h => h) HS (Or.inl ⟨rfl, ?_⟩) ?_
                        rotate_left
                        · rintro w' ⟨k1, k2, k3, k4⟩
                          go_simp
                          try rfl
                        simp only [List.getElem_toArray, List.getElem_cons_zero, List.getElem_cons_succ, Act.put, List.setIfInBounds_toArray, List.set_cons_zero, List.set_cons_succ]
                        refine Open.takeN (i := 9) (v := ?_) rfl (by kernel_rfl) (by kernel_rfl) (by kernel_rfl) (Nat.le_refl _) (fun _ _ _ h => h) HS (Or.inl ⟨rfl, ?_⟩) ?_
                        rotate_left
                        · rintro w' ⟨k1, k2, k3, k4⟩
                          go_simp
                          try rfl
                        simp only [List.getElem_toArray, List.getElem_cons_zero, List.getElem_cons_succ, Act.put, List.setIfInBounds_toArray, List.set_cons_zero, List.set_cons_succ]
                        refine Open.takeN (i := 10) (v := ?_) rfl (by kernel_rfl) (by kernel_rfl) (by kernel_rfl) (Nat.le_refl _) (fun _ _ _ h => h) HS (Or.inl ⟨rfl, ?_⟩) ?_
                        rotate_left
                        · rintro w' ⟨k1, k2, k3, k4⟩
                          go_simp
                          try rfl
                        simp only [List.getElem_toArray, List.getElem_cons_zero, List.getElem_cons_succ, Act.put, List.setIfInBounds_toArray, List.set_cons_zero, List.set_cons_succ]
                        refine Open.takeN (i := 11) (v := ?_) rfl (by kernel_rfl) (by kernel_rfl) (by kernel_rfl) (Nat.le_refl _) (fun _ _ _ h => h) HS (Or.inl ⟨rfl, ?_⟩) ?_
                        rotate_left
                        · rintro w' ⟨k1, k2, k3, k4⟩
                          go_simp
                          try rfl
                        simp only [List.getElem_toArray, List.getElem_cons_zero, List.getElem_cons_succ, Act.put, List.setIfInBounds_toArray, List.set_cons_zero, List.set_cons_succ]
                        refine Open.takeN (i := 12) (v := ?_) rfl (by kernel_rfl) (by kernel_rfl) (by kernel_rfl) (Nat.le_refl _) (fun _ _ _ h => h) HS (Or.inl ⟨rfl, ?_⟩) ?_
                        rotate_left
                        · rintro w' ⟨k1, k2, k3, k4⟩
                          go_simp
                          try rfl
                        simp only [List.getElem_toArray, List.getElem_cons_zero, List.getElem_cons_succ, Act.put, List.setIfInBounds_toArray, List.set_cons_zero, List.set_cons_succ]
                        refine Open.takeN (i := 13) (v := ?_) rfl (by kernel_rfl) (by kernel_rfl) (by kernel_rfl) (Nat.le_refl _) (fun _ _ _ h => h) HS (Or.inl ⟨rfl, ?_⟩) ?_
                        rotate_left
                        · rintro w' ⟨k1, k2, k3, k4⟩
                          go_simp
                          try rfl
                        simp only [List.getElem_toArray, List.getElem_cons_zero, List.getElem_cons_succ, Act.put, List.setIfInBounds_toArray, List.set_cons_zero, List.set_cons_succ]
                        refine Open.takeN (i := 14) (v := ?_) rfl (by kernel_rfl) (by kernel_rfl) (by kernel_rfl) (Nat.le_refl _) (fun _ _ _ h => h) HS (Or.inl ⟨rfl, ?_⟩) ?_
                        rotate_left
                        · rintro w' ⟨k1, k2, k3, k4⟩
                          go_simp
                          try rfl
                        simp only [List.getElem_toArray, List.getElem_cons_zero, List.getElem_cons_succ, Act.put, List.setIfInBounds_toArray, List.set_cons_zero, List.set_cons_succ]
                        refine Open.takeN (i := 15) (v := ?_) rfl (by kernel_rfl) (by kernel_rfl) (by kernel_rfl) (Nat.le_refl _) (fun _ _ _ h => h) HS (Or.inl ⟨rfl, ?_⟩) ?_
                        rotate_left
                        · rintro w' ⟨k1, k2, k3, k4⟩
                          go_simp
                          try rfl
                        simp only [List.getElem_toArray, List.getElem_cons_zero, List.getElem_cons_succ, Act.put, List.setIfInBounds_toArray, List.set_cons_zero, List.set_cons_succ]
                        refine Open.takeN (i := 16) (v := ?_) rfl (by kernel_rfl) (by kernel_rfl) (by kernel_rfl) (Nat.le_refl _) (fun _ _ _ h => h) HS (Or.inl ⟨rfl, ?_⟩) ?_
                        rotate_left
                        · rintro w' ⟨k1, k2, k3, k4⟩
                          go_simp
                          try rfl
                        simp only [List.getElem_toArray, List.getElem_cons_zero, List.getElem_cons_succ, Act.put, List.setIfInBounds_toArray, List.set_cons_zero, List.set_cons_succ]
                        refine Open.end (by kernel_rfl) ?_
                        try clear HS
                        have HRd := Sp.hid HRj.out.drew
                        go_wp2_with fail
                        go_roundw
                        case rel => exact ⟨j + 1, t, K, A, mbs, l, lv, rfl, by go_num, hjn, HK, HN, Hla, HRd⟩
                        case measure => simp [intOf]; omega
                      | none =>
                        have HN := Sp.hid (show (A ++ [(q, s, A.length + 1)], A.length + 1) = Nf.trWord A0 0 (xl.take (j + 1)) by rw [Hst.out]; unfold Nf.trStep; rw [hf])
                        have hlook := (HRj.out.drew.maps q hqK).run_none Nf.strK Tryz.underlying92 (y := s) Hszm.out hf
                        have Hlook := Sp.hid hlook
                        have Hf := Sp.hid hf
                        have HOk1 : Hid (Nf.TrOk (A ++ [(q, s, A.length + 1)])) := Sp.hid (by
                          have h1 := (Nf.trWord_ok HOk0.out (xl.take (j + 1))).ok
                          rw [← HN.out] at h1
                          exact h1)
                        clear hf hlook
                        go_wp2_with fail
                        refine Open.begin (S := fun w' => w'.cell? ⟨nb, q, none⟩ = some (.map (some (mbs q))) ∧ w'.cell? ⟨b, off + k, none⟩ = some (.slice (some ⟨b', off', none⟩) xn xc) ∧ w'.cell? ⟨b', off' + j, none⟩ = some (.string s) ∧ (Instr.lookup 92 (.map (some (mbs q))) (.string s) true).run Tryz.prog w' = .ok (.tuple #[.int .i64 0, .bool false]) w') (z := 17) (by kernel_rfl) ?_
                        have HS : wr.drew.cell? ⟨nb, q, none⟩ = some (.map (some (mbs q))) ∧ wr.drew.cell? ⟨b, off + k, none⟩ = some (.slice (some ⟨b', off', none⟩) xn xc) ∧ wr.drew.cell? ⟨b', off' + j, none⟩ = some (.string s) ∧ (Instr.lookup 92 (.map (some (mbs q))) (.string s) true).run Tryz.prog wr.drew = .ok (.tuple #[.int .i64 0, .bool false]) wr.drew := ⟨hy1, ca, cs, Hlook.out⟩
                        refine Open.takeN (i := 0) (v := ?_) rfl (by kernel_rfl) (by kernel_rfl) (by kernel_rfl) (Nat.le_refl _) (fun _ _ _ h => h) HS (Or.inl ⟨rfl, ?_⟩) ?_
                        rotate_left
                        · rintro w' ⟨k1, k2, k3, k4⟩
                          go_simp
                          try rfl
                        simp only [List.getElem_toArray, List.getElem_cons_zero, List.getElem_cons_succ, Act.put, List.setIfInBounds_toArray, List.set_cons_zero, List.set_cons_succ]
                        refine Open.takeN (i := 1) (v := ?_) rfl (by kernel_rfl) (by kernel_rfl) (by kernel_rfl) (Nat.le_refl _) (fun _ _ _ h => h) HS (Or.inl ⟨rfl, ?_⟩) ?_
                        rotate_left
                        · rintro w' ⟨k1, k2, k3, k4⟩
                          go_simp
                          try rfl
                        simp only [List.getElem_toArray, List.getElem_cons_zero, List.getElem_cons_succ, Act.put, List.setIfInBounds_toArray, List.set_cons_zero, List.set_cons_succ]
                        refine Open.takeN (i := 2) (v := ?_) rfl (by kernel_rfl) (by kernel_rfl) (by kernel_rfl) (Nat.le_refl _) (fun _ _ _ h => h) HS (Or.inl ⟨rfl, ?_⟩) ?_
                        rotate_left
                        · rintro w' ⟨k1, k2, k3, k4⟩
                          go_simp
                          try rfl
                        simp only [List.getElem_toArray, List.getElem_cons_zero, List.getElem_cons_succ, Act.put, List.setIfInBounds_toArray, List.set_cons_zero, List.set_cons_succ]
                        refine Open.takeN (i := 3) (v := ?_) rfl (by kernel_rfl) (by kernel_rfl) (by kernel_rfl) (Nat.le_refl _) (fun _ _ _ h => h) HS (Or.inl ⟨rfl, ?_⟩) ?_
                        rotate_left
                        · rintro w' ⟨k1, k2, k3, k4⟩
                          go_simp
                          try rfl
                        simp only [List.getElem_toArray, List.getElem_cons_zero, List.getElem_cons_succ, Act.put, List.setIfInBounds_toArray, List.set_cons_zero, List.set_cons_succ]
                        refine Open.takeN (i := 4) (v := ?_) rfl (by kernel_rfl) (by kernel_rfl) (by kernel_rfl) (Nat.le_refl _) (fun _ _ _ h => h) HS (Or.inl ⟨rfl, ?_⟩) ?_
                        rotate_left
                        · rintro w' ⟨k1, k2, k3, k4⟩
                          go_simp
                          try rfl
                        simp only [List.getElem_toArray, List.getElem_cons_zero, List.getElem_cons_succ, Act.put, List.setIfInBounds_toArray, List.set_cons_zero, List.set_cons_succ]
                        refine Open.takeN (i := 5) (v := ?_) rfl (by kernel_rfl) (by kernel_rfl) (by kernel_rfl) (Nat.le_refl _) (fun _ _ _ h => h) HS (Or.inl ⟨rfl, ?_⟩) ?_
                        rotate_left
                        · rintro w' ⟨k1, k2, k3, k4⟩
                          go_simp
                          try rfl
                        simp only [List.getElem_toArray, List.getElem_cons_zero, List.getElem_cons_succ, Act.put, List.setIfInBounds_toArray, List.set_cons_zero, List.set_cons_succ]
                        refine Open.takeN (i := 6) (v := ?_) rfl (by kernel_rfl) (by kernel_rfl) (by kernel_rfl) (Nat.le_refl _) (fun _ _ _ h => h) HS (Or.inl ⟨rfl, ?_⟩) ?_
                        rotate_left
                        · rintro w' ⟨k1, k2, k3, k4⟩
                          go_simp
                          try rfl
                        simp only [List.getElem_toArray, List.getElem_cons_zero, List.getElem_cons_succ, Act.put, List.setIfInBounds_toArray, List.set_cons_zero, List.set_cons_succ]
                        refine Open.takeN (i := 7) (v := ?_) rfl (by kernel_rfl) (by kernel_rfl) (by kernel_rfl) (Nat.le_refl _) (fun _ _ _ h => h) HS (Or.inl ⟨rfl, ?_⟩) ?_
                        rotate_left
                        · rintro w' ⟨k1, k2, k3, k4⟩
                          go_simp
                          try rfl
                        simp only [List.getElem_toArray, List.getElem_cons_zero, List.getElem_cons_succ, Act.put, List.setIfInBounds_toArray, List.set_cons_zero, List.set_cons_succ]
                        refine Open.takeN (i := 8) (v := ?_) rfl (by kernel_rfl) (by kernel_rfl) (by kernel_rfl) (Nat.le_refl _) (fun _ _ _ h => h) HS (Or.inl ⟨rfl, ?_⟩) ?_
                        rotate_left
                        · rintro w' ⟨k1, k2, k3, k4⟩
                          go_simp
                          try rfl
                        simp only [List.getElem_toArray, List.getElem_cons_zero, List.getElem_cons_succ, Act.put, List.setIfInBounds_toArray, List.set_cons_zero, List.set_cons_succ]
                        refine Open.takeN (i := 9) (v := ?_) rfl (by kernel_rfl) (by kernel_rfl) (by kernel_rfl) (Nat.le_refl _) (fun _ _ _ h => h) HS (Or.inl ⟨rfl, ?_⟩) ?_
                        rotate_left
                        · rintro w' ⟨k1, k2, k3, k4⟩
                          go_simp
                          try rfl
                        simp only [List.getElem_toArray, List.getElem_cons_zero, List.getElem_cons_succ, Act.put, List.setIfInBounds_toArray, List.set_cons_zero, List.set_cons_succ]
                        refine Open.takeN (i := 10) (v := ?_) rfl (by kernel_rfl) (by kernel_rfl) (by kernel_rfl) (Nat.le_refl _) (fun _ _ _ h => h) HS (Or.inl ⟨rfl, ?_⟩) ?_
                        rotate_left
                        · rintro w' ⟨k1, k2, k3, k4⟩
                          go_simp
                          try rfl
                        simp only [List.getElem_toArray, List.getElem_cons_zero, List.getElem_cons_succ, Act.put, List.setIfInBounds_toArray, List.set_cons_zero, List.set_cons_succ]
                        refine Open.takeN (i := 11) (v := ?_) rfl (by kernel_rfl) (by kernel_rfl) (by kernel_rfl) (Nat.le_refl _) (fun _ _ _ h => h) HS (Or.inl ⟨rfl, ?_⟩) ?_
                        rotate_left
                        · rintro w' ⟨k1, k2, k3, k4⟩
                          go_simp
                          try rfl
                        simp only [List.getElem_toArray, List.getElem_cons_zero, List.getElem_cons_succ, Act.put, List.setIfInBounds_toArray, List.set_cons_zero, List.set_cons_succ]
                        refine Open.takeN (i := 12) (v := ?_) rfl (by kernel_rfl) (by kernel_rfl) (by kernel_rfl) (Nat.le_refl _) (fun _ _ _ h => h) HS (Or.inl ⟨rfl, ?_⟩) ?_
                        rotate_left
                        · rintro w' ⟨k1, k2, k3, k4⟩
                          go_simp
                          try rfl
                        simp only [List.getElem_toArray, List.getElem_cons_zero, List.getElem_cons_succ, Act.put, List.setIfInBounds_toArray, List.set_cons_zero, List.set_cons_succ]
                        refine Open.takeN (i := 13) (v := ?_) rfl (by kernel_rfl) (by kernel_rfl) (by kernel_rfl) (Nat.le_refl _) (fun _ _ _ h => h) HS (Or.inl ⟨rfl, ?_⟩) ?_
                        rotate_left
                        · rintro w' ⟨k1, k2, k3, k4⟩
                          go_simp
                          try rfl
                        simp only [List.getElem_toArray, List.getElem_cons_zero, List.getElem_cons_succ, Act.put, List.setIfInBounds_toArray, List.set_cons_zero, List.set_cons_succ]
                        refine Open.takeN (i := 14) (v := ?_) rfl (by kernel_rfl) (by kernel_rfl) (by kernel_rfl) (Nat.le_refl _) (fun _ _ _ h => h) HS (Or.inl ⟨rfl, ?_⟩) ?_
                        rotate_left
                        · rintro w' ⟨k1, k2, k3, k4⟩
                          go_simp
                          try rfl
                        simp only [List.getElem_toArray, List.getElem_cons_zero, List.getElem_cons_succ, Act.put, List.setIfInBounds_toArray, List.set_cons_zero, List.set_cons_succ]
                        refine Open.takeN (i := 15) (v := ?_) rfl (by kernel_rfl) (by kernel_rfl) (by kernel_rfl) (Nat.le_refl _) (fun _ _ _ h => h) HS (Or.inl ⟨rfl, ?_⟩) ?_
                        rotate_left
                        · rintro w' ⟨k1, k2, k3, k4⟩
                          go_simp
                          try rfl
                        simp only [List.getElem_toArray, List.getElem_cons_zero, List.getElem_cons_succ, Act.put, List.setIfInBounds_toArray, List.set_cons_zero, List.set_cons_succ]
                        refine Open.takeN (i := 16) (v := ?_) rfl (by kernel_rfl) (by kernel_rfl) (by kernel_rfl) (Nat.le_refl _) (fun _ _ _ h => h) HS (Or.inl ⟨rfl, ?_⟩) ?_
                        rotate_left
                        · rintro w' ⟨k1, k2, k3, k4⟩
                          go_simp
                          try rfl
                        simp only [List.getElem_toArray, List.getElem_cons_zero, List.getElem_cons_succ, Act.put, List.setIfInBounds_toArray, List.set_cons_zero, List.set_cons_succ]
                        refine Open.end (by kernel_rfl) ?_
                        try clear HS
                        have HRd := Sp.hid HRj.out.drew
                        clear Hlook
                        obtain ⟨wd, hwd⟩ : ∃ wd, wr.drew = wd := ⟨_, rfl⟩
                        have hy1' : wd.cell? ⟨nb, q, none⟩ = some (.map (some (mbs q))) := by rw [← hwd]; exact hy1
                        have ca' : wd.cell? ⟨b, off + k, none⟩ = some (.slice (some ⟨b', off', none⟩) xn xc) := by rw [← hwd]; exact ca
                        have cs' : wd.cell? ⟨b', off' + j, none⟩ = some (.string s) := by rw [← hwd]; exact cs
                        rw [hwd] at HRd
                        try rw [hwd]
                        clear hwd hy1 ca cs
                        go_wp2_with fail
                        refine Open.begin (S := fun w' => w'.cell? ⟨nb, q, none⟩ = some (.map (some (mbs q))) ∧ w'.cell? ⟨b, off + k, none⟩ = some (.slice (some ⟨b', off', none⟩) xn xc) ∧ w'.cell? ⟨b', off' + j, none⟩ = some (.string s)) (z := 12) (by kernel_rfl) ?_
                        have HS : wd.drew.cell? ⟨nb, q, none⟩ = some (.map (some (mbs q))) ∧ wd.drew.cell? ⟨b, off + k, none⟩ = some (.slice (some ⟨b', off', none⟩) xn xc) ∧ wd.drew.cell? ⟨b', off' + j, none⟩ = some (.string s) := ⟨hy1', ca', cs'⟩
                        refine Open.take (i := 0) (v := ?_) rfl (by kernel_rfl) (by kernel_rfl) (by kernel_rfl) (by kernel_rfl) (fun _ _ _ h => h) HS (Or.inl ⟨rfl, ?_⟩) ?_
                        rotate_left
                        · rintro w' ⟨k1, k2, k3⟩
                          go_simp
                          try rfl
                        simp only [List.getElem_toArray, List.getElem_cons_zero, List.getElem_cons_succ, Act.put, List.setIfInBounds_toArray, List.set_cons_zero, List.set_cons_succ]
                        refine Open.take (i := 1) (v := ?_) rfl (by kernel_rfl) (by kernel_rfl) (by kernel_rfl) (by kernel_rfl) (fun _ _ _ h => h) HS (Or.inl ⟨rfl, ?_⟩) ?_
                        rotate_left
                        · rintro w' ⟨k1, k2, k3⟩
                          go_simp
                          try rfl
                        simp only [List.getElem_toArray, List.getElem_cons_zero, List.getElem_cons_succ, Act.put, List.setIfInBounds_toArray, List.set_cons_zero, List.set_cons_succ]
                        refine Open.take (i := 2) (v := ?_) rfl (by kernel_rfl) (by kernel_rfl) (by kernel_rfl) (by kernel_rfl) (fun _ _ _ h => h) HS (Or.inl ⟨rfl, ?_⟩) ?_
                        rotate_left
                        · rintro w' ⟨k1, k2, k3⟩
                          go_simp
                          try rfl
                        simp only [List.getElem_toArray, List.getElem_cons_zero, List.getElem_cons_succ, Act.put, List.setIfInBounds_toArray, List.set_cons_zero, List.set_cons_succ]
                        refine Open.take (i := 3) (v := ?_) rfl (by kernel_rfl) (by kernel_rfl) (by kernel_rfl) (by kernel_rfl) (fun _ _ _ h => h) HS (Or.inl ⟨rfl, ?_⟩) ?_
                        rotate_left
                        · rintro w' ⟨k1, k2, k3⟩
                          go_simp
                          try rfl
                        simp only [List.getElem_toArray, List.getElem_cons_zero, List.getElem_cons_succ, Act.put, List.setIfInBounds_toArray, List.set_cons_zero, List.set_cons_succ]
                        refine Open.take (i := 4) (v := ?_) rfl (by kernel_rfl) (by kernel_rfl) (by kernel_rfl) (by kernel_rfl) (fun _ _ _ h => h) HS (Or.inl ⟨rfl, ?_⟩) ?_
                        rotate_left
                        · rintro w' ⟨k1, k2, k3⟩
                          go_simp
                          try rfl
                        simp only [List.getElem_toArray, List.getElem_cons_zero, List.getElem_cons_succ, Act.put, List.setIfInBounds_toArray, List.set_cons_zero, List.set_cons_succ]
                        refine Open.take (i := 5) (v := ?_) rfl (by kernel_rfl) (by kernel_rfl) (by kernel_rfl) (by kernel_rfl) (fun _ _ _ h => h) HS (Or.inl ⟨rfl, ?_⟩) ?_
                        rotate_left
                        · rintro w' ⟨k1, k2, k3⟩
                          go_simp
                          try rfl
                        simp only [List.getElem_toArray, List.getElem_cons_zero, List.getElem_cons_succ, Act.put, List.setIfInBounds_toArray, List.set_cons_zero, List.set_cons_succ]
                        refine Open.take (i := 6) (v := ?_) rfl (by kernel_rfl) (by kernel_rfl) (by kernel_rfl) (by kernel_rfl) (fun _ _ _ h => h) HS (Or.inl ⟨rfl, ?_⟩) ?_
                        rotate_left
                        · rintro w' ⟨k1, k2, k3⟩
                          go_simp
                          try rfl
                        simp only [List.getElem_toArray, List.getElem_cons_zero, List.getElem_cons_succ, Act.put, List.setIfInBounds_toArray, List.set_cons_zero, List.set_cons_succ]
                        refine Open.take (i := 7) (v := ?_) rfl (by kernel_rfl) (by kernel_rfl) (by kernel_rfl) (by kernel_rfl) (fun _ _ _ h => h) HS (Or.inl ⟨rfl, ?_⟩) ?_
                        rotate_left
                        · rintro w' ⟨k1, k2, k3⟩
                          go_simp
                          try rfl
                        simp only [List.getElem_toArray, List.getElem_cons_zero, List.getElem_cons_succ, Act.put, List.setIfInBounds_toArray, List.set_cons_zero, List.set_cons_succ]
                        refine Open.take (i := 8) (v := ?_) rfl (by kernel_rfl) (by kernel_rfl) (by kernel_rfl) (by kernel_rfl) (fun _ _ _ h => h) HS (Or.inl ⟨rfl, ?_⟩) ?_
                        rotate_left
                        · rintro w' ⟨k1, k2, k3⟩
                          go_simp
                          try rfl
                        simp only [List.getElem_toArray, List.getElem_cons_zero, List.getElem_cons_succ, Act.put, List.setIfInBounds_toArray, List.set_cons_zero, List.set_cons_succ]
                        refine Open.take (i := 9) (v := ?_) rfl (by kernel_rfl) (by kernel_rfl) (by kernel_rfl) (by kernel_rfl) (fun _ _ _ h => h) HS (Or.inl ⟨rfl, ?_⟩) ?_
                        rotate_left
                        · rintro w' ⟨k1, k2, k3⟩
                          go_simp
                          try rfl
                        simp only [List.getElem_toArray, List.getElem_cons_zero, List.getElem_cons_succ, Act.put, List.setIfInBounds_toArray, List.set_cons_zero, List.set_cons_succ]
                        refine Open.take (i := 10) (v := ?_) rfl (by kernel_rfl) (by kernel_rfl) (by kernel_rfl) (by kernel_rfl) (fun _ _ _ h => h) HS (Or.inl ⟨rfl, ?_⟩) ?_
                        rotate_left
                        · rintro w' ⟨k1, k2, k3⟩
                          go_simp
                          try rfl
                        simp only [List.getElem_toArray, List.getElem_cons_zero, List.getElem_cons_succ, Act.put, List.setIfInBounds_toArray, List.set_cons_zero, List.set_cons_succ]
                        refine Open.take (i := 11) (v := ?_) rfl (by kernel_rfl) (by kernel_rfl) (by kernel_rfl) (by kernel_rfl) (fun _ _ _ h => h) HS (Or.inl ⟨rfl, ?_⟩) ?_
                        rotate_left
                        · rintro w' ⟨k1, k2, k3⟩
                          go_simp
                          try rfl
                        simp only [List.getElem_toArray, List.getElem_cons_zero, List.getElem_cons_succ, Act.put, List.setIfInBounds_toArray, List.set_cons_zero, List.set_cons_succ]
                        have HRe := Sp.hid HRd.out.drew
                        have ht9 : A.length + 1 ≤ 1000000000 := by omega
                        have hn9 : A.length ≤ 1000000 := by omega
                        refine Open.one (i := 12) rfl (by kernel_rfl) rfl (fun Kt hKt => ?_)
                        refine Nf.kmap_wp Nf.strK _ _ _ 92 rfl Tryz.underlying92 (HRe.out.maps q hqK) s Hszm.out (A.length + 1) ht9 hn9 (fun z => Nf.trFind (A ++ [(q, s, A.length + 1)]) q z) (fun z _ => ?_) (by rfl) (by rfl) (by rw [← HK.out]; rfl) (fun w5 hm5 hg5 => ?_)
                        · rw [Nf.trFind_snoc _ Hf.out]
                          constructor
                          · intro e; rw [if_pos ⟨rfl, e.symm⟩]
                          · intro e; rw [if_neg (fun hh => e hh.2.symm)]
                        refine hKt _ _ ⟨fun e => absurd rfl e, ?_⟩
                        have HR5 := Sp.hid (HRe.out.put hqK Hf.out hg5 hm5)
                        clear hKt Kt HS hg5 hm5 HRe HRd
                        refine Open.end (by kernel_rfl) ?_
                        have HR7 := Sp.hid ((HR5.out.alloc (.map #[] 0)).alloc (.cells #[.map (some w5.heap.size)] 92))
                        have Hnewc := Sp.hid (Nf.Below.heap_new (w5.alloc (.map #[] 0)) (.cells #[.map (some w5.heap.size)] 92))
                        have hsz5 : (w5.alloc (.map #[] 0)).heap.size = w5.heap.size + 1 := by simp
                        rw [hsz5] at Hnewc
                        have Hnl := Sp.hid (show ((List.range K).map mbs).length ≤ 1000000 by simp; omega)
                        clear hsz5 hy1' ca' cs'
                        go_wp2_with (first
                          | (at_builtin; refine Nf.push_map rfl _ _ rfl w.heap.size (.slice (some ⟨nb, 0, none⟩) K ncap) _ rfl HR7.out.nown' w5.heap.size ⟨w5.heap.size + 1, 0, none⟩ 1 rfl ?c1 ?c2 ?c3 ?_)
                          | fail)
                        case c1 => exact Nf.blk_cell (i := 0) Hnewc.out rfl
                        case c2 => exact Hnl.out
                        case c3 => have h := HR7.out.below.size; simpa using h
                        intro v6 w6 hown6 hg6
                        have hA1 : ∀ s', Nf.trFind (A ++ [(q, s, A.length + 1)]) K s' = none := fun s' => by
                          have h1 := HOk1.out.fresh s'
                          have h2 : (A ++ [(q, s, A.length + 1)]).length = K := by rw [HK.out]; simp
                          rw [h2] at h1
                          exact h1
                        have HR6 := Sp.hid (HR5.out.more hA1 hg6 (by first | exact hown6 | simpa using hown6))
                        obtain ⟨nb6, ncap6, hv6⟩ := Nf.own_form HR6.out.nown (by omega)
                        subst hv6
                        clear hown6 hg6 hA1
                        have cL : w6.cell? ⟨oB, 2, none⟩ = some lv := Nf.blk_cell (i := 2) HR6.out.rblk rfl
                        have ca6 : w6.cell? ⟨b, off + k, none⟩ = some (.slice (some ⟨b', off', none⟩) xn xc) := by rw [HR6.out.below.cell Hcb.out]; exact Hca.out
                        have cs6 : w6.cell? ⟨b', off' + j, none⟩ = some (.string s) := by
                          rw [HR6.out.below.cell Hcs.out]
                          exact Hcsv.out
                        have HR2 := Sp.hid ((HR6.out.alloc (.cells #[.int .i64 (q : Int), .string s, .string s, .int .i64 (K : Int), .int .i64 0] 51)).drew)
                        have Hll := Sp.hid (show l.length ≤ 1000000 by have := Hla.out; omega)
                        go_wp2_with fail
                        refine Open.begin (S := fun w' => w'.cell? ⟨oB, 2, none⟩ = some lv ∧ w'.cell? ⟨b, off + k, none⟩ = some (.slice (some ⟨b', off', none⟩) xn xc) ∧ w'.cell? ⟨b', off' + j, none⟩ = some (.string s)) (z := 22) (by kernel_rfl) ?_
                        have HS : w6.drew.cell? ⟨oB, 2, none⟩ = some lv ∧ w6.drew.cell? ⟨b, off + k, none⟩ = some (.slice (some ⟨b', off', none⟩) xn xc) ∧ w6.drew.cell? ⟨b', off' + j, none⟩ = some (.string s) := ⟨cL, ca6, cs6⟩
                        refine Open.take (i := 0) (v := ?_) rfl (by kernel_rfl) (by kernel_rfl) (by kernel_rfl) (by kernel_rfl) (fun _ _ _ h => h) HS (Or.inl ⟨rfl, ?_⟩) ?_
                        rotate_left
                        · rintro w' ⟨k1, k2, k3⟩
                          go_simp
                          try rfl
                        simp only [List.getElem_toArray, List.getElem_cons_zero, List.getElem_cons_succ, Act.put, List.setIfInBounds_toArray, List.set_cons_zero, List.set_cons_succ]
                        refine Open.take (i := 1) (v := ?_) rfl (by kernel_rfl) (by kernel_rfl) (by kernel_rfl) (by kernel_rfl) (fun _ _ _ h => h) HS (Or.inl ⟨rfl, ?_⟩) ?_
                        rotate_left
                        · rintro w' ⟨k1, k2, k3⟩
                          go_simp
                          try rfl
                        simp only [List.getElem_toArray, List.getElem_cons_zero, List.getElem_cons_succ, Act.put, List.setIfInBounds_toArray, List.set_cons_zero, List.set_cons_succ]
                        refine Open.take (i := 2) (v := ?_) rfl (by kernel_rfl) (by kernel_rfl) (by kernel_rfl) (by kernel_rfl) (fun _ _ _ h => h) HS (Or.inl ⟨rfl, ?_⟩) ?_
                        rotate_left
                        · rintro w' ⟨k1, k2, k3⟩
                          go_simp
                          try rfl
                        simp only [List.getElem_toArray, List.getElem_cons_zero, List.getElem_cons_succ, Act.put, List.setIfInBounds_toArray, List.set_cons_zero, List.set_cons_succ]
                        refine Open.take (i := 3) (v := ?_) rfl (by kernel_rfl) (by kernel_rfl) (by kernel_rfl) (by kernel_rfl) (fun _ _ _ h => h) HS (Or.inl ⟨rfl, ?_⟩) ?_
                        rotate_left
                        · rintro w' ⟨k1, k2, k3⟩
                          go_simp
                          try rfl
                        simp only [List.getElem_toArray, List.getElem_cons_zero, List.getElem_cons_succ, Act.put, List.setIfInBounds_toArray, List.set_cons_zero, List.set_cons_succ]
                        refine Open.take (i := 4) (v := ?_) rfl (by kernel_rfl) (by kernel_rfl) (by kernel_rfl) (by kernel_rfl) (fun _ _ _ h => h) HS (Or.inl ⟨rfl, ?_⟩) ?_
                        rotate_left
                        · rintro w' ⟨k1, k2, k3⟩
                          go_simp
                          try rfl
                        simp only [List.getElem_toArray, List.getElem_cons_zero, List.getElem_cons_succ, Act.put, List.setIfInBounds_toArray, List.set_cons_zero, List.set_cons_succ]
                        refine Open.take (i := 5) (v := ?_) rfl (by kernel_rfl) (by kernel_rfl) (by kernel_rfl) (by kernel_rfl) (fun _ _ _ h => h) HS (Or.inl ⟨rfl, ?_⟩) ?_
                        rotate_left
                        · rintro w' ⟨k1, k2, k3⟩
                          go_simp
                          try rfl
                        simp only [List.getElem_toArray, List.getElem_cons_zero, List.getElem_cons_succ, Act.put, List.setIfInBounds_toArray, List.set_cons_zero, List.set_cons_succ]
                        refine Open.take (i := 6) (v := ?_) rfl (by kernel_rfl) (by kernel_rfl) (by kernel_rfl) (by kernel_rfl) (fun _ _ _ h => h) HS (Or.inl ⟨rfl, ?_⟩) ?_
                        rotate_left
                        · rintro w' ⟨k1, k2, k3⟩
                          go_simp
                          try rfl
                        simp only [List.getElem_toArray, List.getElem_cons_zero, List.getElem_cons_succ, Act.put, List.setIfInBounds_toArray, List.set_cons_zero, List.set_cons_succ]
                        refine Open.take (i := 7) (v := ?_) rfl (by kernel_rfl) (by kernel_rfl) (by kernel_rfl) (by kernel_rfl) (fun _ _ _ h => h) HS (Or.inl ⟨rfl, ?_⟩) ?_
                        rotate_left
                        · rintro w' ⟨k1, k2, k3⟩
                          go_simp
                          try rfl
                        simp only [List.getElem_toArray, List.getElem_cons_zero, List.getElem_cons_succ, Act.put, List.setIfInBounds_toArray, List.set_cons_zero, List.set_cons_succ]
                        refine Open.take (i := 8) (v := ?_) rfl (by kernel_rfl) (by kernel_rfl) (by kernel_rfl) (by kernel_rfl) (fun _ _ _ h => h) HS (Or.inl ⟨rfl, ?_⟩) ?_
                        rotate_left
                        · rintro w' ⟨k1, k2, k3⟩
                          go_simp
                          try rfl
                        simp only [List.getElem_toArray, List.getElem_cons_zero, List.getElem_cons_succ, Act.put, List.setIfInBounds_toArray, List.set_cons_zero, List.set_cons_succ]
                        refine Open.take (i := 9) (v := ?_) rfl (by kernel_rfl) (by kernel_rfl) (by kernel_rfl) (by kernel_rfl) (fun _ _ _ h => h) HS (Or.inl ⟨rfl, ?_⟩) ?_
                        rotate_left
                        · rintro w' ⟨k1, k2, k3⟩
                          go_simp
                          try rfl
                        simp only [List.getElem_toArray, List.getElem_cons_zero, List.getElem_cons_succ, Act.put, List.setIfInBounds_toArray, List.set_cons_zero, List.set_cons_succ]
                        refine Open.take (i := 10) (v := ?_) rfl (by kernel_rfl) (by kernel_rfl) (by kernel_rfl) (by kernel_rfl) (fun _ _ _ h => h) HS (Or.inl ⟨rfl, ?_⟩) ?_
                        rotate_left
                        · rintro w' ⟨k1, k2, k3⟩
                          go_simp
                          try rfl
                        simp only [List.getElem_toArray, List.getElem_cons_zero, List.getElem_cons_succ, Act.put, List.setIfInBounds_toArray, List.set_cons_zero, List.set_cons_succ]
                        refine Open.take (i := 11) (v := ?_) rfl (by kernel_rfl) (by kernel_rfl) (by kernel_rfl) (by kernel_rfl) (fun _ _ _ h => h) HS (Or.inl ⟨rfl, ?_⟩) ?_
                        rotate_left
                        · rintro w' ⟨k1, k2, k3⟩
                          go_simp
                          try rfl
                        simp only [List.getElem_toArray, List.getElem_cons_zero, List.getElem_cons_succ, Act.put, List.setIfInBounds_toArray, List.set_cons_zero, List.set_cons_succ]
                        refine Open.take (i := 12) (v := ?_) rfl (by kernel_rfl) (by kernel_rfl) (by kernel_rfl) (by kernel_rfl) (fun _ _ _ h => h) HS (Or.inl ⟨rfl, ?_⟩) ?_
                        rotate_left
                        · rintro w' ⟨k1, k2, k3⟩
                          go_simp
                          try rfl
                        simp only [List.getElem_toArray, List.getElem_cons_zero, List.getElem_cons_succ, Act.put, List.setIfInBounds_toArray, List.set_cons_zero, List.set_cons_succ]
                        refine Open.take (i := 13) (v := ?_) rfl (by kernel_rfl) (by kernel_rfl) (by kernel_rfl) (by kernel_rfl) (fun _ _ _ h => h) HS (Or.inl ⟨rfl, ?_⟩) ?_
                        rotate_left
                        · rintro w' ⟨k1, k2, k3⟩
                          go_simp
                          try rfl
                        simp only [List.getElem_toArray, List.getElem_cons_zero, List.getElem_cons_succ, Act.put, List.setIfInBounds_toArray, List.set_cons_zero, List.set_cons_succ]
                        refine Open.take (i := 14) (v := ?_) rfl (by kernel_rfl) (by kernel_rfl) (by kernel_rfl) (by kernel_rfl) (fun _ _ _ h => h) HS (Or.inl ⟨rfl, ?_⟩) ?_
                        rotate_left
                        · rintro w' ⟨k1, k2, k3⟩
                          go_simp
                          try rfl
                        simp only [List.getElem_toArray, List.getElem_cons_zero, List.getElem_cons_succ, Act.put, List.setIfInBounds_toArray, List.set_cons_zero, List.set_cons_succ]
                        refine Open.take (i := 15) (v := ?_) rfl (by kernel_rfl) (by kernel_rfl) (by kernel_rfl) (by kernel_rfl) (fun _ _ _ h => h) HS (Or.inl ⟨rfl, ?_⟩) ?_
                        rotate_left
                        · rintro w' ⟨k1, k2, k3⟩
                          go_simp
                          try rfl
                        simp only [List.getElem_toArray, List.getElem_cons_zero, List.getElem_cons_succ, Act.put, List.setIfInBounds_toArray, List.set_cons_zero, List.set_cons_succ]
                        refine Open.take (i := 16) (v := ?_) rfl (by kernel_rfl) (by kernel_rfl) (by kernel_rfl) (by kernel_rfl) (fun _ _ _ h => h) HS (Or.inl ⟨rfl, ?_⟩) ?_
                        rotate_left
                        · rintro w' ⟨k1, k2, k3⟩
                          go_simp
                          try rfl
                        simp only [List.getElem_toArray, List.getElem_cons_zero, List.getElem_cons_succ, Act.put, List.setIfInBounds_toArray, List.set_cons_zero, List.set_cons_succ]
                        refine Open.take (i := 17) (v := ?_) rfl (by kernel_rfl) (by kernel_rfl) (by kernel_rfl) (by kernel_rfl) (fun _ _ _ h => h) HS (Or.inl ⟨rfl, ?_⟩) ?_
                        rotate_left
                        · rintro w' ⟨k1, k2, k3⟩
                          go_simp
                          try rfl
                        simp only [List.getElem_toArray, List.getElem_cons_zero, List.getElem_cons_succ, Act.put, List.setIfInBounds_toArray, List.set_cons_zero, List.set_cons_succ]
                        refine Open.take (i := 18) (v := ?_) rfl (by kernel_rfl) (by kernel_rfl) (by kernel_rfl) (by kernel_rfl) (fun _ _ _ h => h) HS (Or.inl ⟨rfl, ?_⟩) ?_
                        rotate_left
                        · rintro w' ⟨k1, k2, k3⟩
                          go_simp
                          try rfl
                        simp only [List.getElem_toArray, List.getElem_cons_zero, List.getElem_cons_succ, Act.put, List.setIfInBounds_toArray, List.set_cons_zero, List.set_cons_succ]
                        have l1 := Nf.blk_lt HR6.out.rblk
                        have l2 : b < w6.heap.size := Nat.lt_of_lt_of_le Hcb.out HR6.out.below.size
                        have l3 : b' < w6.heap.size := Nat.lt_of_lt_of_le Hcs.out HR6.out.below.size
                        have hllq := Hll.out
                        have hHH := HR6.out.below.size
                        refine Open.one (i := 19) rfl (by kernel_rfl) rfl (fun Kt hKt => ?_)
                        go_simp
                        refine hKt _ _ ⟨fun _ => ⟨?_, ?_, ?_⟩, ?_⟩
                        · simpa [World.cell?_alloc_past _ _ _ l1] using cL
                        · simpa [World.cell?_alloc_past _ _ _ l2] using ca6
                        · simpa [World.cell?_alloc_past _ _ _ l3] using cs6
                        clear hKt Kt
                        refine Open.one (i := 20) rfl (by kernel_rfl) rfl (fun Kt hKt => ?_)
                        refine wp_append_lies _ _ _ 23 (by rfl) w.heap.size 51 i0 _ 5 56 Tryz.underlying23 hi hiz0 hiz1 hiz2 rfl (by decide) lv _ _ (by rfl) HR2.out.lown ⟨w6.heap.size, 0, none⟩ 1 1 [.int .i64 (q : Int), .string s, .string s, .int .i64 (K : Int), .int .i64 0] (by rfl) rfl (World.news_of_block (cs := #[.int .i64 (q : Int), .string s, .string s, .int .i64 (K : Int), .int .i64 0]) (t := 51) (fr := (0, 0)) (heap_alloc_new w6 _)) (by simp [Value.oneCell']) (by omega) ?_ ?_ ?_ (w6.heap.size + 1) (by simp) ?_
                        · unfold maxLen; omega
                        · omega
                        · simp; omega
                        intro g2 cap2 w7 hown7 hgrow7 hat7 hlt7
                        have r7 := Nf.blk_grown HR2.out.rblk hgrow7 (Nf.own_ne HR2.out.lown HR2.out.rblk (by decide))
                        have m1 : w7.cell? ⟨oB, 2, none⟩ = some lv := Nf.blk_cell (i := 2) r7 rfl
                        have m2 : w7.cell? ⟨b, off + k, none⟩ = some (.slice (some ⟨b', off', none⟩) xn xc) := by
                          rw [hgrow7.cell_far ⟨b, off + k, none⟩ (by simp; omega) (fun e => by have := (HR2.out.lown.lt b e.symm).1; have h9 := Hcb.out; omega)]
                          simpa [World.cell?_alloc_past _ _ _ l2] using ca6
                        have m3 : w7.cell? ⟨b', off' + j, none⟩ = some (.string s) := by
                          rw [hgrow7.cell_far ⟨b', off' + j, none⟩ (by simp; omega) (fun e => by have := (HR2.out.lown.lt b' e.symm).1; have h9 := Hcs.out; omega)]
                          simpa [World.cell?_alloc_past _ _ _ l3] using cs6
                        have fL7 := Nf.blk_free (i := 2) r7
                        have HP := Sp.hid (HR2.out.push (a := ⟨(q : Int), s, s, (K : Int), 0⟩) hgrow7 (by simpa [Nf.arcCells] using hown7))
                        refine hKt _ _ ⟨fun _ => ⟨m1, m2, m3⟩, ?_⟩
                        clear hKt Kt HS hown7 hgrow7 hat7 hlt7 r7 cL ca6 cs6
                        have HS : w7.cell? ⟨oB, 2, none⟩ = some lv ∧ w7.cell? ⟨b, off + k, none⟩ = some (.slice (some ⟨b', off', none⟩) xn xc) ∧ w7.cell? ⟨b', off' + j, none⟩ = some (.string s) := ⟨m1, m2, m3⟩
                        refine Open.take (i := 21) (v := ?_) rfl (by kernel_rfl) (by kernel_rfl) (by kernel_rfl) (by kernel_rfl) (fun _ _ _ h => h) HS (Or.inl ⟨rfl, ?_⟩) ?_
                        rotate_left
                        · rintro w' ⟨k1, k2, k3⟩
                          go_simp
                          try rfl
                        simp only [List.getElem_toArray, List.getElem_cons_zero, List.getElem_cons_succ, Act.put, List.setIfInBounds_toArray, List.set_cons_zero, List.set_cons_succ]
                        refine Open.one (i := 22) rfl (by kernel_rfl) rfl (fun Kt hKt => ?_)
                        go_simp
                        refine hKt _ _ ⟨fun e => absurd rfl e, ?_⟩
                        clear hKt Kt HS m1 m2 m3 fL7 l1 l2 l3
                        refine Open.end (by kernel_rfl) ?_
                        have HN2 : Hid ((A ++ [(q, s, A.length + 1)], K) = Nf.trWord A0 0 (xl.take (j + 1))) := Sp.hid (by rw [HK.out]; exact HN.out)
                        have HK2 : Hid (K + 1 = (A ++ [(q, s, A.length + 1)]).length + 1) := Sp.hid (by rw [HK.out]; simp)
                        have Hla2 : Hid ((l ++ [(⟨(q : Int), s, s, (K : Int), 0⟩ : ArcV)]).length ≤ (A ++ [(q, s, A.length + 1)]).length) := Sp.hid (by have := Hla.out; simp; omega)
                        go_wp2_with fail
                        go_roundw
                        case rel => exact ⟨j + 1, K, K + 1, A ++ [(q, s, A.length + 1)], _, l ++ [⟨(q : Int), s, s, (K : Int), 0⟩], .slice (some ⟨g2, 0, none⟩) (l.length + 1) cap2, rfl, by go_num, hjn, HK2, HN2, Hla2, HP⟩
                        case measure => simp [intOf]; omega
                    · have he : xl.take j = xl := List.take_of_length_le (by rw [Hxx.out]; omega)
                      rw [he] at HA
                      have HA1 := Sp.hid (show Nf.trAll [] [] ((Sp.lists els).take (k + 1)) = (A, Q0 ++ [q]) by rw [HT.out, ← HA.out])
                      have HlA := Sp.hid (show A.length ≤ 60 * (k + 1) by
                        have h1 := HW.out.hi
                        have h2 := Hl0.out
                        have h3 : (xl.take j).length ≤ 60 := by rw [List.length_take]; have := Hxl.out; omega
                        simp only at h1
                        omega)
                      have hq9 : q ≤ 1000000000 := by omega
                      have hlook := HRj.out.xs.look hq9
                      have HX6 := Sp.hid (show X.length ≤ 1000000 by have := HEX.out.2; omega)
                      clear he
                      by_cases hqX : q ∈ X
                      · have hlook' : (Instr.lookup 57 (.map (some xb)) (.int .i64 (q : Int)) false).run Tryz.prog wr = .ok (.bool true) wr := by rw [hlook]; simp [hqX]
                        have HE1 : Hid (E.length ≤ k + 1 ∧ X.length ≤ k + 1) := Sp.hid (by have := HEX.out; omega)
                        clear hlook hqX
                        go_wp2_with fail
                        go_roundw
                        case rel => exact ⟨k + 1, K, A, Q0 ++ [q], X, mbs, l, lv, E, ev, by go_num, hkm, HK, Sp.hid HA1.out.symm, HlA, Hla, HE1, HRj⟩
                        case measure => simp [intOf]; omega
                      · have hlook' : (Instr.lookup 57 (.map (some xb)) (.int .i64 (q : Int)) false).run Tryz.prog wr = .ok (.bool false) wr := by rw [hlook]; simp [hqX]
                        clear hlook hqX
                        go_wp2_with (first
                          | (at_mapUpdate; refine Nf.set_put rfl _ _ _ rfl q rfl rfl rfl HRj.out.xs HX6.out hq9 ?_)
                          | fail)
                        intro w5 hx5 hg5
                        have hR5 := HRj.out.putX hg5 hx5
                        have c3 : w5.cell? ⟨oB, 3, none⟩ = some ev := Nf.blk_cell (i := 3) hR5.rblk rfl
                        have HO5 := Sp.hid (hR5.alloc (.cells #[.int .i64 (q : Int), .int .i64 0] 53))
                        have Hnew := Sp.hid (Nf.Below.heap_new w5 (.cells #[.int .i64 (q : Int), .int .i64 0] 53))
                        have HlQ := Sp.hid (show E.length ≤ 1000000 by have := HEX.out.1; omega)
                        clear hx5 hg5 hR5 hlook'
                        go_wp2_with (at_builtin; refine Nf.push_end rfl _ _ rfl w.heap.size ev _ rfl HO5.out.eown ⟨(q : Int), 0⟩ w5.heap.size 1 rfl ?c1 ?c2 ?c3 ?_)
                        case c1 => first | exact Hnew.out | (have h := Hnew.out; simp at h ⊢; exact h)
                        case c2 => exact HlQ.out
                        case c3 => have h := HO5.out.below.size; simpa using h
                        intro v2 w6 hown6 hgrow6 hat6
                        have hr6 := Nf.blk_grown HO5.out.rblk hgrow6 (Nf.own_ne HO5.out.eown HO5.out.rblk (by decide))
                        have cL6 : w6.cell? ⟨oB, 3, none⟩ = some ev := Nf.blk_cell (i := 3) hr6 rfl
                        have fL6 := Nf.blk_free (i := 3) hr6
                        obtain ⟨g2, cap2, rfl⟩ := Nf.own_form hown6 (by simp)
                        have HP := Sp.hid (HO5.out.pushE (a := ⟨(q : Int), 0⟩) hgrow6 (by first | exact hown6 | simpa using hown6))
                        have HE1 : Hid ((E ++ [(⟨(q : Int), 0⟩ : EndV)]).length ≤ k + 1 ∧ (X ++ [q]).length ≤ k + 1) := Sp.hid (by have := HEX.out; simp; omega)
                        clear hr6 hown6 hgrow6 hat6 c3
                        go_wp2_with fail
                        go_roundw
                        case rel => exact ⟨k + 1, K, A, Q0 ++ [q], X ++ [q], mbs, l, lv, E ++ [⟨(q : Int), 0⟩], .slice (some ⟨g2, 0, none⟩) (E.length + 1) cap2, by go_num, hkm, HK, Sp.hid HA1.out.symm, HlA, Hla, HE1, HP⟩
                        case measure => simp [intOf]; omega
                · have he : (Sp.lists els).take k = Sp.lists els := List.take_of_length_le (by rw [Hlen.out]; omega)
                  rw [he] at HA0
                  have hAl : A0.length ≤ 12000 := by have h2 := Hl0.out; omega
                  have hKA := HK0.out
                  have hKi : (K : Int) = (A0.length : Int) + 1 := by omega
                  obtain ⟨nbz, ncapz, hnv⟩ := Nf.own_form HRo.out.nown (by have := HK0.out; omega)
                  subst hnv
                  have z1 : wr.cell? ⟨oB, 1, none⟩ = some (.int .i64 1) := Nf.blk_cell (i := 1) HRo.out.rblk rfl
                  have zf := Nf.blk_free (i := 1) HRo.out.rblk
                  have hset : (wr.setCell ⟨oB, 1, none⟩ (.int .i64 (K : Int))).heap[oB]? = some (.cells #[.slice so' sn' scap', .int .i64 (K : Int), lv0, ev] 26 (0, 0)) := by
                    have := Nf.blk_set (i := 1) HRo.out.rblk (.int .i64 (K : Int))
                    simpa using this
                  have hzr : (wr.setCell ⟨oB, 1, none⟩ (.int .i64 (K : Int))).heap[R]? = some (.cells #[.slice none 0 0, .int .i64 0, .slice none 0 0, .slice none 0 0] 26 (0, 0)) := Nf.blk_far HRo.out.zblk (a := ⟨oB, 1, none⟩) (fun e => HRo.out.neR e.symm) _
                  have hbz := HRo.out.below.setCell (p := ⟨oB, 1, none⟩) HRo.out.bbase (.int .i64 (K : Int))
                  obtain ⟨lo', lcap', hlv⟩ : ∃ lo' lcap', lv0 = .slice lo' l0.length lcap' := by
                    rcases HRo.out.lown.2 with ⟨h1, h2⟩ | ⟨g, cp, cur, h1, _⟩
                    · exact ⟨none, 0, by rw [h1, h2]⟩
                    · exact ⟨_, _, h1⟩
                  obtain ⟨eo', ecap', hev⟩ : ∃ eo' ecap', ev = .slice eo' E.length ecap' := by
                    rcases HRo.out.eown.2 with ⟨h1, h2⟩ | ⟨g, cp, cur, h1, _⟩
                    · exact ⟨none, 0, by rw [h1, h2]⟩
                    · exact ⟨_, _, h1⟩
                  subst hlv hev
                  have Hbz := Sp.hid hbz
                  have Hset := Sp.hid hset
                  have NRx := Sp.hid hzr
                  have z1' : (wr.setCell ⟨oB, 1, none⟩ (.int .i64 (K : Int))).cell? ⟨oB, 1, none⟩ = some (.int .i64 (K : Int)) := Nf.blk_cell (i := 1) hset rfl
                  have neR := HRo.out.neR
                  obtain ⟨wz, hwz⟩ : ∃ wz, wr.setCell ⟨oB, 1, none⟩ (.int .i64 (K : Int)) = wz := ⟨_, rfl⟩
                  rw [hwz] at Hbz Hset NRx
                  have Hwz := Sp.hid hwz
                  have HKA := Sp.hid hKA
                  clear hbz hset hzr he hKA hKi
                  by_cases hbig : 3000 < K
                  · have hE := Sp.hid (show er = 3 by rw [← HEr.out]; exact Nf.errOf_many HF.out (by rw [← HA0.out]; have := HKA.out; simp only; omega))
                    have hd : decide ((K : Int) > 3000) = true := by simp; omega
                    have y0 : (wr.setCell ⟨oB, 1, none⟩ (.int .i64 (K : Int))).cell? ⟨R, 0, none⟩ = some (.slice none 0 0) := by rw [Hwz.out]; exact Nf.blk_cell (i := 0) NRx.out rfl
                    have y1 : (wr.setCell ⟨oB, 1, none⟩ (.int .i64 (K : Int))).cell? ⟨R, 1, none⟩ = some (.int .i64 0) := by rw [Hwz.out]; exact Nf.blk_cell (i := 1) NRx.out rfl
                    have y2 : (wr.setCell ⟨oB, 1, none⟩ (.int .i64 (K : Int))).cell? ⟨R, 2, none⟩ = some (.slice none 0 0) := by rw [Hwz.out]; exact Nf.blk_cell (i := 2) NRx.out rfl
                    have y3 : (wr.setCell ⟨oB, 1, none⟩ (.int .i64 (K : Int))).cell? ⟨R, 3, none⟩ = some (.slice none 0 0) := by rw [Hwz.out]; exact Nf.blk_cell (i := 3) NRx.out rfl
                    have f0 : (wr.setCell ⟨oB, 1, none⟩ (.int .i64 (K : Int))).frozen? ⟨R, 0, none⟩ = false := by rw [Hwz.out]; exact Nf.blk_free (i := 0) NRx.out
                    have f1 : (wr.setCell ⟨oB, 1, none⟩ (.int .i64 (K : Int))).frozen? ⟨R, 1, none⟩ = false := by rw [Hwz.out]; exact Nf.blk_free (i := 1) NRx.out
                    have f2 : (wr.setCell ⟨oB, 1, none⟩ (.int .i64 (K : Int))).frozen? ⟨R, 2, none⟩ = false := by rw [Hwz.out]; exact Nf.blk_free (i := 2) NRx.out
                    have f3 : (wr.setCell ⟨oB, 1, none⟩ (.int .i64 (K : Int))).frozen? ⟨R, 3, none⟩ = false := by rw [Hwz.out]; exact Nf.blk_free (i := 3) NRx.out
                    have HR5 := Sp.hid (Nf.blk_set (i := 3) (Nf.blk_set (i := 2) (Nf.blk_set (i := 1) (Nf.blk_set (i := 0) NRx.out (.slice none 0 0)) (.int .i64 0)) (.slice none 0 0)) (.slice none 0 0))
                    have B05 := Sp.hid ((((Hbz.out.setCell (p := ⟨R, 0, none⟩) HRge.out (.slice none 0 0)).setCell (p := ⟨R, 1, none⟩) HRge.out (.int .i64 0)).setCell (p := ⟨R, 2, none⟩) HRge.out (.slice none 0 0)).setCell (p := ⟨R, 3, none⟩) HRge.out (.slice none 0 0))
                    clear hwz
                    go_wp2_with fail
                    rw [Hwz.out]
                    obtain ⟨w6, hw6⟩ : ∃ w6, (((wz.setCell ⟨R, 0, none⟩ (.slice none 0 0)).setCell ⟨R, 1, none⟩ (.int .i64 0)).setCell ⟨R, 2, none⟩ (.slice none 0 0)).setCell ⟨R, 3, none⟩ (.slice none 0 0) = w6 := ⟨_, rfl⟩
                    rw [hw6] at B05 HR5 ⊢
                    have q0 := Nf.blk_cell (i := 0) (v := .slice none 0 0) HR5.out rfl
                    have q1 := Nf.blk_cell (i := 1) (v := .int .i64 0) HR5.out rfl
                    have q2 := Nf.blk_cell (i := 2) (v := .slice none 0 0) HR5.out rfl
                    have q3 := Nf.blk_cell (i := 3) (v := .slice none 0 0) HR5.out rfl
                    refine bodyPost_ret (v := .tuple #[.agg #[.slice none 0 0, .int .i64 0, .slice none 0 0, .slice none 0 0], .int .i64 3]) (by simp [results, Tryz.results23, go_sem, Tryz.underlying26, Tryz.isAgg26, Tryz.sizeOf26, q0, q1, q2, q3]) rfl ?_
                    exact ⟨none, 0, 0, 0, none, 0, 0, none, 0, 0, by rw [hE.out], B05.out⟩
                  · have hE := Sp.hid (show er = 0 by rw [← HEr.out]; exact Nf.errOf_ok HF.out (by rw [← HA0.out]; have := HKA.out; simp only; omega))
                    have hd : decide ((K : Int) > 3000) = false := by simp; omega
                    have x0 : (wr.setCell ⟨oB, 1, none⟩ (.int .i64 (K : Int))).cell? ⟨oB, 0, none⟩ = some (.slice so' sn' scap') := by rw [Hwz.out]; exact Nf.blk_cell (i := 0) Hset.out rfl
                    have x2 : (wr.setCell ⟨oB, 1, none⟩ (.int .i64 (K : Int))).cell? ⟨oB, 2, none⟩ = some (.slice lo' l0.length lcap') := by rw [Hwz.out]; exact Nf.blk_cell (i := 2) Hset.out rfl
                    have x3 : (wr.setCell ⟨oB, 1, none⟩ (.int .i64 (K : Int))).cell? ⟨oB, 3, none⟩ = some (.slice eo' E.length ecap') := by rw [Hwz.out]; exact Nf.blk_cell (i := 3) Hset.out rfl
                    have y0 : (wr.setCell ⟨oB, 1, none⟩ (.int .i64 (K : Int))).cell? ⟨R, 0, none⟩ = some (.slice none 0 0) := by rw [Hwz.out]; exact Nf.blk_cell (i := 0) NRx.out rfl
                    have y1 : (wr.setCell ⟨oB, 1, none⟩ (.int .i64 (K : Int))).cell? ⟨R, 1, none⟩ = some (.int .i64 0) := by rw [Hwz.out]; exact Nf.blk_cell (i := 1) NRx.out rfl
                    have y2 : (wr.setCell ⟨oB, 1, none⟩ (.int .i64 (K : Int))).cell? ⟨R, 2, none⟩ = some (.slice none 0 0) := by rw [Hwz.out]; exact Nf.blk_cell (i := 2) NRx.out rfl
                    have y3 : (wr.setCell ⟨oB, 1, none⟩ (.int .i64 (K : Int))).cell? ⟨R, 3, none⟩ = some (.slice none 0 0) := by rw [Hwz.out]; exact Nf.blk_cell (i := 3) NRx.out rfl
                    have f0 : (wr.setCell ⟨oB, 1, none⟩ (.int .i64 (K : Int))).frozen? ⟨R, 0, none⟩ = false := by rw [Hwz.out]; exact Nf.blk_free (i := 0) NRx.out
                    have f1 : (wr.setCell ⟨oB, 1, none⟩ (.int .i64 (K : Int))).frozen? ⟨R, 1, none⟩ = false := by rw [Hwz.out]; exact Nf.blk_free (i := 1) NRx.out
                    have f2 : (wr.setCell ⟨oB, 1, none⟩ (.int .i64 (K : Int))).frozen? ⟨R, 2, none⟩ = false := by rw [Hwz.out]; exact Nf.blk_free (i := 2) NRx.out
                    have f3 : (wr.setCell ⟨oB, 1, none⟩ (.int .i64 (K : Int))).frozen? ⟨R, 3, none⟩ = false := by rw [Hwz.out]; exact Nf.blk_free (i := 3) NRx.out
                    have HR5 := Sp.hid (Nf.blk_set (i := 3) (Nf.blk_set (i := 2) (Nf.blk_set (i := 1) (Nf.blk_set (i := 0) NRx.out (.slice so' sn' scap')) (.int .i64 (K : Int))) (.slice lo' l0.length lcap')) (.slice eo' E.length ecap'))
                    have B05 := Sp.hid ((((Hbz.out.setCell (p := ⟨R, 0, none⟩) HRge.out (.slice so' sn' scap')).setCell (p := ⟨R, 1, none⟩) HRge.out (.int .i64 (K : Int))).setCell (p := ⟨R, 2, none⟩) HRge.out (.slice lo' l0.length lcap')).setCell (p := ⟨R, 3, none⟩) HRge.out (.slice eo' E.length ecap'))
                    clear hwz
                    go_wp2_with fail
                    rw [Hwz.out]
                    obtain ⟨w6, hw6⟩ : ∃ w6, (((wz.setCell ⟨R, 0, none⟩ (.slice so' sn' scap')).setCell ⟨R, 1, none⟩ (.int .i64 (K : Int))).setCell ⟨R, 2, none⟩ (.slice lo' l0.length lcap')).setCell ⟨R, 3, none⟩ (.slice eo' E.length ecap') = w6 := ⟨_, rfl⟩
                    rw [hw6] at B05 HR5 ⊢
                    have q0 := Nf.blk_cell (i := 0) (v := .slice so' sn' scap') HR5.out rfl
                    have q1 := Nf.blk_cell (i := 1) (v := .int .i64 (K : Int)) HR5.out rfl
                    have q2 := Nf.blk_cell (i := 2) (v := .slice lo' l0.length lcap') HR5.out rfl
                    have q3 := Nf.blk_cell (i := 3) (v := .slice eo' E.length ecap') HR5.out rfl
                    refine bodyPost_ret (v := .tuple #[.agg #[.slice so' sn' scap', .int .i64 (K : Int), .slice lo' l0.length lcap', .slice eo' E.length ecap'], .int .i64 0]) (by simp [results, Tryz.results23, go_sem, Tryz.underlying26, Tryz.isAgg26, Tryz.sizeOf26, q0, q1, q2, q3]) rfl ?_
                    exact ⟨_, _, _, _, _, _, _, _, _, _, by rw [hE.out], B05.out⟩
  · have hE := Sp.hid (show er = r by rw [← HEr.out, Nf.errOf_all (by rw [Nf.errAll_alpha (by rw [Hr.out]; exact h0), Hr.out]; exact h0), Nf.errAll_alpha (by rw [Hr.out]; exact h0), Hr.out])
    have h3 : (r != 0) = true := by simpa using h0
    clear h0
    go_enter Tryz.func23, Tryz.ntmps23
    go_wp2_with fail
    rw [Hw1.out, HR.out]
    go_wp2_with fail
    refine HV.out.mono ?_
    rintro e w2 ⟨rfl, hd2⟩
    have hb2 := Sp.below_of_drew hd2
    have NRx := Sp.hid (Nf.blk_below Hblk.out hb2 (Nf.blk_lt Hblk.out))
    have B02 := Sp.hid (Hb0.out.trans (hb2.mono Hb0.out.size))
    clear hd2 hb2
    have y0 : w2.cell? ⟨R, 0, none⟩ = some (.slice none 0 0) := Nf.blk_cell (i := 0) NRx.out rfl
    have y1 : w2.cell? ⟨R, 1, none⟩ = some (.int .i64 0) := Nf.blk_cell (i := 1) NRx.out rfl
    have y2 : w2.cell? ⟨R, 2, none⟩ = some (.slice none 0 0) := Nf.blk_cell (i := 2) NRx.out rfl
    have y3 : w2.cell? ⟨R, 3, none⟩ = some (.slice none 0 0) := Nf.blk_cell (i := 3) NRx.out rfl
    have f0 := Nf.blk_free (i := 0) NRx.out
    have f1 := Nf.blk_free (i := 1) NRx.out
    have f2 := Nf.blk_free (i := 2) NRx.out
    have f3 := Nf.blk_free (i := 3) NRx.out
    have HR5 := Sp.hid (Nf.blk_set (i := 3) (Nf.blk_set (i := 2) (Nf.blk_set (i := 1) (Nf.blk_set (i := 0) NRx.out (.slice none 0 0)) (.int .i64 0)) (.slice none 0 0)) (.slice none 0 0))
    have B05 := Sp.hid ((((B02.out.setCell (p := ⟨R, 0, none⟩) HRge.out (.slice none 0 0)).setCell (p := ⟨R, 1, none⟩) HRge.out (.int .i64 0)).setCell (p := ⟨R, 2, none⟩) HRge.out (.slice none 0 0)).setCell (p := ⟨R, 3, none⟩) HRge.out (.slice none 0 0))
    go_wp2_with fail
    obtain ⟨w6, hw6⟩ : ∃ w6, (((w2.setCell ⟨R, 0, none⟩ (.slice none 0 0)).setCell ⟨R, 1, none⟩ (.int .i64 0)).setCell ⟨R, 2, none⟩ (.slice none 0 0)).setCell ⟨R, 3, none⟩ (.slice none 0 0) = w6 := ⟨_, rfl⟩
    rw [hw6] at B05 HR5 ⊢
    have q0 := Nf.blk_cell (i := 0) (v := .slice none 0 0) HR5.out rfl
    have q1 := Nf.blk_cell (i := 1) (v := .int .i64 0) HR5.out rfl
    have q2 := Nf.blk_cell (i := 2) (v := .slice none 0 0) HR5.out rfl
    have q3 := Nf.blk_cell (i := 3) (v := .slice none 0 0) HR5.out rfl
    refine bodyPost_ret (v := .tuple #[.agg #[.slice none 0 0, .int .i64 0, .slice none 0 0, .slice none 0 0], .int .i64 r]) (by simp [results, Tryz.results23, go_sem, Tryz.underlying26, Tryz.isAgg26, Tryz.sizeOf26, q0, q1, q2, q3]) rfl ?_
    exact ⟨none, 0, 0, 0, none, 0, 0, none, 0, 0, by rw [hE.out], B05.out⟩
end Go.Proofs.YtpoblcmjfcpiaaaGreat
