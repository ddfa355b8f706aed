/-
  The walk of Of: the tree of the beginnings of words.
-/
import Derived.Test.YtpoblcmjfcpiaaaGreatMgKmOfM
import Derived.Test.YtpoblcmjfcpiaaaGreatMgErwIsYVw
import Derived.Deep.RegionHeld3
import Derived.Deep.DrawnRows
import Derived.Deep.DeepCutAuto
import Derived.Deep.RegionWith
import Derived.IntWalk
set_option linter.unusedVariables false
set_option linter.unusedSimpArgs false
namespace Go.Proofs.YtpoblcmjfcpiaaaGreat
open Go.RowKit
namespace Nf
noncomputable def errOf (sig : List ByteArray) (L : List (List ByteArray)) : Int :=
  if errAll sig L ≠ 0 then errAll sig L else if 3000 < (trAll [] [] L).1.length + 1 then 3 else 0
theorem errOf_all {sig : List ByteArray} {L : List (List ByteArray)} (h : errAll sig L ≠ 0) : errOf sig L = errAll sig L := by unfold errOf; rw [if_pos h]
theorem errOf_many {sig : List ByteArray} {L : List (List ByteArray)} (h : errAll sig L = 0) (h2 : 3000 < (trAll [] [] L).1.length + 1) : errOf sig L = 3 := by unfold errOf; rw [if_neg (by simpa using h), if_pos h2]
theorem errOf_ok {sig : List ByteArray} {L : List (List ByteArray)} (h : errAll sig L = 0) (h2 : ¬ 3000 < (trAll [] [] L).1.length + 1) : errOf sig L = 0 := by unfold errOf; rw [if_neg (by simpa using h), if_neg h2]
/-- A net that is the tree of the words. -/
structure IsOf (sig : List ByteArray) (L : List (List ByteArray)) (m : Net) : Prop where
  sig : m.sig = sig
  st : m.st = ((trAll [] [] L).1.length : Int) + 1
  arcs : m.arcs = (trAll [] [] L).1.map arcT
  ends : m.ends = (trAll [] [] L).2.map endT
def OfPost (sig : List ByteArray) (L : List (List ByteArray)) (w : World) (e : Ending) (w' : World) : Prop :=
  ∃ m : Net, e = .returned (.tuple #[.agg m.cells, .int .i64 (errOf sig L)]) ∧ NetAt w' m ∧ RowKit.Below w.heap.size w w' ∧ (errOf sig L = 0 → IsOf sig L m) ∧ (errOf sig L ≠ 0 → m.sig = [] ∧ m.st = 0 ∧ m.arcs = [] ∧ m.ends = [])
/-- A net at its start. -/
structure OfS (w0 w : World) (R rB : Nat) (sv : Value) (sig : List ByteArray) : Prop where
  zblk : w.heap[R]? = some (.cells #[.slice none 0 0, .int .i64 0, .slice none 0 0, .slice none 0 0] 26 (0, 0))
  rblk : w.heap[rB]? = some (.cells #[sv, .int .i64 1, .slice none 0 0, .slice none 0 0] 26 (0, 0))
  sown : w.ownsRow w0.heap.size 9 1 sv sig.length (sig.map Value.string)
  below : RowKit.Below w0.heap.size w0 w
  rbase : w0.heap.size ≤ R
  bbase : w0.heap.size ≤ rB
  neR : rB ≠ R
theorem OfS.start {w0 w : World} {R rB : Nat} {sv : Value} {sig : List ByteArray} (h : OfS w0 w R rB sv sig) : OfAt w0 (w.alloc (.map #[] 0)) R rB w.heap.size sv sig 1 [] [] (.slice none 0 0) [] (.slice none 0 0) :=
  ⟨blk_alloc h.zblk _, blk_alloc h.rblk _, h.sown.alloc _, World.ownsRow_nil _ _ _ _, World.ownsRow_nil _ _ _ _, KMap.new w, h.below.alloc h.below.size _, h.rbase, h.bbase, h.below.size, h.neR⟩
/-- What errAll tells where it is none. -/
theorem errAll_zero {sig : List ByteArray} {L : List (List ByteArray)} (h : errAll sig L = 0) : Sp.errAlpha sig = 0 ∧ L.length ≤ 200 ∧ (∀ v ∈ L, Sp.errWord v = 0) ∧ ∀ v ∈ L, Sp.isF v sig = true := by
  unfold errAll at h
  by_cases h1 : Sp.errAlpha sig = 0
  · rw [if_neg (by simpa using h1)] at h
    by_cases h2 : 200 < L.length
    · rw [if_pos h2] at h; simp at h
    · rw [if_neg h2] at h
      by_cases h3 : Sp.errWords L = 0
      · rw [if_neg (by simpa using h3)] at h
        cases h4 : L.any (fun v => !Sp.isF v sig) with
        | true => rw [h4] at h; simp at h
        | false =>
          refine ⟨h1, by omega, fun v hv => ?_, fun v hv => ?_⟩
          · have key : ∀ (M : List (List ByteArray)), Sp.errWords M = 0 → ∀ v ∈ M, Sp.errWord v = 0 := by
              intro M
              induction M with
              | nil => intro _ v hv; simp at hv
              | cons x r ih =>
                intro hM v hv
                unfold Sp.errWords at hM
                by_cases hx : Sp.errWord x = 0
                · rw [if_pos hx] at hM
                  rcases List.mem_cons.1 hv with rfl | hv
                  · exact hx
                  · exact ih hM v hv
                · rw [if_neg hx] at hM; exact absurd hM hx
            exact key L h3 v hv
          · rw [List.any_eq_false] at h4
            have := h4 v hv
            simpa using this
      · rw [if_pos h3] at h; exact absurd h h3
  · rw [if_pos h1] at h; exact absurd h h1
end Nf

set_option maxHeartbeats 4000000 in
set_option maxRecDepth 100000 in
theorem of_any (w : World) (ao : Option Addr) (n cap : Nat) (sig : List ByteArray) (bo : Option Addr) (m mcap : Nat) (els : List Lst) (h : Sp.Row w ao n sig) (hL : Sp.RowE w bo m els) :
    Calls Tryz.prog 22 #[.slice ao n cap, .slice bo m mcap] w (Nf.OfPost sig (Sp.lists els) w) := by
  have hb0 : Below w.heap.size w (w.alloc (.cells #[.slice none 0 0, .int .i64 0, .slice none 0 0, .slice none 0 0] 26)) := (Below.refl _ w).alloc (Nat.le_refl _) _
  have hblk : (w.alloc (.cells #[.slice none 0 0, .int .i64 0, .slice none 0 0, .slice none 0 0] 26)).heap[w.heap.size]? = some (.cells #[.slice none 0 0, .int .i64 0, .slice none 0 0, .slice none 0 0] 26 (0, 0)) := Nf.Below.heap_new w _
  have hp : Nf.OfPost sig (Sp.lists els) w = fun e w' => ∃ m : Nf.Net, e = .returned (.tuple #[.agg m.cells, .int .i64 (Nf.errOf sig (Sp.lists els))]) ∧ Nf.NetAt w' m ∧ RowKit.Below w.heap.size w w' ∧ (Nf.errOf sig (Sp.lists els) = 0 → Nf.IsOf sig (Sp.lists els) m) ∧ (Nf.errOf sig (Sp.lists els) ≠ 0 → m.sig = [] ∧ m.st = 0 ∧ m.arcs = [] ∧ m.ends = []) := rfl
  rw [hp]
  have Hlen := Sp.hid (show (Sp.lists els).length = m by simp [Sp.lists, hL.1])
  have hmm := hL.2.1
  unfold maxLen at hmm
  obtain ⟨w1, hw1⟩ : ∃ w1, w.alloc (.cells #[.slice none 0 0, .int .i64 0, .slice none 0 0, .slice none 0 0] 26) = w1 := ⟨_, rfl⟩
  rw [hw1] at hb0 hblk
  obtain ⟨R, hR⟩ : ∃ R, w.heap.size = R := ⟨_, rfl⟩
  have hblk' : w1.heap[R]? = some (.cells #[.slice none 0 0, .int .i64 0, .slice none 0 0, .slice none 0 0] 26 (0, 0)) := by rw [← hR]; exact hblk
  have HV := Sp.hid (validWords_any w1 ao n cap sig bo m mcap els (h.below hb0) (hL.below hb0))
  have HH := Sp.hid h
  have HL := Sp.hid hL
  have Hb0 := Sp.hid hb0
  have Hblk := Sp.hid hblk'
  have Hw1 := Sp.hid hw1
  have HR := Sp.hid hR
  have HRge := Sp.hid (show w.heap.size ≤ R by omega)
  obtain ⟨r, hr⟩ : ∃ r, Nf.errAll sig (Sp.lists els) = r := ⟨_, rfl⟩
  rw [hr] at HV
  have Hr := Sp.hid hr
  clear h hL hb0 hblk hblk' hw1 hr hp hR
  by_cases h0 : r = 0
  · subst h0
    obtain ⟨hz1, hz2, hz3, hz4⟩ := Nf.errAll_zero Hr.out
    have hm2 : m ≤ 200 := by rw [← Hlen.out]; exact hz2
    have hsn : n ≤ 40 := by have := (Sp.errAlpha_zero.1 hz1).1; have h2 := HH.out.1; omega
    have HWd := Sp.hid hz3
    have HAl := Sp.hid hz1
    clear hz1 hz2 hz3 hz4
    have hmk := @run_makeMap Tryz.prog
    go_enter Tryz.func22, Tryz.ntmps22
    go_wp2_with fail
    rw [Hw1.out, HR.out]
    go_wp2_with fail
    refine HV.out.mono ?_
    rintro e w2 ⟨rfl, hb2⟩
    have nR2 := Nf.blk_below Hblk.out hb2 (Nf.blk_lt Hblk.out)
    have NR2 := Sp.hid nR2
    have B02 := Sp.hid (Hb0.out.trans (hb2.mono Hb0.out.size))
    clear hb2 nR2
    have HCl := Sp.hid (cloneOwn_any ao n cap sig w2 (HH.out.below B02.out) (by omega))
    go_wp2_with fail
    refine HCl.out.mono ?_
    rintro e w3 ⟨sv, rfl, hown, hbel⟩
    obtain ⟨so', scap', rfl, _, _⟩ := Nf.row_of_own hown (by have := HH.out.1; unfold maxLen; omega) HH.out.2.2.2
    have nR3 := Nf.blk_below NR2.out hbel (Nf.blk_lt NR2.out)
    have B03 := B02.out.trans (hbel.mono B02.out.size)
    have hRlt : R < w3.heap.size := Nf.blk_lt nR3
    have hOfS : Nf.OfS w (w3.alloc (.cells #[.slice so' sig.length scap', .int .i64 1, .slice none 0 0, .slice none 0 0] 26)) R w3.heap.size (.slice so' sig.length scap') sig :=
      ⟨Nf.blk_alloc nR3 _, Nf.Below.heap_new w3 _, (Nf.own_base hown B02.out.size).alloc _, B03.alloc B03.size _, HRge.out, B03.size, by omega⟩
    have hsz : (w3.alloc (.cells #[.slice so' sig.length scap', .int .i64 1, .slice none 0 0, .slice none 0 0] 26)).heap.size = w3.heap.size + 1 := by simp
    have hS := hOfS.start
    rw [hsz] at hS
    have HS := Sp.hid hS
    clear hOfS hS hsz hown hbel nR3 B03
    obtain ⟨rB, hrB⟩ : ∃ rB, w3.heap.size = rB := ⟨_, rfl⟩
    rw [hrB] at HS
    have HrB := Sp.hid hrB
    clear hrB
    go_wp2_with fail
    rw [HrB.out]
    obtain ⟨mb, hmb⟩ : ∃ mb, rB + 1 = mb := ⟨_, rfl⟩
    rw [hmb] at HS
    rw [hmb]
    clear hmb
    · skip
      go_loopw [10, 11, 13, 14, 15, 29] (fun _ _ _ _ _ i wr => ∃ (k : Nat) (A : Nf.TrA) (Q : List Nat) (lv ev : Value), i = .int .i64 k ∧ k ≤ m ∧ Hid ((A, Q) = Nf.trAll [] [] ((Sp.lists els).take k)) ∧ Hid (A.length ≤ 60 * k) ∧ Hid (Nf.OfAt w wr R rB mb (.slice so' sig.length scap') sig ((A.length : Int) + 1) A (A.map Nf.arcT) lv (Q.map Nf.endT) ev)) (fun _ _ _ _ _ i _ => m - (intOf i).toNat)
      case atStart => exact ⟨0, [], [], _, _, rfl, Nat.zero_le _, Sp.hid (by simp [Nf.trAll]), Sp.hid (by simp), HS⟩
      case round =>
        obtain ⟨k, A0, Q0, lv0, ev, rfl, hk, HA0, Hl0, HOf⟩ := hrel
        by_cases hkm : k < m
        · obtain ⟨b, off, x, rfl, ca0, hrx, hk?, ht⟩ := (HL.out.below HOf.out.below).at hkm
          have hl? := Nf.lists_get hk?
          have hlt2 := Nf.lists_snoc ht
          obtain ⟨xo, xn, xc, xl⟩ := x
          simp only at ca0 hrx hl? hlt2
          have ca : wr.cell? ⟨b, off + k, none⟩ = some (.slice xo xn xc) := ca0
          have HOk0 : Hid (Nf.TrOk A0) := Sp.hid (by have := (Nf.trAll_ok ((Sp.lists els).take k)).ok; rw [← HA0.out] at this; exact this)
          have hxl : xl.length ≤ 60 := (Sp.word_small (HWd.out xl (List.mem_of_getElem? hl?))).1
          have hxn : xn ≤ 60 := by have := hrx.1; omega
          have Hxl := Sp.hid hxl
          have Hxx := Sp.hid (show xl.length = xn from hrx.1)
          have HT := Sp.hid (show Nf.trAll [] [] ((Sp.lists els).take (k + 1)) = ((Nf.trWord A0 0 xl).1, Q0 ++ [(Nf.trWord A0 0 xl).2]) by rw [hlt2, Nf.trAll_snoc, ← HA0.out])
          have hrow : Sp.Row w xo xn xl := by
            obtain ⟨x', hx'⟩ : ∃ x', els[k]? = some x' := ⟨_, hk?⟩
            have hm := HL.out.2.2.2 _ (List.mem_of_getElem? hk?)
            exact hm
          have HX := Sp.hid hrow
          clear ca0 hrx hk? ht hl? hlt2 hxl hrow
          go_wp2_with fail
          obtain ⟨wo, hwo⟩ : ∃ wo : World, wo = wr := ⟨_, rfl⟩
          go_loopw [11, 13, 14, 15, 35] (fun at' _ _ _ i wr => ∃ (j q : Nat) (A : Nf.TrA) (lv : Value), at' = .int .i64 q ∧ i = .int .i64 j ∧ j ≤ xn ∧ Hid ((A, q) = Nf.trWord A0 0 (xl.take j)) ∧ Hid (Nf.OfAt w wr R rB mb (.slice so' sig.length scap') sig ((A.length : Int) + 1) A (A.map Nf.arcT) lv (Q0.map Nf.endT) ev)) (fun _ _ _ _ i _ => xn - (intOf i).toNat)
          case atStart => exact ⟨0, 0, A0, lv0, rfl, rfl, Nat.zero_le _, Sp.hid (by simp [Nf.trWord]), by rw [← hwo]; first | exact HOf | (rw [hwo]; exact HOf)⟩
          case round =>
            obtain ⟨j, q, A, lv, rfl, rfl, hj, HA, HOj⟩ := hrel
            have HW := Sp.hid (Nf.trWord_ok HOk0.out (xl.take j))
            rw [← HA.out] at HW
            have hAl : A.length ≤ 12000 := by
              have h1 := HW.out.hi
              have h2 := Hl0.out
              have h3 : (xl.take j).length ≤ 60 := by rw [List.length_take]; have := Hxl.out; omega
              simp only at h1
              omega
            have hql : q ≤ 12000 := by
              have h1 := HW.out.way.lt HW.out.ok
              simp only at h1
              omega
            by_cases hjn : j < xn
            · obtain ⟨b', off', s, rfl, cs0, hsz, hs?, hst⟩ := (HX.out.below HOj.out.below).at hjn
              have cs : wr.cell? ⟨b', off' + j, none⟩ = some (.string s) := cs0
              have Hst := Sp.hid (show Nf.trWord A0 0 (xl.take (j + 1)) = Nf.trStep A q s by rw [hst, Nf.trWord_snoc, ← HA.out])
              have hszm : s.size ≤ maxLen := by unfold maxLen; exact hsz
              have Hszm := Sp.hid hszm
              clear cs0 hsz hs? hst hszm
              cases hf : Nf.trFind A q s with
              | some t =>
                have Hf := Sp.hid hf
                have HN := Sp.hid (show (A, t) = Nf.trWord A0 0 (xl.take (j + 1)) by rw [Hst.out]; unfold Nf.trStep; rw [Hf.out])
                clear hf
                go_wp2_with (first
                  | (at_lookup; refine Nf.smap_some rfl _ _ rfl HOj.out.mp q s t (by omega) Hszm.out Hf.out rfl rfl ?_)
                  | fail)
                go_roundw
                case rel => exact ⟨j + 1, t, A, lv, rfl, by go_num, hjn, HN, HOj⟩
                case measure => simp [intOf]; omega
              | none =>
                have Hf := Sp.hid hf
                have HN := Sp.hid (show (A ++ [(q, s, A.length + 1)], A.length + 1) = Nf.trWord A0 0 (xl.take (j + 1)) by rw [Hst.out]; unfold Nf.trStep; rw [Hf.out])
                have c1 : wr.cell? ⟨rB, 1, none⟩ = some (.int .i64 ((A.length : Int) + 1)) := Nf.blk_cell (i := 1) HOj.out.rblk rfl
                have f1 := Nf.blk_free (i := 1) HOj.out.rblk
                have HO1 := Sp.hid (HOj.out.setSt ((A.length : Int) + 1 + 1))
                clear hf
                go_wp2_with (first
                  | (at_lookup; refine Nf.smap_none rfl _ _ rfl HOj.out.mp q s (by omega) Hszm.out Hf.out rfl rfl ?_; intro c)
                  | (at_mapUpdate; refine Nf.smap_put rfl _ _ _ rfl HO1.out.mp q s (by omega) Hszm.out Hf.out (by omega) rfl rfl rfl ?_)
                  | fail)
                intro w5 hm5 hg5
                have hm5' : Nf.SMap w5 mb (A ++ [(q, s, A.length + 1)]).length (A ++ [(q, s, A.length + 1)]) := by rw [show (A ++ [(q, s, A.length + 1)]).length = A.length + 1 by simp]; first | exact hm5 | simpa using hm5
                have HO5 := Sp.hid ((HO1.out.put hg5 hm5').alloc (.cells #[.int .i64 (q : Int), .string s, .string s, .int .i64 ((A.length : Int) + 1), .int .i64 0] 51))
                have hO5 := HO1.out.put hg5 hm5'
                have y2 : w5.cell? ⟨rB, 2, none⟩ = some lv := Nf.blk_cell (i := 2) hO5.rblk rfl
                have Hnew := Sp.hid (Nf.Below.heap_new w5 (.cells #[.int .i64 (q : Int), .string s, .string s, .int .i64 ((A.length : Int) + 1), .int .i64 0] 51))
                have HlA := Sp.hid (show (A.map Nf.arcT).length ≤ 1000000 by simp; omega)
                clear hm5 hm5' hg5 hO5 c1 f1
                go_wp2_with (at_builtin; refine Nf.push_arc rfl _ _ rfl w.heap.size lv _ rfl HO5.out.lown ⟨(q : Int), s, s, (A.length : Int) + 1, 0⟩ w5.heap.size 1 rfl ?c1 ?c2 ?c3 ?_)
                case c1 => first | exact Hnew.out | (have h := Hnew.out; simp at h ⊢; exact h)
                case c2 => exact HlA.out
                case c3 => have h := HO5.out.below.size; simpa using h
                intro v2 w6 hown6 hgrow6 hat6
                have hr6 := Nf.blk_grown HO5.out.rblk hgrow6 (Nf.own_ne HO5.out.lown HO5.out.rblk (by decide))
                have cL6 : w6.cell? ⟨rB, 2, none⟩ = some lv := Nf.blk_cell (i := 2) hr6 rfl
                have fL6 := Nf.blk_free (i := 2) hr6
                obtain ⟨g2, cap2, rfl⟩ := Nf.own_form hown6 (by simp)
                have hP := HO5.out.push (a := ⟨(q : Int), s, s, (A.length : Int) + 1, 0⟩) hgrow6 (by first | exact hown6 | simpa using hown6)
                have HP := Sp.hid hP
                clear hP hr6 hown6 hgrow6 hat6 y2
                go_wp2_with fail
                go_roundw
                case rel =>
                  refine ⟨j + 1, A.length + 1, A ++ [(q, s, A.length + 1)], .slice (some ⟨g2, 0, none⟩) (A.length + 1) cap2, by first | rfl | simp, by go_num, hjn, HN, Sp.hid ?_⟩
                  have h := HP.out
                  have e1 : (A ++ [(q, s, A.length + 1)]).map Nf.arcT = A.map Nf.arcT ++ [⟨(q : Int), s, s, (A.length : Int) + 1, 0⟩] := by simp [Nf.arcT]
                  have e2 : (((A ++ [(q, s, A.length + 1)]).length : Nat) : Int) + 1 = (A.length : Int) + 1 + 1 := by simp
                  rw [e1, e2]
                  exact h
                case measure => simp [intOf]; omega
            · have he : xl.take j = xl := List.take_of_length_le (by rw [Hxx.out]; omega)
              rw [he] at HA
              have HA1 := Sp.hid (show Nf.trAll [] [] ((Sp.lists els).take (k + 1)) = (A, Q0 ++ [q]) by rw [HT.out, ← HA.out])
              have HlA := Sp.hid (show A.length ≤ 60 * (k + 1) by
                have h1 := HW.out.hi
                have h2 := Hl0.out
                have h3 : (xl.take j).length ≤ 60 := by rw [List.length_take]; have := Hxl.out; omega
                simp only at h1
                omega)
              have c3 : wr.cell? ⟨rB, 3, none⟩ = some ev := Nf.blk_cell (i := 3) HOj.out.rblk rfl
              have HO5 := Sp.hid (HOj.out.alloc (.cells #[.int .i64 (q : Int), .int .i64 0] 53))
              have Hnew := Sp.hid (Nf.Below.heap_new wr (.cells #[.int .i64 (q : Int), .int .i64 0] 53))
              have HlQ := Sp.hid (show (Q0.map Nf.endT).length ≤ 1000000 by
                have h1 := (Nf.trAll_ok ((Sp.lists els).take k)).len
                rw [← HA0.out] at h1
                simp only [List.length_take] at h1
                simp
                omega)
              clear he
              go_wp2_with (at_builtin; refine Nf.push_end rfl _ _ rfl w.heap.size ev _ rfl HO5.out.eown ⟨(q : Int), 0⟩ wr.heap.size 1 rfl ?c1 ?c2 ?c3 ?_)
              case c1 => first | exact Hnew.out | (have h := Hnew.out; simp at h ⊢; exact h)
              case c2 => exact HlQ.out
              case c3 => have h := HO5.out.below.size; simpa using h
              intro v2 w6 hown6 hgrow6 hat6
              have hr6 := Nf.blk_grown HO5.out.rblk hgrow6 (Nf.own_ne HO5.out.eown HO5.out.rblk (by decide))
              have cL6 : w6.cell? ⟨rB, 3, none⟩ = some ev := Nf.blk_cell (i := 3) hr6 rfl
              have fL6 := Nf.blk_free (i := 3) hr6
              obtain ⟨g2, cap2, rfl⟩ := Nf.own_form hown6 (by simp)
              have HP := Sp.hid (HO5.out.pushE (a := ⟨(q : Int), 0⟩) hgrow6 (by simpa using hown6))
              clear hr6 hown6 hgrow6 hat6 c3
              go_wp2_with fail
              go_roundw
              case rel =>
                refine ⟨k + 1, A, Q0 ++ [q], lv, .slice (some ⟨g2, 0, none⟩) (Q0.length + 1) cap2, by go_num, hkm, Sp.hid HA1.out.symm, HlA, Sp.hid ?_⟩
                have h := HP.out
                have e1 : (Q0 ++ [q]).map Nf.endT = Q0.map Nf.endT ++ [⟨(q : Int), 0⟩] := by simp [Nf.endT]
                rw [e1]
                exact h
              case measure => simp [intOf]; omega
        · have he : (Sp.lists els).take k = Sp.lists els := List.take_of_length_le (by rw [Hlen.out]; omega)
          rw [he] at HA0
          have hAl : A0.length ≤ 12000 := by have h2 := Hl0.out; omega
          have c1 : wr.cell? ⟨rB, 1, none⟩ = some (.int .i64 ((A0.length : Int) + 1)) := Nf.blk_cell (i := 1) HOf.out.rblk rfl
          have y0 : wr.cell? ⟨R, 0, none⟩ = some (.slice none 0 0) := Nf.blk_cell (i := 0) HOf.out.zblk rfl
          have y1 : wr.cell? ⟨R, 1, none⟩ = some (.int .i64 0) := Nf.blk_cell (i := 1) HOf.out.zblk rfl
          have y2 : wr.cell? ⟨R, 2, none⟩ = some (.slice none 0 0) := Nf.blk_cell (i := 2) HOf.out.zblk rfl
          have y3 : wr.cell? ⟨R, 3, none⟩ = some (.slice none 0 0) := Nf.blk_cell (i := 3) HOf.out.zblk rfl
          have f0 := Nf.blk_free (i := 0) HOf.out.zblk
          have f1 := Nf.blk_free (i := 1) HOf.out.zblk
          have f2 := Nf.blk_free (i := 2) HOf.out.zblk
          have f3 := Nf.blk_free (i := 3) HOf.out.zblk
          have hQl : Q0.length ≤ 200 := by
            have h1 := (Nf.trAll_ok (Sp.lists els)).len
            rw [← HA0.out] at h1
            simp only at h1
            rw [Hlen.out] at h1
            omega
          have HQl := Sp.hid hQl
          clear he hQl
          by_cases hbig : 3000 < A0.length + 1
          · have hE := Sp.hid (show Nf.errOf sig (Sp.lists els) = 3 from Nf.errOf_many Hr.out (by rw [← HA0.out]; exact hbig))
            have hd : decide ((A0.length : Int) + 1 > 3000) = true := by simp; omega
            have hR5 := Nf.blk_set (i := 3) (Nf.blk_set (i := 2) (Nf.blk_set (i := 1) (Nf.blk_set (i := 0) HOf.out.zblk (.slice none 0 0)) (.int .i64 0)) (.slice none 0 0)) (.slice none 0 0)
            have B05 := Sp.hid ((((HOf.out.below.setCell (p := ⟨R, 0, none⟩) HRge.out (.slice none 0 0)).setCell (p := ⟨R, 1, none⟩) HRge.out (.int .i64 0)).setCell (p := ⟨R, 2, none⟩) HRge.out (.slice none 0 0)).setCell (p := ⟨R, 3, none⟩) HRge.out (.slice none 0 0))
            have HR5 := Sp.hid hR5
            clear hR5
            go_wp2_with fail
            obtain ⟨w6, hw6⟩ : ∃ w6, (((wr.setCell ⟨R, 0, none⟩ (.slice none 0 0)).setCell ⟨R, 1, none⟩ (.int .i64 0)).setCell ⟨R, 2, none⟩ (.slice none 0 0)).setCell ⟨R, 3, none⟩ (.slice none 0 0) = w6 := ⟨_, rfl⟩
            rw [hw6] at B05 HR5 ⊢
            have q0 := Nf.blk_cell (i := 0) (v := .slice none 0 0) HR5.out rfl
            have q1 := Nf.blk_cell (i := 1) (v := .int .i64 0) HR5.out rfl
            have q2 := Nf.blk_cell (i := 2) (v := .slice none 0 0) HR5.out rfl
            have q3 := Nf.blk_cell (i := 3) (v := .slice none 0 0) HR5.out rfl
            refine bodyPost_ret (v := .tuple #[.agg #[.slice none 0 0, .int .i64 0, .slice none 0 0, .slice none 0 0], .int .i64 3]) (by simp [results, Tryz.results22, go_sem, Tryz.underlying26, Tryz.isAgg26, Tryz.sizeOf26, q0, q1, q2, q3]) rfl ?_
            exact ⟨Nf.zeroNet, by rw [hE.out]; rfl, Nf.zeroNet_at _, B05.out, fun h => absurd (hE.out.symm.trans h) (by decide), fun _ => ⟨rfl, rfl, rfl, rfl⟩⟩
          · have hE := Sp.hid (show Nf.errOf sig (Sp.lists els) = 0 from Nf.errOf_ok Hr.out (by rw [← HA0.out]; exact hbig))
            have hd : decide ((A0.length : Int) + 1 > 3000) = false := by simp; omega
            have z0 : wr.cell? ⟨rB, 0, none⟩ = some (.slice so' sig.length scap') := Nf.blk_cell (i := 0) HOf.out.rblk rfl
            have z2 : wr.cell? ⟨rB, 2, none⟩ = some lv0 := Nf.blk_cell (i := 2) HOf.out.rblk rfl
            have z3 : wr.cell? ⟨rB, 3, none⟩ = some ev := Nf.blk_cell (i := 3) HOf.out.rblk rfl
            have hsyl : ∀ x ∈ A0.map Nf.arcT, x.i.size ≤ maxLen ∧ x.o.size ≤ maxLen := fun x hx => by
              obtain ⟨a, ha, rfl⟩ := List.mem_map.1 hx
              obtain ⟨v, hv, hav⟩ := (Nf.trAll_ok (Sp.lists els)).sym a (by rw [← HA0.out]; exact ha)
              obtain ⟨y, hy, rfl⟩ := List.mem_map.1 hv
              have := (HL.out.2.2.2 y hy).2.2.2 _ hav
              exact ⟨this, this⟩
            obtain ⟨M, hMc, hM1, hM2, hM3, hM4, hM5⟩ := HOf.out.res (by simp; omega) (by have := HQl.out; simp; omega) hsyl HH.out.2.2.2 (by have := HH.out.1; unfold maxLen; omega) (by omega) (by omega)
            have HM5 := Sp.hid (hM5 (.slice so' sig.length scap') (.int .i64 ((A0.length : Int) + 1)) lv0 ev)
            have HMc := Sp.hid hMc
            have HM := Sp.hid (show Nf.IsOf sig (Sp.lists els) M from ⟨hM1, by rw [hM2, ← HA0.out], by rw [hM3, ← HA0.out], by rw [hM4, ← HA0.out]⟩)
            obtain ⟨lo', lcap', hlv, _, _⟩ := Nf.arcs_of_own HOf.out.lown (by simp; omega) hsyl
            obtain ⟨eo', ecap', hev, _, _⟩ := Nf.ends_of_own HOf.out.eown (by have := HQl.out; simp; omega)
            subst hlv hev
            simp only [List.length_map] at HM5 HMc
            clear hM1 hM2 hM3 hM4 hM5 hMc hsyl
            go_wp2_with fail
            obtain ⟨w6, hw6⟩ : ∃ w6, (((wr.setCell ⟨R, 0, none⟩ (.slice so' sig.length scap')).setCell ⟨R, 1, none⟩ (.int .i64 ((A0.length : Int) + 1))).setCell ⟨R, 2, none⟩ (.slice lo' A0.length lcap')).setCell ⟨R, 3, none⟩ (.slice eo' Q0.length ecap') = w6 := ⟨_, rfl⟩
            rw [hw6] at HM5
            first | rw [hw6] | skip
            have q0 := Nf.blk_cell (i := 0) HM5.out.2.1 rfl
            have q1 := Nf.blk_cell (i := 1) HM5.out.2.1 rfl
            have q2 := Nf.blk_cell (i := 2) HM5.out.2.1 rfl
            have q3 := Nf.blk_cell (i := 3) HM5.out.2.1 rfl
            refine bodyPost_ret (v := .tuple #[.agg #[.slice so' sig.length scap', .int .i64 ((A0.length : Int) + 1), .slice lo' A0.length lcap', .slice eo' Q0.length ecap'], .int .i64 0]) (by simp [results, Tryz.results22, go_sem, Tryz.underlying26, Tryz.isAgg26, Tryz.sizeOf26, q0, q1, q2, q3]) rfl ?_
            exact ⟨M, by rw [hE.out, HMc.out], HM5.out.1, HM5.out.2.2, fun _ => HM.out, fun h => absurd hE.out h⟩
  · have hE := Sp.hid (show Nf.errOf sig (Sp.lists els) = r by rw [Nf.errOf_all (by rw [Hr.out]; exact h0), Hr.out])
    have HNE := Sp.hid h0
    have h3 : (r != 0) = true := by simpa using h0
    clear h0
    go_enter Tryz.func22, Tryz.ntmps22
    go_wp2_with fail
    rw [Hw1.out, HR.out]
    go_wp2_with fail
    refine HV.out.mono ?_
    rintro e w2 ⟨rfl, hb2⟩
    have nR2 := Nf.blk_below Hblk.out hb2 (Nf.blk_lt Hblk.out)
    have y0 : w2.cell? ⟨R, 0, none⟩ = some (.slice none 0 0) := Nf.blk_cell (i := 0) nR2 rfl
    have y1 : w2.cell? ⟨R, 1, none⟩ = some (.int .i64 0) := Nf.blk_cell (i := 1) nR2 rfl
    have y2 : w2.cell? ⟨R, 2, none⟩ = some (.slice none 0 0) := Nf.blk_cell (i := 2) nR2 rfl
    have y3 : w2.cell? ⟨R, 3, none⟩ = some (.slice none 0 0) := Nf.blk_cell (i := 3) nR2 rfl
    have f0 := Nf.blk_free (i := 0) nR2
    have f1 := Nf.blk_free (i := 1) nR2
    have f2 := Nf.blk_free (i := 2) nR2
    have f3 := Nf.blk_free (i := 3) nR2
    have hR5 := Nf.blk_set (i := 3) (Nf.blk_set (i := 2) (Nf.blk_set (i := 1) (Nf.blk_set (i := 0) nR2 (.slice none 0 0)) (.int .i64 0)) (.slice none 0 0)) (.slice none 0 0)
    have B02 := Sp.hid (Hb0.out.trans (hb2.mono Hb0.out.size))
    have B05 := Sp.hid ((((B02.out.setCell (p := ⟨R, 0, none⟩) HRge.out (.slice none 0 0)).setCell (p := ⟨R, 1, none⟩) HRge.out (.int .i64 0)).setCell (p := ⟨R, 2, none⟩) HRge.out (.slice none 0 0)).setCell (p := ⟨R, 3, none⟩) HRge.out (.slice none 0 0))
    have HR5 := Sp.hid hR5
    clear hR5 nR2 hb2
    go_wp2_with fail
    obtain ⟨w6, hw6⟩ : ∃ w6, (((w2.setCell ⟨R, 0, none⟩ (.slice none 0 0)).setCell ⟨R, 1, none⟩ (.int .i64 0)).setCell ⟨R, 2, none⟩ (.slice none 0 0)).setCell ⟨R, 3, none⟩ (.slice none 0 0) = w6 := ⟨_, rfl⟩
    rw [hw6] at B05 HR5 ⊢
    have q0 := Nf.blk_cell (i := 0) (v := .slice none 0 0) HR5.out rfl
    have q1 := Nf.blk_cell (i := 1) (v := .int .i64 0) HR5.out rfl
    have q2 := Nf.blk_cell (i := 2) (v := .slice none 0 0) HR5.out rfl
    have q3 := Nf.blk_cell (i := 3) (v := .slice none 0 0) HR5.out rfl
    refine bodyPost_ret (v := .tuple #[.agg #[.slice none 0 0, .int .i64 0, .slice none 0 0, .slice none 0 0], .int .i64 r]) (by simp [results, Tryz.results22, go_sem, Tryz.underlying26, Tryz.isAgg26, Tryz.sizeOf26, q0, q1, q2, q3]) rfl ?_
    exact ⟨Nf.zeroNet, by rw [hE.out]; rfl, Nf.zeroNet_at _, B05.out, fun h => absurd (hE.out.symm.trans h) HNE.out, fun _ => ⟨rfl, rfl, rfl, rfl⟩⟩
end Go.Proofs.YtpoblcmjfcpiaaaGreat
