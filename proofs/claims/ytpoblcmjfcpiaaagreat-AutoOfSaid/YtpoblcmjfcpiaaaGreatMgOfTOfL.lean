/-
  The net of a tree of words, plainly: it is an acceptor, and its words are just those of the list, in their order.
-/
import Derived.Test.YtpoblcmjfcpiaaaGreatMgOf
import Derived.Test.YtpoblcmjfcpiaaaGreatMgRof
import Derived.Test.YtpoblcmjfcpiaaaGreatMgTePTeQTr
import Derived.Test.YtpoblcmjfcpiaaaGreatMgFiRFi
import Derived.Test.YtpoblcmjfcpiaaaGreatMgReSameSw
import Derived.Test.YtpoblcmjfcpiaaaGreatMgRuURuVRuW
import Derived.Test.YtpoblcmjfcpiaaaGreatMgIlR
import Derived.Test.YtpoblcmjfcpiaaaGreatMgAuZAuZaAuKnAuLa
import Derived.Test.YtpoblcmjfcpiaaaGreatMgAuSn
import Derived.Test.YtpoblcmjfcpiaaaGreatMgAuRvReCk
import Derived.IntWalk
set_option linter.unusedVariables false
namespace Go.Proofs.YtpoblcmjfcpiaaaGreat
open Go.RowKit
namespace Nf
theorem len_le_of_nodup {α : Type} : ∀ (l L : List α), l.Nodup → (∀ x ∈ l, x ∈ L) → l.length ≤ L.length
  | [], L, _, _ => Nat.zero_le _
  | x :: r, L, hn, hs => by
    classical
    rw [List.nodup_cons] at hn
    have hx := hs x (by simp)
    have h1 := len_le_of_nodup r (L.filter fun y => decide (y ≠ x)) hn.2 (fun y hy => List.mem_filter.2 ⟨hs y (by simp [hy]), by simpa using fun e => hn.1 (by rw [← e]; exact hy)⟩)
    have h2 : (L.filter fun y => decide (y ≠ x)).length < L.length := List.length_filter_lt_length_iff_exists.2 ⟨x, hx, by simp⟩
    simp
    omega
theorem isOf_gr {sig : List ByteArray} {L : List (List ByteArray)} {m : Net} (h : IsOf sig L m) : TrG (netGr m) L (trAll [] [] L) := by
  constructor
  · show (grOf m.sig m.st.toNat m.arcs m.ends).arcs = _
    rw [h.arcs]
    show List.map _ (List.map arcT _) = _
    rw [List.map_map]
    conv => rhs; rw [← List.map_id (trAll [] [] L).1]
    apply List.map_congr_left
    intro a _
    obtain ⟨x, y, z⟩ := a
    simp [arcT]
  · show (grOf m.sig m.st.toNat m.arcs m.ends).ends = _
    rw [h.ends]
    show List.map _ (List.map endT _) = _
    rw [List.map_map]
    conv => rhs; rw [← List.map_id (trAll [] [] L).2]
    apply List.map_congr_left
    intro a _
    simp [endT]
theorem errOf_zero {sig : List ByteArray} {L : List (List ByteArray)} (h : errOf sig L = 0) : errAll sig L = 0 ∧ (trAll [] [] L).1.length + 1 ≤ 3000 := by
  unfold errOf at h
  by_cases h1 : errAll sig L = 0
  · rw [if_neg (by simpa using h1)] at h
    by_cases h2 : 3000 < (trAll [] [] L).1.length + 1
    · rw [if_pos h2] at h; simp at h
    · exact ⟨h1, by omega⟩
  · rw [if_pos h1] at h; exact absurd h h1
theorem isOf_net {sig : List ByteArray} {L : List (List ByteArray)} {m : Net} (h : IsOf sig L m) (he : errOf sig L = 0) : errNet m = 0 := by
  obtain ⟨h1, h2⟩ := errOf_zero he
  obtain ⟨ha, hl, hw, hf⟩ := errAll_zero h1
  have ok := trAll_ok L
  have hst := h.st
  unfold errNet
  rw [h.arcs, h.ends, h.sig, List.length_map, List.length_map, ok.len]
  rw [if_neg (by omega), if_neg (by simpa using ha)]
  have hsym : ∀ a ∈ (trAll [] [] L).1, a.2.1 ∈ sig := fun a hx => by
    obtain ⟨v, hv, hs⟩ := ok.sym a hx
    exact (isF_iff v sig).1 (hf v hv) _ hs
  have hq : ∀ q ∈ (trAll [] [] L).2, q ≤ (trAll [] [] L).1.length := fun q hx => by
    obtain ⟨v, _, hp⟩ := ok.only q hx
    exact hp.lt ok.ok
  have hn : netOk m = true := by
    simp only [netOk, Bool.and_eq_true, decide_eq_true_eq, List.all_eq_true]
    rw [h.arcs, h.ends]
    refine ⟨⟨by omega, fun a hx => ?_⟩, fun d hx => ?_⟩
    · obtain ⟨y, hy, rfl⟩ := List.mem_map.1 hx
      obtain ⟨t1, t2, t3, _⟩ := ok.ok.mem (q := y.1) (s := y.2.1) (t := y.2.2) hy
      have hs := hsym y hy
      simp only [arcOk, stOk, syOk, arcT, Bool.and_eq_true, Bool.or_eq_true]
      rw [h.sig]
      have a1 : (0 : Int) ≤ (y.1 : Int) := by omega
      have a2 : (y.1 : Int) < m.st := by omega
      have a3 : (0 : Int) ≤ (y.2.2 : Int) := by omega
      have a4 : (y.2.2 : Int) < m.st := by omega
      exact ⟨⟨⟨⟨decide_eq_true a1, decide_eq_true a2⟩, decide_eq_true a3, decide_eq_true a4⟩, .inl (bl_true hs)⟩, .inl (bl_true hs)⟩
    · obtain ⟨q, hy, rfl⟩ := List.mem_map.1 hx
      have := hq q hy
      simp only [stOk, endT, Bool.and_eq_true]
      have a1 : (0 : Int) ≤ (q : Int) := by omega
      have a2 : (q : Int) < m.st := by omega
      exact ⟨decide_eq_true a1, decide_eq_true a2⟩
  have hac : accOk m = true := by
    simp only [accOk, Bool.and_eq_true, List.all_eq_true]
    rw [h.arcs, h.ends]
    refine ⟨fun a hx => ?_, fun d hx => ?_⟩
    · obtain ⟨y, hy, rfl⟩ := List.mem_map.1 hx
      simp [arcFree, arcT, bl_true]
    · obtain ⟨q, hy, rfl⟩ := List.mem_map.1 hx
      simp [endT]
  rw [hn, if_neg (by simp), hac, if_neg (by simp)]
/-- A long way is a long word. -/
theorem tr_lg {g : Gr} {L : List (List ByteArray)} {r : TrA × List Nat} (hg : TrG g L r) (hne : ∀ a, a ∈ r.1 → a.2.1 ≠ eps) : ∀ (k q : Nat) (u : List ByteArray), Lg g k q → TrP r.1 u q → ∃ v f, TrP r.1 v f ∧ f ∈ r.2 ∧ u.length + k ≤ v.length
  | 0, q, u, h, hp => by
    obtain ⟨f, hf, hs⟩ := h
    rw [hg.ends] at hf
    have key : ∀ a b, Star (Any g) a b → ∀ u, TrP r.1 u a → ∃ v, TrP r.1 v b ∧ u.length ≤ v.length := by
      intro a b hab
      induction hab with
      | refl a => intro u hu; exact ⟨u, hu, Nat.le_refl _⟩
      | step h1 _ ih =>
        intro u hu
        obtain ⟨s, hs⟩ := h1
        rw [hg.arcs] at hs
        obtain ⟨v, hv, hl⟩ := ih _ (.snoc hu hs)
        refine ⟨v, hv, ?_⟩
        rw [List.length_append] at hl
        omega
    obtain ⟨v, hv, hl⟩ := key q f hs u hp
    exact ⟨v, f, hv, hf, hl⟩
  | k + 1, q, u, h, hp => by
    obtain ⟨p, b, h1, ⟨s, _, h2⟩, h3⟩ := h
    have e : q = p := by
      cases h1 with
      | refl => rfl
      | step hx _ =>
        unfold E at hx
        rw [hg.arcs] at hx
        exact absurd rfl (hne _ hx)
    subst e
    rw [hg.arcs] at h2
    obtain ⟨v, f, hv, hf, hl⟩ := tr_lg hg hne k b (u ++ [s]) h3 (.snoc hp h2)
    refine ⟨v, f, hv, hf, ?_⟩
    rw [List.length_append] at hl
    simp at hl
    omega
/-- The words that are listed of such a net are those of the list. -/
theorem isOf_words {w : World} {sig : List ByteArray} {L : List (List ByteArray)} {m : Net} (hm : NetAt w m) (h : IsOf sig L m) (he : errOf sig L = 0) : (wordsSpec m 200).2 = (false, 0) ∧ Sp.SetL (wordsSpec m 200).1 L := by
  have h0 := isOf_net h he
  obtain ⟨h1, h2⟩ := errOf_zero he
  obtain ⟨ha, hl, hw, hf⟩ := errAll_zero h1
  have ok := trAll_ok L
  have hg := isOf_gr h
  have hneW : ∀ v, v ∈ L → ∀ s, s ∈ v → s ≠ eps := fun v hv => word_ne (hw v hv)
  have hne : ∀ a, a ∈ (trAll [] [] L).1 → a.2.1 ≠ eps := fun a hx => by
    obtain ⟨v, hv, hs⟩ := ok.sym a hx
    exact hneW v hv _ hs
  have gok := netGr_ok hm h0
  have hsg : (netGr m).sig = sig := h.sig
  have hasc := upto_asc (g := netGr m) (by rw [hsg]; exact Sp.asc_of_alpha ha) 61
  have hmem : ∀ v, v ∈ upto (netGr m) 61 ↔ v ∈ L := fun v => by
    rw [upto_mem gok 61 v, tr_acc hg hneW v]
    constructor
    · rintro ⟨_, _, h3⟩; exact h3
    · intro hv
      refine ⟨by have := (Sp.word_small (hw v hv)).1; omega, ?_, hv⟩
      rw [hsg]
      exact (isF_iff v sig).1 (hf v hv)
  have hnd : (upto (netGr m) 61).Nodup := by
    refine List.Pairwise.imp (fun {a b} hab => ?_) hasc
    intro e
    subst e
    rw [Sp.cmp_self] at hab
    simp at hab
  have hlen : (upto (netGr m) 61).length ≤ 200 := Nat.le_trans (len_le_of_nodup _ L hnd (fun x hx => (hmem x).1 hx)) hl
  have hlg : ¬ Lg (netGr m) 61 0 := fun hlg => by
    obtain ⟨v, f, hv, hf2, hvl⟩ := tr_lg hg hne 61 0 [] hlg .nil
    obtain ⟨u, hu, hp⟩ := ok.only f hf2
    rw [hv.inj ok.ok hp] at hvl
    have := (Sp.word_small (hw u hu)).1
    simp at hvl
    omega
  have hspec : wordsSpec m 200 = (upto (netGr m) 61, false, 0) := by
    unfold wordsSpec
    rw [if_neg (by simpa using h0), if_neg (by omega)]
    unfold firstSpec
    rw [if_neg (by simp; omega), if_neg (fun hh => hlg hh.1), bl_false hlg]
  rw [hspec]
  exact ⟨rfl, hasc.imp fun {a b} hab => (Sp.ltL_iff a b).2 hab, hmem⟩
end Nf
end Go.Proofs.YtpoblcmjfcpiaaaGreat

/-
  The walk of AutoOf.
-/
set_option linter.unusedVariables false
set_option linter.unusedSimpArgs false
namespace Go.Proofs.YtpoblcmjfcpiaaaGreat
open Go.RowKit

set_option maxHeartbeats 8000000 in
set_option maxRecDepth 100000 in
theorem autoOf_any (w : World) (ao : Option Addr) (n cap : Nat) (sig : List ByteArray) (bo : Option Addr) (m mcap : Nat) (els : List Lst) (h : Sp.Row w ao n sig) (hL : Sp.RowE w bo m els) :
    Calls Tryz.prog 6 #[.slice ao n cap, .slice bo m mcap] w fun e w' => e = .returned (.bool true) ∧ Below w.heap.size w w' := by
  have hmm := hL.2.1
  unfold maxLen at hmm
  have Hlen := Sp.hid (show (Sp.lists els).length = m by simp [Sp.lists, hL.1])
  have hb1 : Below w.heap.size w (w.alloc (.cells #[.slice ao n cap] 22)) := (Below.refl _ w).alloc (Nat.le_refl _) _
  have hc1 : (w.alloc (.cells #[.slice ao n cap] 22)).cell? ⟨w.heap.size, 0, none⟩ = some (.slice ao n cap) := Nf.blk_cell (i := 0) (Nf.Below.heap_new w _) rfl
  obtain ⟨w1, hw1⟩ : ∃ w1, w.alloc (.cells #[.slice ao n cap] 22) = w1 := ⟨_, rfl⟩
  rw [hw1] at hb1 hc1
  have HIl := Sp.hid (isLong_any w1 w.heap.size ao n cap sig hc1 (h.below hb1))
  have HIr := Sp.hid (isLongR_any w1 bo m mcap els (hL.below hb1))
  have HO := Sp.hid (of_any w1 ao n cap sig bo m mcap els (h.below hb1) (hL.below hb1))
  have Hb1 := Sp.hid hb1
  have Hw1 := Sp.hid hw1
  have HH := Sp.hid h
  have HL := Sp.hid hL
  clear h hL hb1 hc1 hw1
  go_enter Tryz.func6, Tryz.ntmps6
  go_wp2_with fail
  rw [Hw1.out]
  refine HIl.out.mono ?_
  rintro e w' ⟨lg, rfl, rfl⟩
  cases lg with
  | true =>
    go_wp2_with fail
    refine (known_any w1).mono ?_
    rintro e w3 ⟨rfl, hb3⟩
    have Hb3 := Sp.hid (Hb1.out.trans (hb3.mono Hb1.out.size))
    clear hb3
    go_wp2_with fail
    go_ret
    exact ⟨rfl, Hb3.out⟩
  | false =>
    go_wp2_with fail
    refine HIr.out.mono ?_
    rintro e w' ⟨lg, rfl, rfl⟩
    cases lg with
    | true =>
      go_wp2_with fail
      refine (known_any w1).mono ?_
      rintro e w3 ⟨rfl, hb3⟩
      have Hb3 := Sp.hid (Hb1.out.trans (hb3.mono Hb1.out.size))
      clear hb3
      go_wp2_with fail
      go_ret
      exact ⟨rfl, Hb3.out⟩
    | false =>
      by_cases h4 : (m : Int) > 4000
      · go_wp2_with fail
        refine (known_any w1).mono ?_
        rintro e w3 ⟨rfl, hb3⟩
        have Hb3 := Sp.hid (Hb1.out.trans (hb3.mono Hb1.out.size))
        clear hb3
        go_wp2_with fail
        go_ret
        exact ⟨rfl, Hb3.out⟩
      · obtain ⟨r, hr⟩ : ∃ r, Nf.errOf sig (Sp.lists els) = r := ⟨_, rfl⟩
        have HO2 : Hid (Calls Tryz.prog 22 #[.slice ao n cap, .slice bo m mcap] w1 (fun e w' => ∃ M : Nf.Net, e = .returned (.tuple #[.agg #[.slice M.so M.sn M.scap, .int .i64 M.st, .slice M.ao M.an M.acap, .slice M.eo M.en M.ecap], .int .i64 r]) ∧ Hid (Nf.NetAt w' M ∧ Below w1.heap.size w1 w' ∧ (r = 0 → Nf.IsOf sig (Sp.lists els) M) ∧ (r ≠ 0 → M.sig = [] ∧ M.st = 0 ∧ M.arcs = [] ∧ M.ends = [])))) := Sp.hid (by
          refine HO.out.mono ?_
          rintro e w' ⟨M, he, h1, h2, h3, h4⟩
          rw [hr] at he h3 h4
          exact ⟨M, he, Sp.hid ⟨h1, h2, h3, h4⟩⟩)
        have Hr := Sp.hid hr
        have h4' : decide ((m : Int) > 4000) = false := by simpa using h4
        clear hr HO
        go_wp2_with fail
        refine HO2.out.mono ?_
        rintro e w4 ⟨M, rfl, HM⟩
        obtain ⟨mso, msn, mscap, msig, mst, mao, man, macap, marcs, meo, men, mecap, mends⟩ := M
        have hm5 := Nf.Below.heap_new w4 (.cells #[.slice mso msn mscap, .int .i64 mst, .slice mao man macap, .slice meo men mecap] 26)
        have hb4 := Hb1.out.trans (HM.out.2.1.mono Hb1.out.size)
        have hb45 : Below w4.heap.size w4 (w4.alloc (.cells #[.slice mso msn mscap, .int .i64 mst, .slice mao man macap, .slice meo men mecap] 26)) := (Below.refl _ w4).alloc (Nat.le_refl _) _
        have hb5 := hb4.trans (hb45.mono hb4.size)
        have HX : Hid (Calls Tryz.prog 23 #[.slice ao n cap, .slice bo m mcap] (w4.alloc (.cells #[.slice mso msn mscap, .int .i64 mst, .slice mao man macap, .slice meo men mecap] 26)) (fun e w' => ∃ (a1 : Option Addr) (n1 c1 : Nat) (st : Int) (a2 : Option Addr) (n2 c2 : Nat) (a3 : Option Addr) (n3 c3 : Nat), e = .returned (.tuple #[.agg #[.slice a1 n1 c1, .int .i64 st, .slice a2 n2 c2, .slice a3 n3 c3], .int .i64 r]) ∧ Hid (Below (w4.alloc (.cells #[.slice mso msn mscap, .int .i64 mst, .slice mao man macap, .slice meo men mecap] 26)).heap.size (w4.alloc (.cells #[.slice mso msn mscap, .int .i64 mst, .slice mao man macap, .slice meo men mecap] 26)) w'))) := Sp.hid (by
          refine (rof_any _ ao n cap sig bo m mcap els (HH.out.below hb5) (HL.out.below hb5)).mono ?_
          rintro e w' ⟨a1, n1, c1, st, a2, n2, c2, a3, n3, c3, he, hb⟩
          rw [Hr.out] at he
          exact ⟨a1, n1, c1, st, a2, n2, c2, a3, n3, c3, he, Sp.hid hb⟩)
        have Hm5 := Sp.hid hm5
        have Hb5 := Sp.hid hb5
        have Hb45 := Sp.hid hb45
        clear hm5 hb4 hb45 hb5 HO2
        go_wp2_with fail
        obtain ⟨w5, hw5⟩ : ∃ w5, w4.alloc (.cells #[.slice mso msn mscap, .int .i64 mst, .slice mao man macap, .slice meo men mecap] 26) = w5 := ⟨_, rfl⟩
        obtain ⟨B, hB⟩ : ∃ B, w4.heap.size = B := ⟨_, rfl⟩
        rw [hw5] at Hb45
        rw [hw5, hB] at Hm5
        rw [hw5] at Hb5 HX
        rw [hw5, hB]
        refine HX.out.mono ?_
        rintro e w6 ⟨a1, n1, c1, st, a2, n2, c2, a3, n3, c3, rfl, Hb6⟩
        have hm6 := Nf.blk_below Hm5.out Hb6.out (Nf.blk_lt Hm5.out)
        have hm7 := Nf.blk_alloc hm6 (.cells #[.slice a1 n1 c1, .int .i64 st, .slice a2 n2 c2, .slice a3 n3 c3] 26)
        have hb6 := Hb5.out.trans (Hb6.out.mono Hb5.out.size)
        have hb7 : Below w.heap.size w (w6.alloc (.cells #[.slice a1 n1 c1, .int .i64 st, .slice a2 n2 c2, .slice a3 n3 c3] 26)) := hb6.alloc (by have := hb6.size; omega) _
        have hm47 : Nf.NetAt (w6.alloc (.cells #[.slice a1 n1 c1, .int .i64 st, .slice a2 n2 c2, .slice a3 n3 c3] 26)) ⟨mso, msn, mscap, msig, mst, mao, man, macap, marcs, meo, men, mecap, mends⟩ :=
          ((HM.out.1.below Hb45.out).below Hb6.out).below ((Below.refl _ w6).alloc (Nat.le_refl _) _)
        have m0 := Nf.blk_cell (i := 0) (v := .slice mso msn mscap) hm7 rfl
        have m1 := Nf.blk_cell (i := 1) (v := .int .i64 mst) hm7 rfl
        have m2 := Nf.blk_cell (i := 2) (v := .slice mao man macap) hm7 rfl
        have m3 := Nf.blk_cell (i := 3) (v := .slice meo men mecap) hm7 rfl
        have Hb7 := Sp.hid hb7
        have Hm47 := Sp.hid hm47
        have Hm7 := Sp.hid hm7
        have HM2 := Sp.hid HM.out.2.2
        clear hm6 hm7 hb6 hb7 hm47 Hb6 Hm5 Hb5 Hb45 HX HM hw5 hB
        have hrr : (r != r) = false := by simp
        by_cases h0 : r = 0
        · subst h0
          have HIs := Sp.hid (HM2.out.1 (by simp))
          have HW := Sp.hid (fun (w9 : World) (hat : Nf.NetAt w9 ⟨mso, msn, mscap, msig, mst, mao, man, macap, marcs, meo, men, mecap, mends⟩) => refNWords_any w9 ⟨mso, msn, mscap, msig, mst, mao, man, macap, marcs, meo, men, mecap, mends⟩ 200 hat (by omega) (by omega))
          obtain ⟨hs1, hs2⟩ := Nf.isOf_words Hm47.out HIs.out Hr.out
          obtain ⟨ws, hws⟩ : ∃ ws, (Nf.wordsSpec ⟨mso, msn, mscap, msig, mst, mao, man, macap, marcs, meo, men, mecap, mends⟩ 200).1 = ws := ⟨_, rfl⟩
          rw [hws] at hs2
          have hspec : Nf.wordsSpec ⟨mso, msn, mscap, msig, mst, mao, man, macap, marcs, meo, men, mecap, mends⟩ 200 = (ws, false, 0) := by
            rw [← hws, ← hs1]
          have HW2 : Hid (∀ w9 : World, Nf.NetAt w9 ⟨mso, msn, mscap, msig, mst, mao, man, macap, marcs, meo, men, mecap, mends⟩ → Calls Tryz.prog 20 #[.agg #[.slice mso msn mscap, .int .i64 mst, .slice mao man macap, .slice meo men mecap], .int .i64 200] w9 (fun e w' => ∃ (bo : Option Addr) (m cap : Nat) (els' : List Lst), e = .returned (.tuple #[.slice bo m cap, .bool false, .int .i64 0]) ∧ Hid (Sp.RowE w' bo m els' ∧ Below w9.heap.size w9 w' ∧ Sp.lists els' = ws))) := Sp.hid (fun w9 hat => by
            refine (HW.out w9 hat).mono ?_
            rintro e w' ⟨bo, m, cap, els', more, er, he, hrow, hb, hsp⟩
            rw [hspec] at hsp
            simp only [Prod.mk.injEq] at hsp
            obtain ⟨e1, e2, e3⟩ := hsp
            subst e2 e3
            exact ⟨bo, m, cap, els', he, Sp.hid ⟨hrow, hb, e1⟩⟩)
          have HSet := Sp.hid hs2
          have HNet := Sp.hid (Nf.isOf_net HIs.out Hr.out)
          have HAll := Sp.hid (Nf.errOf_zero Hr.out).1
          clear HW hs1 hs2 hws hspec HM2
          go_wp2_with fail
          obtain ⟨w7, hw7⟩ : ∃ w7, w6.alloc (.cells #[.slice a1 n1 c1, .int .i64 st, .slice a2 n2 c2, .slice a3 n3 c3] 26) = w7 := ⟨_, rfl⟩
          rw [hw7] at Hb7 Hm47 Hm7
          rw [hw7]
          clear m0 m1 m2 m3 hw7
          refine (HW2.out w7 Hm47.out).mono ?_
          rintro e w8 ⟨xo, xn, xc, els', rfl, H8⟩
          have Hb8 := Sp.hid (Hb7.out.trans (H8.out.2.1.mono Hb7.out.size))
          have Hm48 := Sp.hid (Hm47.out.below H8.out.2.1)
          have Hm8 := Sp.hid (Nf.blk_below Hm7.out H8.out.2.1 (Nf.blk_lt Hm7.out))
          have HSo := refSorted_any bo m mcap els w8 (HL.out.below Hb8.out)
          have hl200 : ¬ 200 < (Sp.lists els).length := by have := (Nf.errAll_zero HAll.out).2.1; omega
          have hw0 : Sp.errWords (Sp.lists els) = 0 := Sp.errWords_good (fun x hx => (Nf.errAll_zero HAll.out).2.2.1 x hx)
          have HSo2 : Hid (Calls Tryz.prog 25 #[.slice bo m mcap] w8 (fun e w' => ∃ (co : Option Addr) (k c : Nat) (els2 : List Lst), e = .returned (.tuple #[.slice co k c, .int .i64 0]) ∧ Hid (Sp.RowE w' co k els2 ∧ Below w8.heap.size w8 w' ∧ Sp.lists els2 = ws))) := Sp.hid (by
            refine HSo.mono ?_
            rintro e w' ⟨v, LL, he, hset, co, k, c, hv, hrow, hb⟩
            rw [if_neg hl200, hw0] at he
            rw [if_neg hl200, if_pos hw0] at hset
            subst hv
            obtain ⟨els2, hre, hle⟩ := hrow.els
            exact ⟨co, k, c, els2, he, Sp.hid ⟨hre, hb, by rw [hle]; exact Sp.SetL.unique hset HSet.out⟩⟩)
          clear HSo hl200 hw0
          go_wp2_with fail
          refine HSo2.out.mono ?_
          rintro e w9 ⟨yo, yn, yc, els2, rfl, H9⟩
          have Hb9 := Sp.hid (Hb8.out.trans (H9.out.2.1.mono Hb8.out.size))
          have Hm49 := Sp.hid (Hm48.out.below H9.out.2.1)
          have Hm9 := Sp.hid (Nf.blk_below Hm8.out H9.out.2.1 (Nf.blk_lt Hm8.out))
          have H89 := Sp.hid (H8.out.1.below H9.out.2.1)
          have m0 : w9.cell? ⟨B, 0, none⟩ = some (.slice mso msn mscap) := Nf.blk_cell (i := 0) Hm9.out rfl
          have HSm : Hid (Calls Tryz.prog 12 #[.slice mso msn mscap, .slice ao n cap] w9 (fun e w' => e = .returned (.bool true) ∧ Below w9.heap.size w9 w')) := Sp.hid (by
            have z1 : Sp.Row w9 mso msn msig := Hm49.out.sig
            have z2 : msig = sig := HIs.out.sig
            rw [z2] at z1
            refine (refSame_any mso ao msn n mscap cap sig sig w9 z1 (HH.out.below Hb9.out)).mono ?_
            rintro e w' ⟨rfl, q, rfl⟩
            exact ⟨by rw [Sp.ord_self]; rfl, Sp.below_of_drew ⟨q, rfl⟩⟩)
          go_wp2_with fail
          refine HSm.out.mono ?_
          rintro e w10 ⟨rfl, hb10⟩
          have Hb10 := Sp.hid (Hb9.out.trans (hb10.mono Hb9.out.size))
          have Hm410 := Sp.hid (Hm49.out.below hb10)
          have hm10 := Nf.blk_below Hm9.out hb10 (Nf.blk_lt Hm9.out)
          have H810 := Sp.hid (H89.out.below hb10)
          have H910 := Sp.hid (H9.out.1.below hb10)
          clear m0
          have m0 := Nf.blk_cell (i := 0) (v := .slice mso msn mscap) hm10 rfl
          have m1 := Nf.blk_cell (i := 1) (v := .int .i64 mst) hm10 rfl
          have m2 := Nf.blk_cell (i := 2) (v := .slice mao man macap) hm10 rfl
          have m3 := Nf.blk_cell (i := 3) (v := .slice meo men mecap) hm10 rfl
          have HVn : Hid (Calls Tryz.prog 26 #[.agg #[.slice mso msn mscap, .int .i64 mst, .slice mao man macap, .slice meo men mecap]] w10 (fun e w' => e = .returned (.int .i64 0) ∧ Below w10.heap.size w10 w')) := Sp.hid (by
            have h1 := refValidN_any w10 ⟨mso, msn, mscap, msig, mst, mao, man, macap, marcs, meo, men, mecap, mends⟩ Hm410.out
            rw [HNet.out] at h1
            exact h1)
          clear hb10 hm10
          go_wp2_with fail
          refine HVn.out.mono ?_
          rintro e w11 ⟨rfl, hb11⟩
          have Hb11 := Sp.hid (Hb10.out.trans (hb11.mono Hb10.out.size))
          have HSw := Sp.hid (sameWords_any w11 xo yo xn yn xc yc els' els2 (H810.out.below hb11) (H910.out.below hb11) (H8.out.2.2.trans H9.out.2.2.symm))
          clear hb11 m0 m1 m2 m3
          go_wp2_with fail
          refine HSw.out.mono ?_
          rintro e w12 ⟨rfl, hb12⟩
          have Hb12 := Sp.hid (Hb11.out.trans (hb12.mono Hb11.out.size))
          clear hb12
          go_wp2_with fail
          refine (known_any w12).mono ?_
          rintro e w13 ⟨rfl, hb13⟩
          have Hb13 := Sp.hid (Hb12.out.trans (hb13.mono Hb12.out.size))
          clear hb13
          go_wp2_with fail
          go_ret
          exact ⟨rfl, Hb13.out⟩
        · have h0' : (r != 0) = true := by simpa using h0
          go_wp2_with fail
          obtain ⟨k1, k2, k3, k4⟩ := HM2.out.2 h0
          refine (sameNet_any _ ⟨mso, msn, mscap, msig, mst, mao, man, macap, marcs, meo, men, mecap, mends⟩ Nf.zeroNet Hm47.out (Nf.zeroNet_at _) k1 k2 k3 k4).mono ?_
          rintro e w8 ⟨rfl, hb8⟩
          have Hb8 := Sp.hid (Hb7.out.trans (hb8.mono Hb7.out.size))
          clear hb8 k1 k2 k3 k4 m0 m1 m2 m3
          go_wp2_with fail
          refine (known_any w8).mono ?_
          rintro e w9 ⟨rfl, hb9⟩
          have Hb9 := Sp.hid (Hb8.out.trans (hb9.mono Hb8.out.size))
          clear hb9
          go_wp2_with fail
          go_ret
          exact ⟨rfl, Hb9.out⟩
end Go.Proofs.YtpoblcmjfcpiaaaGreat
