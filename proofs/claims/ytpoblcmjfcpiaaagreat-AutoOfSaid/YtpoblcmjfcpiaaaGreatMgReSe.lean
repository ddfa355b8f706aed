/-
  The walk of the reference's spread along empty edges.
-/
import Derived.Test.YtpoblcmjfcpiaaaGreatMgReSpMReSeM
import Derived.Test.YtpoblcmjfcpiaaaGreatMgReKpReOw
import Derived.LoopTactic
set_option linter.unusedVariables false
set_option linter.unusedSimpArgs false
namespace Go.Proofs.YtpoblcmjfcpiaaaGreat
open Go.RowKit
set_option maxHeartbeats 2000000 in
set_option maxRecDepth 100000 in
theorem spreadE_any (w : World) (b0 tb hb cp N : Nat) (V : Nat → Value) (R : Nat → List (ByteArray × Nat)) (S : Nat → Prop) (hN : N ≤ 3000)
    (hR : Nf.RowsAt Nf.enE 102 100 2 w b0 tb N V R) (hv : Vec Value.bool w hb 4 cp N (fun i => Nf.bl (S i))) (hlen : ∀ i, (R i).length ≤ 4000000000) (hto : ∀ p x, x ∈ R p → x.2 < N) :
    Calls Tryz.prog 60 #[.slice (some ⟨tb, 0, none⟩) N N, .slice (some ⟨hb, 0, none⟩) N cp, .bool true] w (Nf.SqPost w hb cp N R S) := by
  have hp : Nf.SqPost w hb cp N R S = fun e w' => e = .returned (.tuple #[]) ∧ ∃ L : List Nat, (∀ q, q ∈ L ↔ ∃ p, p < N ∧ S p ∧ Nf.Star (Nf.Rel [Nf.tabOf Nf.isEps R]) p q) ∧ Vec Value.bool w' hb 4 cp N (fun i => decide (i ∈ L)) ∧ w.grownBy w' (some hb) := rfl
  rw [hp]
  have HR := Sp.hid hR
  have HV := Sp.hid hv
  have Hlen := Sp.hid hlen
  have Hto := Sp.hid hto
  clear hp hR hv hlen hto
  go_enter Tryz.func60, Tryz.ntmps60
  go_wp2_with fail
  go_loopw [6, 7] (fun t i wr => ∃ (k : Nat) (lo : Option Addr) (n c : Nat), t = .slice lo n c ∧ i = .int .i64 k ∧ k ≤ N ∧ Hid ((Nf.keep S (List.range k)).length = n) ∧ Hid (wr.ownsRow w.heap.size 3 1 (.slice lo n c) n ((Nf.keep S (List.range k)).map Nf.num)) ∧ Hid (Below w.heap.size w wr)) (fun _ i _ => N - (intOf i).toNat)
  case atStart => exact ⟨0, none, 0, 0, rfl, rfl, Nat.zero_le _, Sp.hid rfl, Sp.hid (World.ownsRow_nil _ _ _ _), Sp.hid (Below.refl _ _)⟩
  case round =>
    obtain ⟨k, lo, n, c, rfl, rfl, hk, Hn, Hown, Hb⟩ := hrel
    by_cases hkn : k < N
    · have cm : wr.cell? ⟨hb, k, none⟩ = some (.bool (Nf.bl (S k))) := by
        have h1 := HV.out.cell hkn
        rw [Hb.out.cell (World.block_lt_of_cell? w _ h1)]; exact h1
      have hz := Hb.out.size
      have i1 : (0 : Int) ≤ (k : Int) := by omega
      have i2 : (k : Int) < (N : Int) := by omega
      by_cases hS : S k
      · rw [Nf.bl_true hS] at cm
        have Hkeep : Hid (Nf.keep S (List.range (k + 1)) = Nf.keep S (List.range k) ++ [k]) := Sp.hid (by unfold Nf.keep; rw [List.range_succ, List.filter_append]; simp [Nf.bl_true hS])
        have Hown2 := Sp.hid (show (wr.alloc (.cells #[.int .i64 k] 3)).ownsRow w.heap.size 3 1 (.slice lo n c) (Nf.keep S (List.range k)).length ((Nf.keep S (List.range k)).map Nf.num) from by rw [Hn.out]; exact Hown.out.alloc _)
        have Hb2 := Sp.hid (Hb.out.alloc hz (.cells #[.int .i64 k] 3))
        have hzz : w.heap.size ≤ (wr.alloc (.cells #[.int .i64 k] 3)).heap.size := by simp; omega
        have hk9 : (Nf.keep S (List.range k)).length ≤ 1000000000000 := by
          have h1 : (Nf.keep S (List.range k)).length ≤ (List.range k).length := List.length_filter_le _ _
          rw [List.length_range] at h1
          omega
        have Hk9 := Sp.hid hk9
        clear hS hk9
        go_wp2_with (first
          | (at_builtin; refine Nf.push_num2 rfl _ _ rfl w.heap.size (.slice lo n c) (Nf.keep S (List.range k)) rfl Hown2.out k ⟨wr.heap.size, 0, none⟩ 1 rfl ?c1 ?c2 ?c3 ?_)
          | fail)
        case c1 => simp [go_sem]
        case c2 => exact Hk9.out
        case c3 => exact hzz
        intro v3 w3 hown3 hg3 _
        have hown3 : w3.ownsRow w.heap.size 3 1 v3 (Nf.keep S (List.range (k + 1))).length ((Nf.keep S (List.range (k + 1))).map Nf.num) := by rw [Hkeep.out, List.length_append, List.map_append]; exact hown3
        have hL3 : (Nf.keep S (List.range (k + 1))).length = n + 1 := by rw [Hkeep.out, List.length_append, Hn.out]; rfl
        obtain ⟨lo3, c3, rfl, _, _⟩ := Nf.seq_of_own hown3 (by rw [hL3, ← Hn.out]; unfold maxLen; have := Hk9.out; omega)
        rw [hL3] at hown3 ⊢
        have Hown3 := Sp.hid hown3
        have HL3 := Sp.hid hL3
        have Hb3 : Hid (Below w.heap.size w w3) := Sp.hid (Hb2.out.grown hg3 hzz (fun k hk => (Hown2.out.lt k hk).1))
        clear hown3 hg3 hL3
        go_wp2_with fail
        go_roundw
        case rel => exact ⟨k + 1, lo3, n + 1, c3, rfl, by go_num, hkn, HL3, Hown3, Hb3⟩
        case measure => simp [intOf]; omega
      · rw [Nf.bl_false hS] at cm
        have Hkeep : Hid (Nf.keep S (List.range (k + 1)) = Nf.keep S (List.range k)) := Sp.hid (by unfold Nf.keep; rw [List.range_succ, List.filter_append]; simp [Nf.bl_false hS])
        clear hS
        go_wp2_with fail
        go_roundw
        case rel => exact ⟨k + 1, lo, n, c, rfl, by go_num, hkn, Sp.hid (by rw [Hkeep.out]; exact Hn.out), Sp.hid (by rw [Hkeep.out]; exact Hown.out), Hb⟩
        case measure => simp [intOf]; omega
    · have hke : k = N := by omega
      have hz := Hb.out.size
      obtain ⟨L1, hL1⟩ : ∃ L1, Nf.keep S (List.range k) = L1 := ⟨_, rfl⟩
      have HL1 : Hid (∀ q, q ∈ L1 ↔ q < N ∧ S q) := Sp.hid (fun q => by rw [← hL1, Nf.mem_keep, List.mem_range, hke])
      have hpl : Nf.Pool N L1 := ⟨by rw [← hL1]; exact List.Pairwise.filter _ List.nodup_range, fun q hq => ((HL1.out q).1 hq).1⟩
      rw [hL1] at Hn Hown
      have HC : Hid (Nf.SqAt w wr b0 tb hb cp N V R L1 (.slice lo n c)) := Sp.hid ⟨HR.out.below Hb.out, ⟨hpl, by omega, (HV.out.grown (row := none) ⟨Hb.out.os, Hb.out.tape, Hb.out.output, Hb.out.size, fun k hk _ => Hb.out.block k hk⟩ (by simp)).congr (fun i hi => by
        rw [Nf.bl_decide]
        exact Nf.bl_congr ⟨fun h => (HL1.out i).2 ⟨hi, h⟩, fun h => ((HL1.out i).1 h).2⟩), by rw [Hn.out]; exact Hown.out⟩, Nf.grown_below Hb.out _⟩
      have HF := Sp.hid (Nf.Fol.start (tabs := [Nf.tabOf Nf.isEps R]) hpl)
      clear hke hpl hL1
      obtain ⟨wA, hwA⟩ : ∃ wA : World, wA = wr := ⟨_, rfl⟩
      go_wp2_with fail
      go_loopw [6, 8] (fun o i wr => ∃ (k : Nat) (lv : Value) (L2 : List Nat), i = .int .i64 k ∧ lv = o ∧ Hid (Nf.SqAt w wr b0 tb hb cp N V R L2 lv) ∧ Hid (Nf.Fol [Nf.tabOf Nf.isEps R] N L1 k L2)) (fun _ i _ => N - (intOf i).toNat)
      case atStart => exact ⟨0, _, L1, rfl, rfl, HC, HF⟩
      case round =>
        obtain ⟨k2, lv2, L2, rfl, rfl, HC2, HF2⟩ := hrel
        have hpl2 := HC2.out.pool.pool.len
        clear HC HF
        obtain ⟨lo2, lcap2, rfl, hseq2, hlc2⟩ := Nf.seq_of_own HC2.out.pool.list (by unfold maxLen; omega)
        have Hseq2 := Sp.hid hseq2
        clear hseq2 hlc2
        by_cases hk2 : k2 < L2.length
        · obtain ⟨p, hp⟩ : ∃ p, L2[k2]? = some p := ⟨_, List.getElem?_eq_getElem hk2⟩
          have hpN := HC2.out.pool.pool.lt p (List.mem_of_getElem? hp)
          have HFI := Sp.hid (HF2.out.at_ hp)
          clear hp
          obtain ⟨wB, hwB⟩ : ∃ wB : World, wB = wr := ⟨_, rfl⟩
          go_wp2_with fail
          go_loopw [6, 9] (fun o i wr => ∃ (m : Nat) (lv : Value) (L3 : List Nat), i = .int .i64 m ∧ lv = o ∧ m ≤ (R p).length ∧ Hid (Nf.SqAt w wr b0 tb hb cp N V R L3 lv) ∧ Hid (Nf.FolIn [Nf.tabOf Nf.isEps R] N L1 k2 p 0 m L3)) (fun _ i _ => (R p).length - (intOf i).toNat)
          case atStart => exact ⟨0, _, L2, rfl, rfl, Nat.zero_le _, HC2, HFI⟩
          case round =>
            obtain ⟨m, lv3, L3, rfl, rfl, hmle, HC3, HF3⟩ := hrel
            have hpl3 := HC3.out.pool.pool.len
            have hk3 : k2 < L3.length := (List.getElem?_eq_some_iff.1 HF3.out.at_).1
            obtain ⟨lo3, lcap3, rfl, hseq3, hlc3⟩ := Nf.seq_of_own HC3.out.pool.list (by unfold maxLen; omega)
            obtain ⟨lb, loff, p', rfl, cI, hp', _⟩ := hseq3.at hk3
            have hpp : p' = p := by have h := HF3.out.at_; rw [hp'] at h; exact Option.some.inj h
            subst hpp
            obtain ⟨ro, rcap, cE, hrc⟩ := HC3.out.rows.at_ Nf.enE_len hpN
            have hrl := Hlen.out p'
            have i1 : (0 : Int) ≤ (k2 : Int) := by omega
            have i2 : (k2 : Int) < (L3.length : Int) := by omega
            have i3 : (0 : Int) ≤ (p' : Int) := by omega
            have i4 : (p' : Int) < (N : Int) := by omega
            unfold Nf.num at cI
            have Hrc := Sp.hid hrc
            clear hrc hp' hseq3 hlc3
            by_cases hm : m < (R p').length
            · obtain ⟨b2, off2, x, rfl, hx, hxc, _⟩ := Hrc.out.at hm
              obtain ⟨s, q⟩ := x
              have hqN : q < N := Hto.out p' (s, q) (List.mem_of_getElem? hx)
              have cX0 : wr.cell? ⟨b2, off2 + m * 2, none⟩ = some (.string s) := hxc 0 _ rfl
              have cX1 : wr.cell? ⟨b2, off2 + m * 2 + 1, none⟩ = some (.int .i64 q) := hxc 1 _ rfl
              have i5 : (0 : Int) ≤ (m : Int) := by omega
              have i6 : (m : Int) < ((R p').length : Int) := by omega
              have i7 : (0 : Int) ≤ (q : Int) := by omega
              have i8 : (q : Int) < (N : Int) := by omega
              have Hget := Sp.hid (Nf.tabOf_get (ask := Nf.isEps) hx)
              have hhb := HC3.out.pool.has.lt
              have heh : wr.heap.size ≠ hb := by omega
              have heh2 : hb ≠ wr.heap.size := by omega
              have HC4 := Sp.hid (HC3.out.alloc (.cells #[.string s, .int .i64 q] 102))
              have d1 := HC4.out.pool.has.cell hqN
              have f1 := HC4.out.pool.has.free q
              have hz3 := HC3.out.gr.size
              have hp3 : p' ∈ L3 := List.mem_of_getElem? HF3.out.at_
              clear hx hxc
              by_cases hqm : q ∈ L3
              · rw [decide_eq_true hqm] at d1
                have hold : Nf.ins L3 (if Nf.isEps s = true then q else p') = L3 := by
                  split
                  · exact Nf.ins_old hqm
                  · exact Nf.ins_old hp3
                have HF4 := Sp.hid (HF3.out.add (R := Nf.tabOf Nf.isEps R) rfl Hget.out (by show (if Nf.isEps s = true then q else p') < N; split <;> assumption))
                have HF5 : Hid (Nf.FolIn [Nf.tabOf Nf.isEps R] N L1 k2 p' 0 (m + 1) L3) := Sp.hid (by have h := HF4.out; simp only at h; rwa [hold] at h)
                clear hqm hold HF4 hp3
                go_wp2_with fail
                go_roundw
                case rel => exact ⟨m + 1, _, L3, by go_num, rfl, hm, HC4, HF5⟩
                case measure => simp [intOf]; omega
              · rw [decide_eq_false hqm] at d1
                have Hqm := Sp.hid hqm
                by_cases hse : s.size = 0
                · have hzz : s.toList.isEmpty = true := Sp.empty_of_size hse
                  have HF4 := Sp.hid (HF3.out.add (R := Nf.tabOf Nf.isEps R) rfl Hget.out (by show (if Nf.isEps s = true then q else p') < N; split <;> assumption))
                  have HF5 : Hid (Nf.FolIn [Nf.tabOf Nf.isEps R] N L1 k2 p' 0 (m + 1) (L3 ++ [q])) := Sp.hid (by
                    have h := HF4.out
                    have he : Nf.isEps s = true := by simp [Nf.isEps, hse]
                    simp only [he, if_true] at h
                    rwa [Nf.ins_new hqm] at h)
                  have Hown := Sp.hid ((HC3.out.own q (.cells #[.string s, .int .i64 q] 102)).alloc (.cells #[.int .i64 q] 3))
                  have hwB : w.heap.size ≤ (((wr.setCell ⟨hb, q, none⟩ (.bool true)).alloc (.cells #[.string s, .int .i64 q] 102)).alloc (.cells #[.int .i64 q] 3)).heap.size := by simp [World.setCell]; omega
                  have hl9 : L3.length ≤ 1000000000000 := by omega
                  clear hqm hse HF4 hp3
                  go_wp2_with (first
                    | (at_builtin; refine Nf.push_num2 rfl _ _ rfl w.heap.size _ L3 rfl Hown.out q _ 1 rfl ?c1 ?c2 ?c3 ?_)
                    | fail)
                  case c3 => first | exact hwB | simpa using hwB
                  intro v2 w2 hown2 hgrow2 _
                  have HC5 := Sp.hid (HC3.out.push Hqm.out hqN (o := .cells #[.string s, .int .i64 q] 102) (grownBy_trans (World.grownBy_alloc _ (.cells #[.int .i64 q] 3) _) hgrow2) (by simpa using hown2))
                  clear hown2 hgrow2
                  go_wp2_with fail
                  go_roundw
                  case rel => exact ⟨m + 1, v2, L3 ++ [q], by go_num, rfl, hm, HC5, HF5⟩
                  case measure => simp [intOf]; omega
                · have hzz : s.toList.isEmpty = false := Sp.not_empty_of_size hse
                  have HF4 := Sp.hid (HF3.out.add (R := Nf.tabOf Nf.isEps R) rfl Hget.out (by show (if Nf.isEps s = true then q else p') < N; split <;> assumption))
                  have HF5 : Hid (Nf.FolIn [Nf.tabOf Nf.isEps R] N L1 k2 p' 0 (m + 1) L3) := Sp.hid (by
                    have h := HF4.out
                    have he : Nf.isEps s = false := by simp [Nf.isEps, hse]
                    simp only [he, Bool.false_eq_true, if_false] at h
                    rwa [Nf.ins_old hp3] at h)
                  clear hqm hse HF4 hp3
                  go_wp2_with fail
                  go_roundw
                  case rel => exact ⟨m + 1, _, L3, by go_num, rfl, hm, HC4, HF5⟩
                  case measure => simp [intOf]; omega
            · go_wp2_with fail
              go_roundw
              case rel => exact ⟨k2 + 1, _, L3, by go_num, rfl, HC3, Sp.hid ((HF3.out.next (R := Nf.tabOf Nf.isEps R) rfl (by rw [Nf.tabOf_len]; omega)).round (by simp))⟩
              case measure => simp [intOf]; omega
        · have Hmem := Sp.hid (HF2.out.mem (by omega))
          go_wp2_with fail
          go_end0
          exact ⟨rfl, L2, fun q => by rw [Hmem.out q]; exact ⟨fun ⟨p, h1, h2⟩ => ⟨p, ((HL1.out p).1 h1).1, ((HL1.out p).1 h1).2, h2⟩, fun ⟨p, h1, h2, h3⟩ => ⟨p, (HL1.out p).2 ⟨h1, h2⟩, h3⟩⟩, HC2.out.pool.has, HC2.out.gr⟩
end Go.Proofs.YtpoblcmjfcpiaaaGreat
