/-
  The walk of the reference's Close.
-/
import Derived.Test.YtpoblcmjfcpiaaaGreatMgReTurnReClMReSortReNg
import Derived.WalkKit
import Derived.WalkSpells
import Derived.WalkLawsBesides
import Derived.Deep.QuietTactic
import Derived.BigQuiet
import Derived.Test.YtpoblcmjfcpiaaaGreatMgAuIxAuReg
import Derived.Test.YtpoblcmjfcpiaaaGreatMgAuBs
set_option linter.unusedVariables false
set_option linter.unusedSimpArgs false
namespace Go.Proofs.YtpoblcmjfcpiaaaGreat
open Go.RowKit

set_option maxHeartbeats 4000000 in
set_option maxRecDepth 100000 in
theorem close_any (w : World) (eb db : Nat) (R : Nat → List (ByteArray × Nat)) (g : Nf.Gr) (ao : Option Addr) (n cap : Nat) (L : List Nat) (hG : Nf.RfAt w eb db R g) (hL : Nf.Seq Nf.num w ao n L) (hlt : ∀ q ∈ L, q < g.N) (hbig : n ≤ 1000000000000) :
    Calls Tryz.prog 64 #[Nf.rfVal eb db g.N, .slice ao n cap] w (Nf.AscPost g.N (Nf.Cl g (· ∈ L)) w) := by
  obtain ⟨i0, hi, hz0, hz1, hz2⟩ := info_parts Nf.boolInfo
  have hN := hG.small
  have HG := Sp.hid hG
  have HL := Sp.hid hL
  have Hlt := Sp.hid hlt
  have Hlen := Sp.hid hL.1
  have hCl := Nf.ClAt.new (eb := eb) (db := db) w hN
  clear hG hL hlt
  unfold Nf.rfVal
  unfold Nf.rfCells at hCl
  go_enter Tryz.func64, Tryz.ntmps64
  go_wp2_with (at_make; refine wpList_make_row _ rfl _ _ 59 rfl 4 i0 (.bool false) Tryz.underlying59 hi hz0 hz1 rfl _ _ g.N rfl rfl ?c1 ?c2 ?_)
  case c1 => rw [hz2]; omega
  case c2 => omega
  obtain ⟨w1, hw1⟩ : ∃ w1, (w.alloc (.cells #[.int .i64 0, .slice (some ⟨eb, 0, none⟩) g.N g.N, .slice (some ⟨db, 0, none⟩) g.N g.N] 71)).alloc (.cells (madeCells #[.bool false] g.N) 4) = w1 := ⟨_, rfl⟩
  rw [hw1] at hCl ⊢
  have HCl := Sp.hid hCl
  clear hw1 hCl
  obtain ⟨hb, hhb⟩ : ∃ hb, w.heap.size + 1 = hb := ⟨_, rfl⟩
  rw [hhb] at HCl ⊢
  obtain ⟨gB, hgB⟩ : ∃ gB, w.heap.size = gB := ⟨_, rfl⟩
  have HgB := Sp.hid hgB
  clear hhb hgB
  rw [show (⟨w.heap.size, 0, none⟩ : Addr) = ⟨gB, 0, none⟩ by rw [HgB.out]]
  have HCl2 := Sp.hid (show Nf.ClAt w w1 gB hb eb db g.N [] (.slice none 0 0) by rw [← HgB.out]; exact HCl.out)
  clear HCl HgB
  go_wp2_with fail
  go_loopw [6, 7] (fun o i wr => ∃ (k : Nat) (lv : Value) (L1 : List Nat), i = .int .i64 k ∧ k ≤ n ∧ lv = o ∧ Nf.ClAt w wr gB hb eb db g.N L1 lv ∧ ∀ x, x ∈ L1 ↔ x ∈ L.take k) (fun _ i _ => n - (intOf i).toNat)
  case atStart => exact ⟨0, _, [], rfl, Nat.zero_le _, rfl, HCl2.out, by simp⟩
  case round =>
    obtain ⟨k, lv, L1, rfl, hk, rfl, hC, hmem⟩ := hrel
    have HC := Sp.hid hC
    have Hmem := Sp.hid hmem
    have hpl := hC.pool.pool.len
    clear hC hmem
    by_cases hkn : k < n
    · obtain ⟨b, off, q, rfl, cq0, hq?, htk⟩ := HL.out.at hkn
      have hbw := World.block_lt_of_cell? w _ cq0
      have cq : wr.cell? ⟨b, off + k, none⟩ = some (Nf.num q) := by rw [HC.out.below.cell (p := ⟨b, off + k, none⟩) hbw]; exact cq0
      have hne1 : b ≠ hb := by have := HC.out.pool.hbb; simp only at hbw; omega
      have hne2 : hb ≠ b := fun e => hne1 e.symm
      clear cq0 hbw
      have hqN := Hlt.out q (List.mem_of_getElem? hq?)
      have d1 := HC.out.pool.has.cell hqN
      have f1 := HC.out.pool.has.free q
      have hqm := Nf.take_mem htk
      have Hqm := Sp.hid hqm
      have hbl := HC.out.pool.has.lt
      have hq0 : (0 : Int) ≤ (q : Int) := by omega
      have hq1 : (q : Int) < (g.N : Int) := by omega
      have hk0 : (0 : Int) ≤ (k : Int) := by omega
      have hk1 : (k : Int) < (n : Int) := by omega
      unfold Nf.num at cq
      clear hq? htk hqm
      by_cases hm : q ∈ L1
      · rw [decide_eq_true hm] at d1
        have Hm := Sp.hid hm
        clear hm
        go_wp2_with fail
        go_roundw
        case rel =>
          refine ⟨k + 1, _, L1, by go_num, hkn, rfl, HC.out, fun x => ?_⟩
          rw [Hqm.out x, Hmem.out x]
          exact ⟨fun h => .inl h, fun h => h.elim id (fun e => by rw [e]; exact (Hmem.out q).1 Hm.out)⟩
        case measure => simp [intOf]; omega
      · rw [decide_eq_false hm] at d1
        have Hm := Sp.hid hm
        have hown := HC.out.own q (.cells #[.int .i64 q] 3)
        have hBs := HC.out.below.size
        have hwB : w.heap.size ≤ ((wr.setCell ⟨hb, q, none⟩ (.bool true)).alloc (.cells #[.int .i64 q] 3)).heap.size := by simp [World.setCell]; omega
        have Hown := Sp.hid hown
        clear hm hown
        go_wp2_with (at_builtin; refine Nf.push_num2 rfl _ _ rfl w.heap.size lv L1 rfl Hown.out q ⟨wr.heap.size, 0, none⟩ 1 rfl ?c1 ?c2 ?c3 ?_)
        case c1 => simp [go_sem]
        case c2 => omega
        case c3 => exact hwB
        intro v2 w2 hown2 hgrow2 hat2
        have HC2 := Sp.hid (HC.out.push Hm.out hqN hgrow2 (by simpa using hown2))
        clear hown2 hgrow2 hat2
        go_wp2_with fail
        go_roundw
        case rel =>
          refine ⟨k + 1, v2, L1 ++ [q], by go_num, hkn, rfl, HC2.out, fun x => ?_⟩
          rw [Hqm.out x, List.mem_append, Hmem.out x]
          simp
        case measure => simp [intOf]; omega
    · have Hall := Sp.hid (show ∀ x, x ∈ L1 ↔ x ∈ L by have e : L.take k = L := List.take_of_length_le (by rw [Hlen.out]; omega); have h := Hmem.out; rwa [e] at h)
      go_wp2_with fail
      have HF1 := Sp.hid (Nf.Fol.start (tabs := [Nf.tabOf Nf.isEps R]) HC.out.pool.pool)
      clear Hmem
      rename World => wA
      go_loopw [6, 8, 9, 10] (fun o i _ _ wr => ∃ (k : Nat) (lv : Value) (L2 : List Nat), i = .int .i64 k ∧ lv = o ∧ Nf.ClAt w wr gB hb eb db g.N L2 lv ∧ Nf.Fol [Nf.tabOf Nf.isEps R] g.N L1 k L2) (fun _ i _ _ _ => g.N - (intOf i).toNat)
      case atStart => exact ⟨0, lv, L1, rfl, rfl, HC.out, HF1.out⟩
      case round =>
        obtain ⟨k2, lv2, L2, rfl, rfl, hC2, hF2⟩ := hrel
        have HC2 := Sp.hid hC2
        have HF2 := Sp.hid hF2
        have hpl2 := hC2.pool.pool.len
        clear hC2 hF2 hpl HCl2 HC HF1
        obtain ⟨lo, lcap, rfl, hseq, hlc⟩ := Nf.seq_of_own HC2.out.pool.list (by unfold maxLen; omega)
        have Hseq := Sp.hid hseq
        clear hseq hlc
        by_cases hk2 : k2 < L2.length
        · obtain ⟨p, hp⟩ : ∃ p, L2[k2]? = some p := ⟨_, List.getElem?_eq_getElem hk2⟩
          have hpN := HC2.out.pool.pool.lt p (List.mem_of_getElem? hp)
          have HFI := Sp.hid (HF2.out.at_ hp)
          have Hp := Sp.hid hp
          clear hp
          go_wp2_with fail
          rename World => wB
          go_loopw [6, 9, 10] (fun o i _ wr => ∃ (m : Nat) (lv : Value) (L3 : List Nat), i = .int .i64 m ∧ lv = o ∧ m ≤ (R p).length ∧ Nf.ClAt w wr gB hb eb db g.N L3 lv ∧ Nf.FolIn [Nf.tabOf Nf.isEps R] g.N L1 k2 p 0 m L3) (fun _ i _ _ => (R p).length - (intOf i).toNat)
          case atStart => exact ⟨0, _, L2, rfl, rfl, Nat.zero_le _, HC2.out, HFI.out⟩
          case round =>
            obtain ⟨m, lv3, L3, rfl, rfl, hmle, hC3, hF3⟩ := hrel
            have HC3 := Sp.hid hC3
            have HF3 := Sp.hid hF3
            have hpl3 := hC3.pool.pool.len
            have hk3 : k2 < L3.length := (List.getElem?_eq_some_iff.1 hF3.at_).1
            clear hC3 hF3
            obtain ⟨lo3, lcap3, rfl, hseq3, hlc3⟩ := Nf.seq_of_own HC3.out.pool.list (by unfold maxLen; omega)
            obtain ⟨lb, loff, p', rfl, cI, hp', _⟩ := hseq3.at hk3
            have hpp : p' = p := by have h := HF3.out.at_; rw [hp'] at h; exact Option.some.inj h
            subst hpp
            have cG : wr.cell? ⟨gB, 1, none⟩ = some (.slice (some ⟨eb, 0, none⟩) g.N g.N) := Nf.blk_cell (i := 1) HC3.out.gblk rfl
            obtain ⟨ro, rcap, cE, hrl, hrc⟩ := HG.out.edg p' hpN
            have hrb := World.block_lt_of_cell? w _ cE
            have cE3 : wr.cell? ⟨eb, p', none⟩ = some (.slice ro (R p').length rcap) := by rw [HC3.out.below.cell (p := ⟨eb, p', none⟩) hrb]; exact cE
            have Hrc := Sp.hid hrc
            have i1 : (0 : Int) ≤ (k2 : Int) := by omega
            have i2 : (k2 : Int) < (L3.length : Int) := by omega
            have i3 : (0 : Int) ≤ (p' : Int) := by omega
            have i4 : (p' : Int) < (g.N : Int) := by omega
            unfold Nf.num at cI
            clear hrc hp' cE hseq3
            by_cases hm : m < (R p').length
            · obtain ⟨b2, off2, x, rfl, hx, hxc, _⟩ := Hrc.out.at hm
              obtain ⟨s, q⟩ := x
              have hqN : q < g.N := HG.out.to_lt (x := (s, q)) (List.mem_of_getElem? hx)
              have hsz : s.size ≤ 9223372036854775807 := HG.out.len p' (s, q) (List.mem_of_getElem? hx)
              have cX0' : w.cell? ⟨b2, off2 + (m * 2 + 0), none⟩ = some (.string s) := hxc 0 _ rfl
              have cX1' : w.cell? ⟨b2, off2 + (m * 2 + 1), none⟩ = some (.int .i64 q) := hxc 1 _ rfl
              have cX0 : wr.cell? ⟨b2, off2 + m * 2, none⟩ = some (.string s) := by rw [HC3.out.below.cell (p := ⟨b2, off2 + m * 2, none⟩) (World.block_lt_of_cell? w _ cX0')]; exact cX0'
              have cX1 : wr.cell? ⟨b2, off2 + m * 2 + 1, none⟩ = some (.int .i64 q) := by rw [HC3.out.below.cell (p := ⟨b2, off2 + m * 2 + 1, none⟩) (World.block_lt_of_cell? w _ cX1')]; exact cX1'
              have i5 : (0 : Int) ≤ (m : Int) := by omega
              have i6 : (m : Int) < ((R p').length : Int) := by omega
              have Hx := Sp.hid hx
              clear hx hxc cX0' cX1'
              go_wp2_with fail
              go_quiet (fail)
              have HC4 := Sp.hid (HC3.out.drewN nq)
              have kG : (wr.drewN nq).cell? ⟨gB, 1, none⟩ = some (.slice (some ⟨eb, 0, none⟩) g.N g.N) := cG
              have kI : (wr.drewN nq).cell? ⟨lb, loff + k2, none⟩ = some (.int .i64 p') := cI
              have kE : (wr.drewN nq).cell? ⟨eb, p', none⟩ = some (.slice (some ⟨b2, off2, none⟩) (R p').length rcap) := cE3
              have kX : (wr.drewN nq).cell? ⟨b2, off2 + m * 2, none⟩ = some (.string s) := cX0
              have kY : (wr.drewN nq).cell? ⟨b2, off2 + m * 2 + 1, none⟩ = some (.int .i64 q) := cX1
              obtain ⟨wC, hwC⟩ : ∃ wC, wr.drewN nq = wC := ⟨_, rfl⟩
              rw [hwC] at HC4 kG kI kE kX kY ⊢
              clear hwC cG cI cE3 cX0 cX1
              go_wp2_with fail
              refine Open.begin (S := fun w' => w'.cell? ⟨gB, 1, none⟩ = some (.slice (some ⟨eb, 0, none⟩) g.N g.N) ∧ w'.cell? ⟨lb, loff + k2, none⟩ = some (.int .i64 p') ∧ w'.cell? ⟨eb, p', none⟩ = some (.slice (some ⟨b2, off2, none⟩) (R p').length rcap) ∧ w'.cell? ⟨b2, off2 + m * 2, none⟩ = some (.string s) ∧ w'.cell? ⟨b2, off2 + m * 2 + 1, none⟩ = some (.int .i64 q)) (z := 12) (by kernel_rfl) ?_
              have HS : wC.drew.cell? ⟨gB, 1, none⟩ = some (.slice (some ⟨eb, 0, none⟩) g.N g.N) ∧ wC.drew.cell? ⟨lb, loff + k2, none⟩ = some (.int .i64 p') ∧ wC.drew.cell? ⟨eb, p', none⟩ = some (.slice (some ⟨b2, off2, none⟩) (R p').length rcap) ∧ wC.drew.cell? ⟨b2, off2 + m * 2, none⟩ = some (.string s) ∧ wC.drew.cell? ⟨b2, off2 + m * 2 + 1, none⟩ = some (.int .i64 q) := ⟨kG, kI, kE, kX, kY⟩
              refine Open.take (i := 0) (v := ?_) rfl (by kernel_rfl) (by kernel_rfl) (by kernel_rfl) (by kernel_rfl) (fun _ _ _ h => h) HS (Or.inl ⟨rfl, ?_⟩) ?_
              rotate_left
              · rintro w' ⟨k1, k2, k3, k4, k5⟩
                go_simp
                try rfl
              simp only [Act.put, List.setIfInBounds_toArray, List.set_cons_zero, List.set_cons_succ]
              refine Open.take (i := 1) (v := ?_) rfl (by kernel_rfl) (by kernel_rfl) (by kernel_rfl) (by kernel_rfl) (fun _ _ _ h => h) HS (Or.inl ⟨rfl, ?_⟩) ?_
              rotate_left
              · rintro w' ⟨k1, k2, k3, k4, k5⟩
                go_simp
                try rfl
              simp only [Act.put, List.setIfInBounds_toArray, List.set_cons_zero, List.set_cons_succ]
              refine Open.take (i := 2) (v := ?_) rfl (by kernel_rfl) (by kernel_rfl) (by kernel_rfl) (by kernel_rfl) (fun _ _ _ h => h) HS (Or.inl ⟨rfl, ?_⟩) ?_
              rotate_left
              · rintro w' ⟨k1, k2, k3, k4, k5⟩
                go_simp
                try rfl
              simp only [Act.put, List.setIfInBounds_toArray, List.set_cons_zero, List.set_cons_succ]
              refine Open.take (i := 3) (v := ?_) rfl (by kernel_rfl) (by kernel_rfl) (by kernel_rfl) (by kernel_rfl) (fun _ _ _ h => h) HS (Or.inl ⟨rfl, ?_⟩) ?_
              rotate_left
              · rintro w' ⟨k1, k2, k3, k4, k5⟩
                go_simp
                try rfl
              simp only [Act.put, List.setIfInBounds_toArray, List.set_cons_zero, List.set_cons_succ]
              refine Open.take (i := 4) (v := ?_) rfl (by kernel_rfl) (by kernel_rfl) (by kernel_rfl) (by kernel_rfl) (fun _ _ _ h => h) HS (Or.inl ⟨rfl, ?_⟩) ?_
              rotate_left
              · rintro w' ⟨k1, k2, k3, k4, k5⟩
                go_simp
                try rfl
              simp only [Act.put, List.setIfInBounds_toArray, List.set_cons_zero, List.set_cons_succ]
              refine Open.take (i := 5) (v := ?_) rfl (by kernel_rfl) (by kernel_rfl) (by kernel_rfl) (by kernel_rfl) (fun _ _ _ h => h) HS (Or.inl ⟨rfl, ?_⟩) ?_
              rotate_left
              · rintro w' ⟨k1, k2, k3, k4, k5⟩
                go_simp
                try rfl
              simp only [Act.put, List.setIfInBounds_toArray, List.set_cons_zero, List.set_cons_succ]
              refine Open.take (i := 6) (v := ?_) rfl (by kernel_rfl) (by kernel_rfl) (by kernel_rfl) (by kernel_rfl) (fun _ _ _ h => h) HS (Or.inl ⟨rfl, ?_⟩) ?_
              rotate_left
              · rintro w' ⟨k1, k2, k3, k4, k5⟩
                go_simp
                try rfl
              simp only [Act.put, List.setIfInBounds_toArray, List.set_cons_zero, List.set_cons_succ]
              refine Open.take (i := 7) (v := ?_) rfl (by kernel_rfl) (by kernel_rfl) (by kernel_rfl) (by kernel_rfl) (fun _ _ _ h => h) HS (Or.inl ⟨rfl, ?_⟩) ?_
              rotate_left
              · rintro w' ⟨k1, k2, k3, k4, k5⟩
                go_simp
                try rfl
              simp only [Act.put, List.setIfInBounds_toArray, List.set_cons_zero, List.set_cons_succ]
              refine Open.take (i := 8) (v := ?_) rfl (by kernel_rfl) (by kernel_rfl) (by kernel_rfl) (by kernel_rfl) (fun _ _ _ h => h) HS (Or.inl ⟨rfl, ?_⟩) ?_
              rotate_left
              · rintro w' ⟨k1, k2, k3, k4, k5⟩
                go_simp
                try rfl
              simp only [Act.put, List.setIfInBounds_toArray, List.set_cons_zero, List.set_cons_succ]
              refine Open.take (i := 9) (v := ?_) rfl (by kernel_rfl) (by kernel_rfl) (by kernel_rfl) (by kernel_rfl) (fun _ _ _ h => h) HS (Or.inl ⟨rfl, ?_⟩) ?_
              rotate_left
              · rintro w' ⟨k1, k2, k3, k4, k5⟩
                go_simp
                try rfl
              simp only [Act.put, List.setIfInBounds_toArray, List.set_cons_zero, List.set_cons_succ]
              refine Open.take (i := 10) (v := ?_) rfl (by kernel_rfl) (by kernel_rfl) (by kernel_rfl) (by kernel_rfl) (fun _ _ _ h => h) HS (Or.inl ⟨rfl, ?_⟩) ?_
              rotate_left
              · rintro w' ⟨k1, k2, k3, k4, k5⟩
                go_simp
                try rfl
              simp only [Act.put, List.setIfInBounds_toArray, List.set_cons_zero, List.set_cons_succ]
              have l1 := Nf.blk_lt HC4.out.gblk
              have l2 := World.block_lt_of_cell? wC _ kI
              have l3 := World.block_lt_of_cell? wC _ kE
              have l4 := World.block_lt_of_cell? wC _ kX
              refine Open.one (i := 11) rfl (by kernel_rfl) rfl (fun K hK => ?_)
              go_simp
              refine hK _ _ ⟨fun _ => ⟨?_, ?_, ?_, ?_, ?_⟩, ?_⟩
              · simpa [World.cell?_alloc_past _ _ _ l1] using kG
              · simpa [World.cell?_alloc_past _ _ _ l2] using kI
              · simpa [World.cell?_alloc_past _ _ _ l3] using kE
              · simpa [World.cell?_alloc_past _ _ _ l4] using kX
              · simpa [World.cell?_alloc_past _ _ _ l4] using kY
              clear hK K
              refine Open.one (i := 12) rfl (by kernel_rfl) rfl (fun K hK => ?_)
              go_simp
              refine hK _ _ ⟨fun e => absurd rfl e, ?_⟩
              clear hK K HS l1 l2 l3 l4
              refine Open.end (by kernel_rfl) ?_
              have hCD := (HC4.out.alloc (.cells #[.string s, .int .i64 q] 102)).drew
              have kX2 : (wC.alloc (.cells #[.string s, .int .i64 q] 102)).drew.cell? ⟨wC.heap.size, 0, none⟩ = some (.string s) := Nf.blk_cell (i := 0) (Nf.Below.heap_new wC (.cells #[.string s, .int .i64 q] 102)) rfl
              have kY2 : (wC.alloc (.cells #[.string s, .int .i64 q] 102)).drew.cell? ⟨wC.heap.size, 1, none⟩ = some (.int .i64 q) := Nf.blk_cell (i := 1) (Nf.Below.heap_new wC (.cells #[.string s, .int .i64 q] 102)) rfl
              have hlD : wC.heap.size < (wC.alloc (.cells #[.string s, .int .i64 q] 102)).drew.heap.size := by simp
              obtain ⟨wD, hwD⟩ : ∃ wD, (wC.alloc (.cells #[.string s, .int .i64 q] 102)).drew = wD := ⟨_, rfl⟩
              rw [hwD] at hCD kX2 kY2 hlD ⊢
              obtain ⟨eB, heB⟩ : ∃ eB, wC.heap.size = eB := ⟨_, rfl⟩
              rw [heB] at kX2 kY2 hlD ⊢
              have heh : eB ≠ hb := by
                have h1 := HC4.out.pool.has.lt
                omega
              have heh2 : hb ≠ eB := fun e => heh e.symm
              have HCD := Sp.hid hCD
              have d1 := hCD.pool.has.cell hqN
              have f1 := hCD.pool.has.free q
              have hq0 : (0 : Int) ≤ (q : Int) := by omega
              have hq1 : (q : Int) < (g.N : Int) := by omega
              clear hwD heB hCD kG kI kE kX kY
              have hget : (Nf.tabOf Nf.isEps R p')[m]? = some (if Nf.isEps s = true then q else p') := Nf.tabOf_get Hx.out
              have Hget := Sp.hid hget
              have HpL := Sp.hid (List.mem_of_getElem? HF3.out.at_)
              clear hget
              by_cases hs0 : s.size = 0
              · have hzz := Sp.empty_of_size hs0
                have Hs0 := Sp.hid (show Nf.isEps s = true by simp [Nf.isEps, hs0])
                by_cases hqm : q ∈ L3
                · rw [decide_eq_true hqm] at d1
                  have Hqm := Sp.hid hqm
                  clear hqm hs0
                  go_wp2_with fail
                  go_roundw
                  case rel =>
                    refine ⟨m + 1, _, L3, by go_num, rfl, hm, HCD.out, ?_⟩
                    have h := HF3.out.add (R := Nf.tabOf Nf.isEps R) rfl Hget.out (by rw [if_pos Hs0.out]; exact hqN)
                    rw [if_pos Hs0.out, Nf.ins_old Hqm.out] at h
                    exact h
                  case measure => simp [intOf]; omega
                · rw [decide_eq_false hqm] at d1
                  have Hqm := Sp.hid hqm
                  have Hown := Sp.hid (HCD.out.own q (.cells #[.int .i64 q] 3))
                  have hBs := HCD.out.below.size
                  have hwB : w.heap.size ≤ ((wD.setCell ⟨hb, q, none⟩ (.bool true)).alloc (.cells #[.int .i64 q] 3)).heap.size := by simp [World.setCell]; omega
                  clear hqm hs0
                  go_wp2_with (at_builtin; refine Nf.push_num2 rfl _ _ rfl w.heap.size _ L3 rfl Hown.out q ⟨wD.heap.size, 0, none⟩ 1 rfl ?c1 ?c2 ?c3 ?_)
                  case c1 => simp [go_sem]
                  case c2 => omega
                  case c3 => exact hwB
                  intro v2 w2 hown2 hgrow2 hat2
                  have HC5 := Sp.hid (HCD.out.push Hqm.out hqN hgrow2 (by simpa using hown2))
                  clear hown2 hgrow2 hat2
                  go_wp2_with fail
                  go_roundw
                  case rel =>
                    refine ⟨m + 1, v2, L3 ++ [q], by go_num, rfl, hm, HC5.out, ?_⟩
                    have h := HF3.out.add (R := Nf.tabOf Nf.isEps R) rfl Hget.out (by rw [if_pos Hs0.out]; exact hqN)
                    rw [if_pos Hs0.out, Nf.ins_new Hqm.out] at h
                    exact h
                  case measure => simp [intOf]; omega
              · have hzz := Sp.not_empty_of_size hs0
                have Hs0 := Sp.hid (show ¬ Nf.isEps s = true by simp [Nf.isEps, hs0])
                clear hs0
                go_wp2_with fail
                go_roundw
                case rel =>
                  refine ⟨m + 1, _, L3, by go_num, rfl, hm, HCD.out, ?_⟩
                  have h := HF3.out.add (R := Nf.tabOf Nf.isEps R) rfl Hget.out (by rw [if_neg Hs0.out]; exact hpN)
                  rw [if_neg Hs0.out, Nf.ins_old HpL.out] at h
                  exact h
                case measure => simp [intOf]; omega
            · go_wp2_with fail
              go_quiet (fail)
              go_wp2_with fail
              go_roundw
              case rel => exact ⟨k2 + 1, _, L3, by go_num, rfl, HC3.out.drewN _, (HF3.out.next (R := Nf.tabOf Nf.isEps R) rfl (by rw [Nf.tabOf_len]; omega)).round (by simp)⟩
              case measure => simp [intOf]; omega
        · have HSort := Sp.hid (sortInts_any wr w.heap.size _ L2 HC2.out.pool.list (by omega) HC2.out.below.size)
          have Hmem2 := Sp.hid (HF2.out.mem (by omega))
          go_wp2_with fail
          refine HSort.out.mono ?_
          rintro e w5 ⟨rfl, Ls, hp, hs, hown, hgr⟩
          have Hp := Sp.hid hp
          have Hs := Sp.hid hs
          have Hown := Sp.hid hown
          have Hgr := Sp.hid hgr
          clear hp hs hown hgr
          go_wp2_with fail
          go_ret
          have hnd : Ls.Nodup := Hp.out.nodup_iff.2 HC2.out.pool.pool.nodup
          refine ⟨_, Ls, rfl, Hown.out, ⟨hnd, fun q hq => HC2.out.pool.pool.lt q (Hp.out.mem_iff.1 hq)⟩, ?_, fun q => ?_, HC2.out.below.grown Hgr.out HC2.out.below.size (fun k hk => (HC2.out.pool.list.lt k hk).1)⟩
          · exact (Hs.out.and hnd).imp (fun {a b} h => by have := h.1; have := h.2; omega)
          · rw [Hp.out.mem_iff, Hmem2.out q]
            constructor
            · rintro ⟨p, hp, hst⟩; exact ⟨p, (Hall.out p).1 hp, (Nf.star_eps HG.out).1 hst⟩
            · rintro ⟨p, hp, hst⟩; exact ⟨p, (Hall.out p).2 hp, (Nf.star_eps HG.out).2 hst⟩
end Go.Proofs.YtpoblcmjfcpiaaaGreat

/-
  The walk of the reference's Step.
-/
set_option linter.unusedVariables false
set_option linter.unusedSimpArgs false
namespace Go.Proofs.YtpoblcmjfcpiaaaGreat
open Go.RowKit
namespace Nf
/-- The graph's own block, and a list that grows. -/
structure StAt (w0 w : World) (gB eb db N : Nat) (O : List Nat) (lv : Value) : Prop where
  gblk : w.heap[gB]? = some (.cells (rfCells eb db N) 71 (0, 0))
  list : w.ownsRow w0.heap.size 3 1 lv O.length (O.map num)
  below : Below w0.heap.size w0 w
section
variable {w0 w w1 : World} {gB eb db N : Nat} {O : List Nat} {lv : Value}
theorem StAt.under (h : StAt w0 w gB eb db N O lv) (hb1 : Below w.heap.size w w1) : StAt w0 w1 gB eb db N O lv :=
  ⟨blk_below h.gblk hb1 (blk_lt h.gblk), h.list.kept (row := none) ⟨hb1.os, hb1.tape, hb1.output, hb1.size, fun i hi _ => hb1.block i hi⟩ (by cases lv.ownBlock <;> simp), h.below.trans (hb1.mono h.below.size)⟩
theorem StAt.alloc (h : StAt w0 w gB eb db N O lv) (o : Obj) : StAt w0 (w.alloc o) gB eb db N O lv := h.under ((Below.refl _ w).alloc (Nat.le_refl _) o)
theorem StAt.drewN (h : StAt w0 w gB eb db N O lv) (k : Nat) : StAt w0 (w.drewN k) gB eb db N O lv := h.under (below_drewN (Below.refl _ _) k)
theorem StAt.drew (h : StAt w0 w gB eb db N O lv) : StAt w0 w.drew gB eb db N O lv := h.under ((Below.refl _ w).drew)
theorem StAt.push (h : StAt w0 w gB eb db N O lv) {q : Nat} {o : Obj} {v' : Value} (hg : (w.alloc o).grownBy w1 lv.ownBlock) (hown : w1.ownsRow w0.heap.size 3 1 v' (O ++ [q]).length ((O ++ [q]).map num)) : StAt w0 w1 gB eb db N (O ++ [q]) v' := by
  have h1 := h.alloc o
  exact ⟨blk_grown h1.gblk hg (own_ne h1.list h1.gblk (by decide)), hown, h1.below.grown hg h1.below.size (fun k hk => (h1.list.lt k hk).1)⟩
end
end Nf

set_option maxHeartbeats 4000000 in
set_option maxRecDepth 100000 in
theorem step_any (w : World) (eb db : Nat) (R : Nat → List (ByteArray × Nat)) (g : Nf.Gr) (ao : Option Addr) (n cap : Nat) (L : List Nat) (sym : ByteArray) (hG : Nf.RfAt w eb db R g) (hL : Nf.Seq Nf.num w ao n L) (hP : Nf.Pool g.N L) (hsy : sym.size ≤ 9223372036854775807) :
    Calls Tryz.prog 38 #[Nf.rfVal eb db g.N, .slice ao n cap, .string sym] w (Nf.AscPost g.N (Nf.StepTo g (· ∈ L) sym) w) := by
  have hN := hG.small
  have hn : n ≤ g.N := by have := hP.len; rw [hL.1] at this; exact this
  have HG := Sp.hid hG
  have HL := Sp.hid hL
  have Hlt := Sp.hid hP.lt
  have Hlen := Sp.hid hL.1
  clear hG hL hP
  unfold Nf.rfVal
  obtain ⟨w1, hw1⟩ : ∃ w1, w.alloc (.cells #[.int .i64 0, .slice (some ⟨eb, 0, none⟩) g.N g.N, .slice (some ⟨db, 0, none⟩) g.N g.N] 71) = w1 := ⟨_, rfl⟩
  obtain ⟨gB, hgB⟩ : ∃ gB, w.heap.size = gB := ⟨_, rfl⟩
  have HC0 : Nf.StAt w w1 gB eb db g.N [] (.slice none 0 0) := by
    rw [← hw1, ← hgB]
    exact ⟨Nf.Below.heap_new w _, World.ownsRow_nil _ _ _ _, (Below.refl _ w).alloc (Nat.le_refl _) _⟩
  have HC0 := Sp.hid HC0
  have Hw1 := Sp.hid hw1
  have HgB := Sp.hid hgB
  clear hw1 hgB
  go_enter Tryz.func38, Tryz.ntmps38
  go_wp2_with fail
  rw [Hw1.out]
  rw [show (⟨w.heap.size, 0, none⟩ : Addr) = ⟨gB, 0, none⟩ by rw [HgB.out]]
  go_loopw [7, 8, 9, 10] (fun o i _ _ wr => ∃ (k : Nat) (lv : Value) (O : List Nat), i = .int .i64 k ∧ k ≤ n ∧ lv = o ∧ Nf.StAt w wr gB eb db g.N O lv ∧ O.length ≤ k * 1000000 ∧ ∀ x, x ∈ O ↔ ∃ p, p ∈ L.take k ∧ (sym, x) ∈ R p) (fun _ i _ _ _ => n - (intOf i).toNat)
  case atStart => exact ⟨0, _, [], rfl, Nat.zero_le _, rfl, HC0.out, Nat.zero_le _, by simp⟩
  case round =>
    obtain ⟨k, lv, O, rfl, hk, rfl, hC, hO, hmem⟩ := hrel
    have HC := Sp.hid hC
    have Hmem := Sp.hid hmem
    clear hC hmem HC0
    by_cases hkn : k < n
    · obtain ⟨b, off, p, rfl, cp0, hp?, htk⟩ := HL.out.at hkn
      have hpN := Hlt.out p (List.mem_of_getElem? hp?)
      have Hpm := Sp.hid (Nf.take_mem htk)
      have hbw := World.block_lt_of_cell? w _ cp0
      have Hcp := Sp.hid cp0
      obtain ⟨ro, rcap, cE, hrl, hrc⟩ := HG.out.edg p hpN
      have hrb := World.block_lt_of_cell? w _ cE
      have Hrc := Sp.hid hrc
      have HcE := Sp.hid cE
      have i1 : (0 : Int) ≤ (k : Int) := by omega
      have i2 : (k : Int) < (n : Int) := by omega
      have i3 : (0 : Int) ≤ (p : Int) := by omega
      have i4 : (p : Int) < (g.N : Int) := by omega
      clear hp? htk cp0 cE hrc
      go_wp2_with fail
      rename World => wB
      go_loopw [7, 9, 10] (fun o i _ wr => ∃ (m : Nat) (lv : Value) (O : List Nat), i = .int .i64 m ∧ lv = o ∧ m ≤ (R p).length ∧ Nf.StAt w wr gB eb db g.N O lv ∧ O.length ≤ k * 1000000 + m ∧ ∀ x, x ∈ O ↔ (∃ p, p ∈ L.take k ∧ (sym, x) ∈ R p) ∨ (sym, x) ∈ (R p).take m) (fun _ i _ _ => (R p).length - (intOf i).toNat)
      case atStart => exact ⟨0, lv, O, rfl, rfl, Nat.zero_le _, HC.out, Nat.le_trans hO (Nat.le_add_right _ _), fun x => by rw [Hmem.out x]; simp⟩
      case round =>
        clear HC Hmem hO
        obtain ⟨m, lv, O, rfl, rfl, hmle, hC, hO, hmem⟩ := hrel
        have HC := Sp.hid hC
        have Hmem := Sp.hid hmem
        have hbel := hC.below
        have cG : wr.cell? ⟨gB, 1, none⟩ = some (.slice (some ⟨eb, 0, none⟩) g.N g.N) := Nf.blk_cell (i := 1) hC.gblk rfl
        have cI : wr.cell? ⟨b, off + k, none⟩ = some (.int .i64 p) := by rw [hbel.cell (p := ⟨b, off + k, none⟩) hbw]; exact Hcp.out
        have cE3 : wr.cell? ⟨eb, p, none⟩ = some (.slice ro (R p).length rcap) := by rw [hbel.cell (p := ⟨eb, p, none⟩) hrb]; exact HcE.out
        clear hC hmem hbel
        by_cases hm : m < (R p).length
        · obtain ⟨b2, off2, x, rfl, hx, hxc, htk⟩ := Hrc.out.at hm
          obtain ⟨s, q⟩ := x
          have hsz : s.size ≤ 9223372036854775807 := HG.out.len p (s, q) (List.mem_of_getElem? hx)
          have cX0' : w.cell? ⟨b2, off2 + (m * 2 + 0), none⟩ = some (.string s) := hxc 0 _ rfl
          have cX1' : w.cell? ⟨b2, off2 + (m * 2 + 1), none⟩ = some (.int .i64 q) := hxc 1 _ rfl
          have cX0 : wr.cell? ⟨b2, off2 + m * 2, none⟩ = some (.string s) := by rw [HC.out.below.cell (p := ⟨b2, off2 + m * 2, none⟩) (World.block_lt_of_cell? w _ cX0')]; exact cX0'
          have cX1 : wr.cell? ⟨b2, off2 + m * 2 + 1, none⟩ = some (.int .i64 q) := by rw [HC.out.below.cell (p := ⟨b2, off2 + m * 2 + 1, none⟩) (World.block_lt_of_cell? w _ cX1')]; exact cX1'
          have i5 : (0 : Int) ≤ (m : Int) := by omega
          have i6 : (m : Int) < ((R p).length : Int) := by omega
          have Hx := Sp.hid hx
          have Htk := Sp.hid htk
          clear hx hxc cX0' cX1' htk
          go_wp2_with fail
          go_quiet (fail)
          have HC4 := Sp.hid (HC.out.drewN nq)
          have kG : (wr.drewN nq).cell? ⟨gB, 1, none⟩ = some (.slice (some ⟨eb, 0, none⟩) g.N g.N) := cG
          have kI : (wr.drewN nq).cell? ⟨b, off + k, none⟩ = some (.int .i64 p) := cI
          have kE : (wr.drewN nq).cell? ⟨eb, p, none⟩ = some (.slice (some ⟨b2, off2, none⟩) (R p).length rcap) := cE3
          have kX : (wr.drewN nq).cell? ⟨b2, off2 + m * 2, none⟩ = some (.string s) := cX0
          have kY : (wr.drewN nq).cell? ⟨b2, off2 + m * 2 + 1, none⟩ = some (.int .i64 q) := cX1
          obtain ⟨wC, hwC⟩ : ∃ wC, wr.drewN nq = wC := ⟨_, rfl⟩
          rw [hwC] at HC4 kG kI kE kX kY ⊢
          clear hwC cG cI cE3 cX0 cX1
          go_wp2_with fail
          refine Open.begin (S := fun w' => w'.cell? ⟨gB, 1, none⟩ = some (.slice (some ⟨eb, 0, none⟩) g.N g.N) ∧ w'.cell? ⟨b, off + k, none⟩ = some (.int .i64 p) ∧ w'.cell? ⟨eb, p, none⟩ = some (.slice (some ⟨b2, off2, none⟩) (R p).length rcap) ∧ w'.cell? ⟨b2, off2 + m * 2, none⟩ = some (.string s) ∧ w'.cell? ⟨b2, off2 + m * 2 + 1, none⟩ = some (.int .i64 q)) (z := 12) (by kernel_rfl) ?_
          have HS : wC.drew.cell? ⟨gB, 1, none⟩ = some (.slice (some ⟨eb, 0, none⟩) g.N g.N) ∧ wC.drew.cell? ⟨b, off + k, none⟩ = some (.int .i64 p) ∧ wC.drew.cell? ⟨eb, p, none⟩ = some (.slice (some ⟨b2, off2, none⟩) (R p).length rcap) ∧ wC.drew.cell? ⟨b2, off2 + m * 2, none⟩ = some (.string s) ∧ wC.drew.cell? ⟨b2, off2 + m * 2 + 1, none⟩ = some (.int .i64 q) := ⟨kG, kI, kE, kX, kY⟩
          refine Open.take (i := 0) (v := ?_) rfl (by kernel_rfl) (by kernel_rfl) (by kernel_rfl) (by kernel_rfl) (fun _ _ _ h => h) HS (Or.inl ⟨rfl, ?_⟩) ?_
          rotate_left
          · rintro w' ⟨k1, k2, k3, k4, k5⟩
            go_simp
            try rfl
          simp only [Act.put, List.setIfInBounds_toArray, List.set_cons_zero, List.set_cons_succ]
          refine Open.take (i := 1) (v := ?_) rfl (by kernel_rfl) (by kernel_rfl) (by kernel_rfl) (by kernel_rfl) (fun _ _ _ h => h) HS (Or.inl ⟨rfl, ?_⟩) ?_
          rotate_left
          · rintro w' ⟨k1, k2, k3, k4, k5⟩
            go_simp
            try rfl
          simp only [Act.put, List.setIfInBounds_toArray, List.set_cons_zero, List.set_cons_succ]
          refine Open.take (i := 2) (v := ?_) rfl (by kernel_rfl) (by kernel_rfl) (by kernel_rfl) (by kernel_rfl) (fun _ _ _ h => h) HS (Or.inl ⟨rfl, ?_⟩) ?_
          rotate_left
          · rintro w' ⟨k1, k2, k3, k4, k5⟩
            go_simp
            try rfl
          simp only [Act.put, List.setIfInBounds_toArray, List.set_cons_zero, List.set_cons_succ]
          refine Open.take (i := 3) (v := ?_) rfl (by kernel_rfl) (by kernel_rfl) (by kernel_rfl) (by kernel_rfl) (fun _ _ _ h => h) HS (Or.inl ⟨rfl, ?_⟩) ?_
          rotate_left
          · rintro w' ⟨k1, k2, k3, k4, k5⟩
            go_simp
            try rfl
          simp only [Act.put, List.setIfInBounds_toArray, List.set_cons_zero, List.set_cons_succ]
          refine Open.take (i := 4) (v := ?_) rfl (by kernel_rfl) (by kernel_rfl) (by kernel_rfl) (by kernel_rfl) (fun _ _ _ h => h) HS (Or.inl ⟨rfl, ?_⟩) ?_
          rotate_left
          · rintro w' ⟨k1, k2, k3, k4, k5⟩
            go_simp
            try rfl
          simp only [Act.put, List.setIfInBounds_toArray, List.set_cons_zero, List.set_cons_succ]
          refine Open.take (i := 5) (v := ?_) rfl (by kernel_rfl) (by kernel_rfl) (by kernel_rfl) (by kernel_rfl) (fun _ _ _ h => h) HS (Or.inl ⟨rfl, ?_⟩) ?_
          rotate_left
          · rintro w' ⟨k1, k2, k3, k4, k5⟩
            go_simp
            try rfl
          simp only [Act.put, List.setIfInBounds_toArray, List.set_cons_zero, List.set_cons_succ]
          refine Open.take (i := 6) (v := ?_) rfl (by kernel_rfl) (by kernel_rfl) (by kernel_rfl) (by kernel_rfl) (fun _ _ _ h => h) HS (Or.inl ⟨rfl, ?_⟩) ?_
          rotate_left
          · rintro w' ⟨k1, k2, k3, k4, k5⟩
            go_simp
            try rfl
          simp only [Act.put, List.setIfInBounds_toArray, List.set_cons_zero, List.set_cons_succ]
          refine Open.take (i := 7) (v := ?_) rfl (by kernel_rfl) (by kernel_rfl) (by kernel_rfl) (by kernel_rfl) (fun _ _ _ h => h) HS (Or.inl ⟨rfl, ?_⟩) ?_
          rotate_left
          · rintro w' ⟨k1, k2, k3, k4, k5⟩
            go_simp
            try rfl
          simp only [Act.put, List.setIfInBounds_toArray, List.set_cons_zero, List.set_cons_succ]
          refine Open.take (i := 8) (v := ?_) rfl (by kernel_rfl) (by kernel_rfl) (by kernel_rfl) (by kernel_rfl) (fun _ _ _ h => h) HS (Or.inl ⟨rfl, ?_⟩) ?_
          rotate_left
          · rintro w' ⟨k1, k2, k3, k4, k5⟩
            go_simp
            try rfl
          simp only [Act.put, List.setIfInBounds_toArray, List.set_cons_zero, List.set_cons_succ]
          refine Open.take (i := 9) (v := ?_) rfl (by kernel_rfl) (by kernel_rfl) (by kernel_rfl) (by kernel_rfl) (fun _ _ _ h => h) HS (Or.inl ⟨rfl, ?_⟩) ?_
          rotate_left
          · rintro w' ⟨k1, k2, k3, k4, k5⟩
            go_simp
            try rfl
          simp only [Act.put, List.setIfInBounds_toArray, List.set_cons_zero, List.set_cons_succ]
          refine Open.take (i := 10) (v := ?_) rfl (by kernel_rfl) (by kernel_rfl) (by kernel_rfl) (by kernel_rfl) (fun _ _ _ h => h) HS (Or.inl ⟨rfl, ?_⟩) ?_
          rotate_left
          · rintro w' ⟨k1, k2, k3, k4, k5⟩
            go_simp
            try rfl
          simp only [Act.put, List.setIfInBounds_toArray, List.set_cons_zero, List.set_cons_succ]
          have l1 := Nf.blk_lt HC4.out.gblk
          have l2 := World.block_lt_of_cell? wC _ kI
          have l3 := World.block_lt_of_cell? wC _ kE
          have l4 := World.block_lt_of_cell? wC _ kX
          refine Open.one (i := 11) rfl (by kernel_rfl) rfl (fun K hK => ?_)
          go_simp
          refine hK _ _ ⟨fun _ => ⟨?_, ?_, ?_, ?_, ?_⟩, ?_⟩
          · simpa [World.cell?_alloc_past _ _ _ l1] using kG
          · simpa [World.cell?_alloc_past _ _ _ l2] using kI
          · simpa [World.cell?_alloc_past _ _ _ l3] using kE
          · simpa [World.cell?_alloc_past _ _ _ l4] using kX
          · simpa [World.cell?_alloc_past _ _ _ l4] using kY
          clear hK K
          refine Open.one (i := 12) rfl (by kernel_rfl) rfl (fun K hK => ?_)
          go_simp
          refine hK _ _ ⟨fun e => absurd rfl e, ?_⟩
          clear hK K HS l1 l2 l3 l4
          refine Open.end (by kernel_rfl) ?_
          have hCD := (HC4.out.alloc (.cells #[.string s, .int .i64 q] 102)).drew
          have kX2 : (wC.alloc (.cells #[.string s, .int .i64 q] 102)).drew.cell? ⟨wC.heap.size, 0, none⟩ = some (.string s) := Nf.blk_cell (i := 0) (Nf.Below.heap_new wC (.cells #[.string s, .int .i64 q] 102)) rfl
          have kY2 : (wC.alloc (.cells #[.string s, .int .i64 q] 102)).drew.cell? ⟨wC.heap.size, 1, none⟩ = some (.int .i64 q) := Nf.blk_cell (i := 1) (Nf.Below.heap_new wC (.cells #[.string s, .int .i64 q] 102)) rfl
          obtain ⟨wD, hwD⟩ : ∃ wD, (wC.alloc (.cells #[.string s, .int .i64 q] 102)).drew = wD := ⟨_, rfl⟩
          rw [hwD] at hCD kX2 kY2 ⊢
          obtain ⟨eB, heB⟩ : ∃ eB, wC.heap.size = eB := ⟨_, rfl⟩
          rw [heB] at kX2 kY2 ⊢
          have HCD := Sp.hid hCD
          clear hwD heB hCD kG kI kE kX kY
          by_cases hs0 : s = sym
          · have hzz := str_eq s sym hs0
            have Hown := Sp.hid (show (wD.alloc (.cells #[.int .i64 q] 3)).ownsRow w.heap.size 3 1 lv O.length (O.map Nf.num) from (HCD.out.alloc _).list)
            have hBs := HCD.out.below.size
            have hwB : w.heap.size ≤ (wD.alloc (.cells #[.int .i64 q] 3)).heap.size := by simp; omega
            have Hs0 := Sp.hid hs0
            clear hs0
            go_wp2_with (at_builtin; refine Nf.push_num2 rfl _ _ rfl w.heap.size lv O rfl Hown.out q ⟨wD.heap.size, 0, none⟩ 1 rfl ?c1 ?c2 ?c3 ?_)
            case c1 => simp [go_sem]
            case c2 => omega
            case c3 => exact hwB
            intro v2 w2 hown2 hgrow2 hat2
            have HC5 := Sp.hid (HCD.out.push hgrow2 (by simpa using hown2))
            clear hown2 hgrow2 hat2
            go_wp2_with fail
            go_roundw
            case rel =>
              refine ⟨m + 1, v2, O ++ [q], by go_num, rfl, hm, HC5.out, by simp; omega, fun x => ?_⟩
              rw [Htk.out, List.mem_append, List.mem_append, Hmem.out x, or_assoc]
              simp only [List.mem_singleton, Prod.mk.injEq, Hs0.out, true_and]
            case measure => simp [intOf]; omega
          · have hzz := str_ne s sym hs0
            have Hs0 := Sp.hid hs0
            clear hs0
            go_wp2_with fail
            go_roundw
            case rel =>
              refine ⟨m + 1, _, O, by go_num, rfl, hm, HCD.out, by omega, fun x => ?_⟩
              have hne : ¬ sym = s := fun e => Hs0.out e.symm
              rw [Htk.out, List.mem_append, Hmem.out x]
              simp only [List.mem_singleton, Prod.mk.injEq, hne, false_and, or_false]
            case measure => simp [intOf]; omega
        · have Hmm := Sp.hid (show (R p).take m = R p from List.take_of_length_le (by omega))
          go_wp2_with fail
          go_quiet (fail)
          go_wp2_with fail
          go_roundw
          case rel =>
            refine ⟨k + 1, _, O, by go_num, hkn, rfl, HC.out.drewN _, by omega, fun x => ?_⟩
            rw [Hmem.out x, Hmm.out]
            constructor
            · rintro (⟨r, hr, h⟩ | h)
              · exact ⟨r, (Hpm.out r).2 (.inl hr), h⟩
              · exact ⟨p, (Hpm.out p).2 (.inr rfl), h⟩
            · rintro ⟨r, hr, h⟩
              rcases (Hpm.out r).1 hr with hr | rfl
              · exact .inl ⟨r, hr, h⟩
              · exact .inr h
          case measure => simp [intOf]; omega
    · have Hall := Sp.hid (show ∀ x, x ∈ O ↔ ∃ p, p ∈ L ∧ (sym, x) ∈ R p by have e : L.take k = L := List.take_of_length_le (by rw [Hlen.out]; omega); have h := Hmem.out; rwa [e] at h)
      obtain ⟨lo, lcap, rfl, hseq, hlc⟩ := Nf.seq_of_own HC.out.list (by unfold maxLen; omega)
      have cA : wr.cell? ⟨gB, 0, none⟩ = some (.int .i64 0) := Nf.blk_cell (i := 0) HC.out.gblk rfl
      have cB : wr.cell? ⟨gB, 1, none⟩ = some (.slice (some ⟨eb, 0, none⟩) g.N g.N) := Nf.blk_cell (i := 1) HC.out.gblk rfl
      have cC : wr.cell? ⟨gB, 2, none⟩ = some (.slice (some ⟨db, 0, none⟩) g.N g.N) := Nf.blk_cell (i := 2) HC.out.gblk rfl
      have HClose := Sp.hid (close_any wr eb db R g lo O.length lcap O (HG.out.below HC.out.below) hseq (fun q hq => by obtain ⟨p, _, h⟩ := (Hall.out q).1 hq; exact HG.out.to_lt h) (by omega))
      unfold Nf.rfVal at HClose
      clear hseq hlc
      go_wp2_with fail
      refine HClose.out.mono ?_
      rintro e w5 ⟨v, Ls, rfl, hown, hpl, hasc, hmem, hbel⟩
      have Hown := Sp.hid hown
      have Hpl := Sp.hid hpl
      have Hasc := Sp.hid hasc
      have Hm := Sp.hid hmem
      have Hbel := Sp.hid hbel
      clear hown hpl hasc hmem hbel
      go_wp2_with fail
      go_ret
      refine ⟨_, Ls, rfl, ?_, Hpl.out, Hasc.out, fun q => ?_, HC.out.below.trans (Hbel.out.mono HC.out.below.size)⟩
      · exact Nf.own_base Hown.out HC.out.below.size
      · rw [Hm.out q]
        constructor
        · rintro ⟨p, hp, hst⟩
          obtain ⟨r, hr, h⟩ := (Hall.out p).1 hp
          exact ⟨r, p, hr, (HG.out.ed_iff r sym p).1 h, hst⟩
        · rintro ⟨r, p, hr, h, hst⟩
          exact ⟨p, (Hall.out p).2 ⟨r, hr, (HG.out.ed_iff r sym p).2 h⟩, hst⟩
end Go.Proofs.YtpoblcmjfcpiaaaGreat
