/-
  The walks of pools: add.
-/
import Derived.Test.YtnaojfhhjknejaaMgAuMemAuGrAuNet
import Derived.WalkKit
import Derived.WalkSpells
import Derived.WalkLawsBesides
import Derived.LoopTactic
import Derived.Deep.RegionHeld3
import Derived.Deep.DrawnRows
import Derived.Deep.QuietTactic
import Derived.BigQuiet
set_option linter.unusedVariables false
namespace Go.Proofs.Ytnaojfhhjknejaa
open Go.RowKit

set_option maxHeartbeats 400000 in
theorem add_old (base P N q : Nat) (L : List Nat) (w : World) (h : Nf.PoolAt w base P N L) (hq : q < N) (hm : q ∈ L) :
    Calls Try.prog 51 #[.pointer (some ⟨P, 0, none⟩), .int .i64 q] w fun e w' => e = .returned (.tuple #[]) ∧ w = w' := by
  obtain ⟨hp, hN, hbP, hb, lv, hb1, hP, hv, how⟩ := h
  have c0 : w.cell? ⟨P, 0, none⟩ = some (.slice (some ⟨hb, 0, none⟩) N N) := Nf.blk_cell (i := 0) hP rfl
  have d1 := hv.cell hq
  rw [decide_eq_true hm] at d1
  clear hm hP
  go_enter Try.func51, Try.ntmps51
  go_wp2_with fail
  go_end0
  exact ⟨rfl, rfl⟩

set_option maxHeartbeats 400000 in
set_option maxRecDepth 100000 in
theorem add_new (base P N q : Nat) (L : List Nat) (w : World) (h : Nf.PoolAt w base P N L) (hq : q < N) (hm : q ∉ L) (hB : base ≤ w.heap.size) :
    Calls Try.prog 51 #[.pointer (some ⟨P, 0, none⟩), .int .i64 q] w fun e w' => e = .returned (.tuple #[]) ∧ Nf.PoolAt w' base P N (L ++ [q]) ∧ Nf.PF base w w' := by
  obtain ⟨hp, hN, hbP, hb, lv, hb1, hP, hv, how⟩ := h
  have hpl := Sp.hid hp
  have hlen := hp.len
  have c0 : w.cell? ⟨P, 0, none⟩ = some (.slice (some ⟨hb, 0, none⟩) N N) := Nf.blk_cell (i := 0) hP rfl
  have c1 : w.cell? ⟨P, 1, none⟩ = some lv := Nf.blk_cell (i := 1) hP rfl
  have d1 := hv.cell hq
  rw [decide_eq_false hm] at d1
  have f1 := hv.free q
  have hbl := hv.lt
  have hPl := Nf.blk_lt hP
  obtain ⟨cur, hcur⟩ := Nf.Vec.blk hv
  have hne : hb ≠ P := Nf.blk_ne hcur hP (by decide)
  have hn1 : lv.ownBlock ≠ some hb := Nf.own_ne how hcur (by decide)
  have hn2 : lv.ownBlock ≠ some P := Nf.own_ne how hP (by decide)
  have how1 : ((w.setCell ⟨hb, q, none⟩ (.bool true)).alloc (.cells #[.int .i64 q] 3)).ownsRow base 3 1 lv L.length (L.map Nf.num) := (Nf.own_far how (a := ⟨hb, q, none⟩) hn1).alloc _
  have hP1 : ((w.setCell ⟨hb, q, none⟩ (.bool true)).alloc (.cells #[.int .i64 q] 3)).heap[P]? = _ := Nf.blk_alloc (Nf.blk_far hP (a := ⟨hb, q, none⟩) (fun e => hne e.symm) (.bool true)) _
  have hv1 : Vec Value.bool ((w.setCell ⟨hb, q, none⟩ (.bool true)).alloc (.cells #[.int .i64 q] 3)) hb 4 N N (fun i => decide (i ∈ L ++ [q])) := by
    refine (Nf.Vec.alloc_ (hv.set (i := q) true) _).congr fun i hi => ?_
    show (if i = q then true else decide (i ∈ L)) = _
    by_cases e : i = q
    · simp [e]
    · simp [e]
  have b1 : Below base w ((w.setCell ⟨hb, q, none⟩ (.bool true)).alloc (.cells #[.int .i64 q] 3)) := ((Below.refl _ _).setCell (p := ⟨hb, q, none⟩) hb1 _).alloc (by simpa [World.setCell] using hB) _
  have hpool := Sp.hid (show Nf.Pool N (L ++ [q]) by have := hp.ins hq; rwa [Nf.ins_new hm] at this)
  have Hcur := Sp.hid hcur
  have HP := Sp.hid hP
  have HP1 := Sp.hid hP1
  have Hv1 := Sp.hid hv1
  have B1 := Sp.hid b1
  have Hown := Sp.hid how.lt
  have Hown0 := Sp.hid how
  clear hm hcur hP hP1 hv1 b1 hp
  go_enter Try.func51, Try.ntmps51
  go_wp2_with (at_builtin; refine Nf.push_num rfl _ _ rfl base lv L rfl how1 q ⟨w.heap.size, 0, none⟩ 1 rfl ?c1 ?c2 ?c3 ?_)
  case c1 => simp [go_sem]
  case c2 => omega
  case c3 => exact Nat.le_trans hB B1.out.size
  intro v2 w2 hown2 hgrow2 hat2
  obtain ⟨g2, cap2, rfl⟩ := Nf.own_form hown2 (by simp)
  have hP2 := Nf.blk_grown HP1.out hgrow2 hn2
  have c2 : w2.cell? ⟨P, 1, none⟩ = some lv := Nf.blk_cell (i := 1) hP2 rfl
  have f2 := Nf.blk_free (i := 1) hP2
  have hv2 := Hv1.out.grown hgrow2 (fun e => hn1 e.symm)
  have k2 : ∀ (k : Nat) (cs : Array Value) (t : TypeId) (fr : Nat × Nat), w.heap[k]? = some (Obj.cells cs t fr) → ¬ Nf.Kind t → w2.heap[k]? = some (Obj.cells cs t fr) := fun k cs t fr hk hn => by
    have h1 : hb ≠ k := fun e => by subst e; have := Nf.blk_ne Hcur.out hk (fun e => hn (by subst e; exact .inr (.inl rfl))); exact this rfl
    refine Nf.blk_grown (Nf.blk_alloc (Nf.blk_far hk (a := ⟨hb, q, none⟩) (fun e => h1 e.symm) (.bool true)) _) hgrow2 ?_
    exact Nf.own_ne Hown0.out hk (fun e => hn (by subst e; exact .inr (.inr rfl)))
  have K2 := Sp.hid k2
  clear k2
  have b2 : Below base w w2 := B1.out.grown hgrow2 (by simp; omega) (fun k hk => (Hown.out k hk).1)
  have Hat2 := Sp.hid hat2
  have HP2 := Sp.hid hP2
  have Hv2 := Sp.hid hv2
  have B2 := Sp.hid b2
  have Hown2 := Sp.hid hown2
  clear hat2 hP2 hgrow2 hv2 b2 hown2
  go_wp2_with fail
  go_end0
  obtain ⟨cur2, hcur2⟩ := Nf.Vec.blk Hv2.out
  have hn3 := Nf.own_ne Hown2.out HP2.out (by decide)
  have hpf : ∀ (k : Nat) (cs : Array Value) (t : TypeId) (fr : Nat × Nat), w.heap[k]? = some (Obj.cells cs t fr) → ¬ Nf.Kind t → (w2.setCell ⟨P, 1, none⟩ (.slice (some ⟨g2, 0, none⟩) (L.length + 1) cap2)).heap[k]? = some (Obj.cells cs t fr) := fun k cs t fr hk hn => by
    refine Nf.blk_far (K2.out k cs t fr hk hn) (fun e => ?_) _
    have e : k = P := e
    subst e
    exact Nf.blk_ne HP.out hk (fun e => hn (by subst e; exact .inl rfl)) rfl
  refine ⟨rfl, ⟨hpool.out, hN, hbP, hb, _, hb1, ?_, Nf.Vec.far Hv2.out (a := ⟨P, 1, none⟩) hne _, by simpa using Nf.own_far Hown2.out (a := ⟨P, 1, none⟩) hn3⟩, B2.out.setCell (p := ⟨P, 1, none⟩) hbP _, hpf⟩
  exact Nf.blk_set HP2.out _

theorem add_any (base P N q : Nat) (L : List Nat) (w : World) (h : Nf.PoolAt w base P N L) (hq : q < N) (hB : base ≤ w.heap.size) :
    Calls Try.prog 51 #[.pointer (some ⟨P, 0, none⟩), .int .i64 q] w fun e w' => e = .returned (.tuple #[]) ∧ Nf.PoolAt w' base P N (Nf.ins L q) ∧ Nf.PF base w w' := by
  by_cases hm : q ∈ L
  · rw [Nf.ins_old hm]
    exact (add_old base P N q L w h hq hm).mono fun e w' ⟨he, hw⟩ => ⟨he, hw ▸ h, hw ▸ Nf.PF.refl _ _⟩
  · rw [Nf.ins_new hm]
    exact add_new base P N q L w h hq hm hB

end Go.Proofs.Ytnaojfhhjknejaa

/-
  The walks of pools: follow.
-/
set_option linter.unusedVariables false
namespace Go.Proofs.Ytnaojfhhjknejaa
open Go.RowKit

set_option maxHeartbeats 1000000 in
set_option maxRecDepth 100000 in
theorem follow_any (w0 w : World) (P N : Nat) (l : List Nat) (ts : List Nf.TabV) (ao : Option Addr) (k cap : Nat) (hw : Below w0.heap.size w0 w) (h : Nf.PoolAt w w0.heap.size P N l)
    (hs : Nf.Seq (Nf.tabVal N) w ao k ts) (hsafe : ∀ a, ao = some a → 0 < k → Nf.Safe w0.heap.size w a.block) (hk : k ≤ 100)
    (ht : ∀ t ∈ ts, Nf.TabAt w0 t.B N t.R) (hlt : ∀ t ∈ ts, ∀ p, p < N → ∀ q ∈ t.R p, q < N) :
    Calls Try.prog 52 #[.pointer (some ⟨P, 0, none⟩), .slice ao k cap] w (Nf.FollowPost w0.heap.size P N l ts w) := by
  have Hts := Sp.hid ht
  have Hlt := Sp.hid hlt
  have Hp0 := Sp.hid h
  have Hsafe := Sp.hid hsafe
  have Hs := Sp.hid hs
  have Hlen := Sp.hid hs.1
  have Hstart := Sp.hid (Nf.Fol.start (tabs := ts.map Nf.TabV.R) h.1)
  clear ht hlt h hsafe hs
  go_enter Try.func52, Try.ntmps52
  go_wp2_with fail
  go_loopw [4] (fun i wr => ∃ (j : Nat) (L : List Nat), i = .int .i64 j ∧ Nf.PoolAt wr w0.heap.size P N L ∧ Nf.Fol (ts.map Nf.TabV.R) N l j L ∧ Nf.PF w0.heap.size w wr) (fun i _ => N - (intOf i).toNat)
  case atStart => exact ⟨0, l, rfl, Hp0.out, Hstart.out, Nf.PF.refl _ _⟩
  case round =>
    obtain ⟨j, L, rfl, hpool, hfol, hpf⟩ := hrel
    have Hpool := Sp.hid hpool
    have Hfol := Sp.hid hfol
    have Hpf := Sp.hid hpf
    obtain ⟨hp, hN, hbP, hb, lv, hb1, hP, hv, how⟩ := hpool
    have hL := hp.len
    obtain ⟨lo, lcap, rfl, hseq, hlc⟩ := Nf.seq_of_own how (by unfold maxLen; omega)
    have c1 : wr.cell? ⟨P, 1, none⟩ = some (.slice lo L.length lcap) := Nf.blk_cell (i := 1) hP rfl
    have hjL := hfol.le
    obtain ⟨n, hn⟩ : ∃ n, L.length = n := ⟨_, rfl⟩
    rw [hn] at c1 hL hjL hseq hlc
    have Hn := Sp.hid hn
    have Hseq := Sp.hid hseq
    clear hfol hpf hP hv how hp hseq hn
    by_cases hjn : j < n
    · have hjN : j < N := by omega
      obtain ⟨_, _, p, _, _, hjp, _⟩ := Hseq.out.at hjn
      have Hin := Sp.hid (Hfol.out.at_ hjp)
      have hpN : p < N := Hpool.out.1.lt p (List.mem_of_getElem? hjp)
      obtain ⟨wo, rfl⟩ : ∃ wo : World, wo = wr := ⟨_, rfl⟩
      clear hjp Hseq Hfol
      go_wp2_with fail
      go_loopw [20] (fun x wr => ∃ (t : Nat) (L2 : List Nat), x = .int .i64 t ∧ t ≤ k ∧ Nf.PoolAt wr w0.heap.size P N L2 ∧ Nf.FolIn (ts.map Nf.TabV.R) N l j p t 0 L2 ∧ Nf.PF w0.heap.size w wr) (fun x _ => k - (intOf x).toNat)
      case atStart => exact ⟨0, L, rfl, Nat.zero_le _, Hpool.out, Hin.out, Hpf.out⟩
      case round =>
        obtain ⟨t, L2, rfl, htk, hpool2, hin2, hpf2⟩ := hrel
        have Hpool2 := Sp.hid hpool2
        have Hin2 := Sp.hid hin2
        have Hpf2 := Sp.hid hpf2
        obtain ⟨hp2, hN2, hbP2, hb2, lv2, hb21, hP2, hv2, how2⟩ := hpool2
        have hL2 := hp2.len
        obtain ⟨lo2, lcap2, rfl, hseq2, hlc2⟩ := Nf.seq_of_own how2 (by unfold maxLen; omega)
        have c2 : wr.cell? ⟨P, 1, none⟩ = some (.slice lo2 L2.length lcap2) := Nf.blk_cell (i := 1) hP2 rfl
        have hj2 : j < L2.length := (List.getElem?_eq_some_iff.1 hin2.at_).1
        by_cases htl : t < k
        · obtain ⟨ab, aof, T, rfl, hca, hT, _⟩ := ((Hs.out).safe Hsafe.out Hpf2.out).at htl
          have hTm : T ∈ ts := List.mem_of_getElem? hT
          have hbel2 := hw.trans Hpf2.out.below
          obtain ⟨ro, rn, rcap, hcr0, hrow, hrn⟩ := Hts.out T hTm p hpN
          have hcr : wr.cell? ⟨T.B, p, none⟩ = some (.slice ro rn rcap) := by rw [hbel2.cell (World.block_lt_of_cell? w0 _ hcr0)]; exact hcr0
          obtain ⟨qb, qo, p', rfl, hcl, hp', _⟩ := hseq2.at hj2
          have hpp : p' = p := by have := hin2.at_; rw [hp'] at this; injection this
          subst hpp
          have hTR : (ts.map Nf.TabV.R)[t]? = some T.R := by rw [List.getElem?_map, hT]; rfl
          have HTR := Sp.hid hTR
          have Hrow := Sp.hid hrow
          have Hbel2 := Sp.hid hbel2
          have hqN := Sp.hid (Hlt.out T hTm p' hpN)
          simp only [Nf.tabVal] at hca
          simp only [Nf.num] at hcl
          have hrl := Sp.hid hrow.1
          clear hT hp' hTR hrow hcr0 hin2 hp2 hP2 hv2 how2 hseq2 hbel2
          obtain ⟨wq, rfl⟩ : ∃ wq : World, wq = wr := ⟨_, rfl⟩
          go_wp2_with fail
          go_loopw [35] (fun x wr => ∃ (m : Nat) (L3 : List Nat), x = .int .i64 m ∧ m ≤ rn ∧ Nf.PoolAt wr w0.heap.size P N L3 ∧ Nf.FolIn (ts.map Nf.TabV.R) N l j p' t m L3 ∧ Nf.PF w0.heap.size w wr) (fun x _ => rn - (intOf x).toNat)
          case atStart => exact ⟨0, L2, rfl, Nat.zero_le _, Hpool2.out, Hin2.out, Hpf2.out⟩
          case round =>
            obtain ⟨m, L3, rfl, hmr, hpool3, hin3, hpf3⟩ := hrel
            have Hpool3 := Sp.hid hpool3
            have Hin3 := Sp.hid hin3
            have Hpf3 := Sp.hid hpf3
            have hsz3 := hpf3.below.size
            have hsz0 := hw.size
            clear hpool3 hin3 hpf3
            by_cases hmn : m < rn
            · have hrow4 : Nf.Seq Nf.num wr ro rn (T.R p') := Hrow.out.below (hw.trans Hpf3.out.below)
              obtain ⟨rb, rof, q, rfl, hcq, hq, _⟩ := hrow4.at hmn
              have hqn : q < N := hqN.out q (List.mem_of_getElem? hq)
              have HA := Sp.hid (add_any w0.heap.size P N q L3 wr Hpool3.out hqn (by omega))
              have Hq := Sp.hid hq
              simp only [Nf.num] at hcq
              clear hq hrow4
              go_wp2_with fail
              refine HA.out.mono ?_
              rintro e w5 ⟨rfl, hpool5, hpf5⟩
              have Hpool5 := Sp.hid hpool5
              have Hpf5 := Sp.hid hpf5
              clear hpool5 hpf5
              go_wp2_with fail
              go_roundw
              case rel => exact ⟨m + 1, _, by go_num, hmn, Hpool5.out, Hin3.out.add HTR.out Hq.out hqn, Hpf3.out.trans Hpf5.out⟩
              case measure => simp [intOf]; omega
            · have hmr' : (T.R p').length ≤ m := by have := hrl.out; omega
              have Hin4 := Sp.hid (Hin3.out.next HTR.out hmr')
              clear hmr'
              go_wp2_with fail
              go_roundw
              case rel => exact ⟨t + 1, L3, by go_num, htl, Hpool3.out, Hin4.out, Hpf3.out⟩
              case measure => simp [intOf]; omega
        · have Hr := Sp.hid (Hin2.out.round (by rw [List.length_map, Hlen.out]; omega))
          have hjl3 := hj2
          clear hin2 hp2 hP2 hv2 how2 hseq2
          go_wp2_with fail
          go_roundw
          case rel => exact ⟨j + 1, L2, by go_num, Hpool2.out, Hr.out, Hpf2.out⟩
          case measure => simp [intOf]; omega
    · have hje : j = n := by omega
      have Hje := Sp.hid hje
      clear hje
      go_wp2_with fail
      go_end0
      exact ⟨rfl, Hpf.out, L, Hpool.out, by have := Hfol.out; rwa [Hje.out, ← Hn.out] at this⟩

end Go.Proofs.Ytnaojfhhjknejaa

/-
  The walks of back, before, begin.
-/
set_option linter.unusedVariables false
namespace Go.Proofs.Ytnaojfhhjknejaa
open Go.RowKit

theorem Nf.poolType : (Try.prog.info? 99).map (·.size) = some 2 := by kernel_rfl

set_option maxHeartbeats 1000000 in
set_option maxRecDepth 100000 in
theorem back_any (w : World) (gb : Nat) (v : Nf.Gv) (g : Nf.Gr) (ts : List Nf.TabV) (ao : Option Addr) (k cap : Nat) (hG : Nf.GrAt w gb v g)
    (hs : Nf.Seq (Nf.tabVal g.N) w ao k ts) (hk : k ≤ 100) (ht : ∀ t ∈ ts, Nf.TabAt w t.B g.N t.R) (hlt : ∀ t ∈ ts, ∀ p, p < g.N → ∀ q ∈ t.R p, q < g.N) :
    Calls Try.prog 28 #[.pointer (some ⟨gb, 0, none⟩), .slice ao k cap] w (Nf.SetPost g.N (fun q => ∃ p, p ∈ g.ends ∧ Nf.Star (Nf.Rel (ts.map Nf.TabV.R)) p q) w) := by
  obtain ⟨i0, hi, hz0, hz1, hz2⟩ := info_parts Nf.boolInfo
  have hN := hG.small
  have hB := hG.blk
  have c1 : w.cell? ⟨gb, 1, none⟩ = some (.slice (some ⟨v.eb, 0, none⟩) g.N g.N) := Nf.blk_cell (i := 1) hB rfl
  have hgl := Nf.blk_lt hB
  have hgl2 : gb < w.heap.size + 1 := by omega
  have HG := Sp.hid hG
  have Hs := Sp.hid hs
  have Ht := Sp.hid ht
  have Hlt := Sp.hid hlt
  have Hp0 := Sp.hid (Nf.pool_new w g.N (by omega))
  clear hG hB hs ht hlt
  go_enter Try.func28, Try.ntmps28
  go_wp2_with (at_make; refine wpList_make_row _ rfl _ _ 47 rfl 4 i0 (.bool false) Try.underlying47 hi hz0 hz1 rfl _ _ g.N rfl rfl ?c1 ?c2 ?_)
  case c1 => rw [hz2]; omega
  case c2 => omega
  have b0 : Below w.heap.size w ((w.alloc (.cells (madeCells #[.bool false] g.N) 4)).alloc (.cells #[.slice (some ⟨w.heap.size, 0, none⟩) g.N g.N, .slice none 0 0] 99)) := ((Below.refl _ w).alloc (Nat.le_refl _) _).alloc (by simp) _
  obtain ⟨w1, hw1⟩ : ∃ w1, ((w.alloc (.cells (madeCells #[.bool false] g.N) 4)).alloc (.cells #[.slice (some ⟨w.heap.size, 0, none⟩) g.N g.N, .slice none 0 0] 99)) = w1 := ⟨_, rfl⟩
  rw [hw1] at b0 Hp0 ⊢
  have B0 := Sp.hid b0
  clear hw1 b0
  go_loopw [6, 7, 20] (fun _ _ i wr => ∃ (q : Nat) (L : List Nat), i = .int .i64 q ∧ q ≤ g.N ∧ Nf.PoolAt wr w.heap.size (w.heap.size + 1) g.N L ∧ Nf.PF w.heap.size w1 wr ∧ ∀ x, x ∈ L ↔ x ∈ g.ends ∧ x < q) (fun _ _ i _ => g.N - (intOf i).toNat)
  case atStart => exact ⟨0, [], rfl, Nat.zero_le _, Hp0.out, Nf.PF.refl _ _, fun x => by simp⟩
  case round =>
    obtain ⟨q, L, rfl, hq, hpool, hpf, hL⟩ := hrel
    have Hpool := Sp.hid hpool
    have Hpf := Sp.hid hpf
    have HL := Sp.hid hL
    have Hbel := Sp.hid (B0.out.trans hpf.below)
    have hsz := Hbel.out.size
    clear hpool hpf hL
    by_cases hqn : q < g.N
    · have hc := (HG.out.below Hbel.out).ends q hqn
      by_cases hqe : q ∈ g.ends
      · rw [Nf.bl_true hqe] at hc
        have HA := Sp.hid (add_any w.heap.size (w.heap.size + 1) g.N q L wr Hpool.out hqn (by omega))
        have Hqe := Sp.hid hqe
        clear hqe
        go_wp2_with fail
        refine HA.out.mono ?_
        rintro e w5 ⟨rfl, hpool5, hpf5⟩
        have Hpool5 := Sp.hid hpool5
        have Hpf5 := Sp.hid hpf5
        clear hpool5 hpf5
        go_wp2_with fail
        go_roundw
        case rel =>
          refine ⟨q + 1, _, by go_num, hqn, Hpool5.out, Hpf.out.trans Hpf5.out, fun x => ?_⟩
          rw [Nf.mem_ins, HL.out]
          constructor
          · rintro (⟨h1, h2⟩ | rfl)
            · exact ⟨h1, by omega⟩
            · exact ⟨Hqe.out, by omega⟩
          · rintro ⟨h1, h2⟩
            by_cases e : x = q
            · exact .inr e
            · exact .inl ⟨h1, by omega⟩
        case measure => simp [intOf]; omega
      · rw [Nf.bl_false hqe] at hc
        have Hqe := Sp.hid hqe
        clear hqe
        go_wp2_with fail
        go_roundw
        case rel =>
          refine ⟨q + 1, L, by go_num, hqn, Hpool.out, Hpf.out, fun x => ?_⟩
          rw [HL.out]
          constructor
          · rintro ⟨h1, h2⟩; exact ⟨h1, by omega⟩
          · rintro ⟨h1, h2⟩
            by_cases e : x = q
            · exact absurd (e ▸ h1) Hqe.out
            · exact ⟨h1, by omega⟩
        case measure => simp [intOf]; omega
    · have hsafe : ∀ a, ao = some a → 0 < k → Nf.Safe w.heap.size wr a.block := fun a ha hk0 => .inl (by
        obtain ⟨b, off, e, hcc⟩ := Hs.out.2.2 hk0
        rw [e] at ha; cases ha
        have hl := Hs.out.1
        exact World.block_lt_of_cell? w _ (hcc 0 (ts[0]'(by omega)) (by simp)))
      have HF := Sp.hid (follow_any w wr (w.heap.size + 1) g.N L ts ao k cap Hbel.out Hpool.out (Hs.out.below Hbel.out) hsafe hk Ht.out Hlt.out)
      clear hsafe
      have hqN : q = g.N := by omega
      have HqN := Sp.hid hqN
      clear hqN
      go_wp2_with fail
      refine HF.out.mono ?_
      rintro e w5 ⟨rfl, hpf5, L5, hpool5, hfol5⟩
      have Hfol5 := Sp.hid hfol5
      have Hbel5 := Sp.hid (Hbel.out.trans hpf5.below)
      obtain ⟨_, _, _, hb5, lv5, _, hP5, hv5, _⟩ := hpool5
      have c5 : w5.cell? ⟨w.heap.size + 1, 0, none⟩ = some (.slice (some ⟨hb5, 0, none⟩) g.N g.N) := Nf.blk_cell (i := 0) hP5 rfl
      have Hv5 := Sp.hid hv5
      clear hfol5 hpf5 hP5 hv5
      go_wp2_with fail
      go_ret
      refine ⟨hb5, rfl, Nf.BoolsT.of Hv5.out fun x hx => ?_, Hbel5.out⟩
      rw [Hv5.out.cell hx, Nf.bl_decide]
      congr 2
      apply Nf.bl_congr
      rw [Hfol5.out.mem (Nat.le_refl _) x]
      constructor
      · rintro ⟨p, hp, hs⟩; exact ⟨p, ((HL.out p).1 hp).1, hs⟩
      · rintro ⟨p, hp, hs⟩; exact ⟨p, (HL.out p).2 ⟨hp, by rw [HqN.out]; exact HG.out.ok.end_ p hp⟩, hs⟩


theorem Nf.rel_be {w : World} {gb : Nat} {v : Nf.Gv} {g : Nf.Gr} (hG : Nf.GrAt w gb v g) {p q : Nat} : Nf.Star (Nf.Rel [v.Be]) p q ↔ Nf.Star (Nf.E g) q p :=
  ⟨fun h => h.rev (fun a b ⟨R, hR, hb⟩ => by simp at hR; subst hR; exact (hG.be_iff a b).1 hb), fun h => h.rev (fun a b hab => ⟨v.Be, by simp, (hG.be_iff b a).2 hab⟩)⟩
theorem Nf.rel_em {w : World} {gb : Nat} {v : Nf.Gv} {g : Nf.Gr} (hG : Nf.GrAt w gb v g) {p q : Nat} : Nf.Star (Nf.Rel [v.Em]) p q ↔ Nf.Star (Nf.E g) p q :=
  ⟨fun h => h.mono (fun a b ⟨R, hR, hb⟩ => by simp at hR; subst hR; exact (hG.em_iff a b).1 hb), fun h => h.mono (fun a b hab => ⟨v.Em, by simp, (hG.em_iff a b).2 hab⟩)⟩
theorem Nf.rel_any {w : World} {gb : Nat} {v : Nf.Gv} {g : Nf.Gr} (hG : Nf.GrAt w gb v g) {p q : Nat} : Nf.Star (Nf.Rel [v.Be, v.Bm]) p q ↔ Nf.Star (Nf.Any g) q p := by
  constructor
  · intro h
    refine h.rev (fun a b ⟨R, hR, hb⟩ => ?_)
    simp at hR
    rcases hR with rfl | rfl
    · exact ⟨Nf.eps, (hG.be_iff a b).1 hb⟩
    · obtain ⟨s, _, hs⟩ := (hG.bm_iff a b).1 hb
      exact ⟨s, hs⟩
  · intro h
    refine h.rev (fun a b ⟨s, hs⟩ => ?_)
    by_cases e : s = Nf.eps
    · subst e; exact ⟨v.Be, by simp, (hG.be_iff b a).2 hs⟩
    · exact ⟨v.Bm, by simp, (hG.bm_iff b a).2 ⟨s, e, hs⟩⟩

set_option maxHeartbeats 1000000 in
set_option maxRecDepth 100000 in
theorem before_any (w : World) (gb mb : Nat) (v : Nf.Gv) (g : Nf.Gr) (S : Nat → Prop) (hG : Nf.GrAt w gb v g) (hM : Nf.BoolsAt w mb g.N S) :
    Calls Try.prog 34 #[.pointer (some ⟨gb, 0, none⟩), .slice (some ⟨mb, 0, none⟩) g.N g.N] w (Nf.SetPost g.N (Nf.Before g S) w) := by
  obtain ⟨i0, hi, hz0, hz1, hz2⟩ := info_parts Nf.boolInfo
  have hN := hG.small
  have HG := Sp.hid hG
  have HM := Sp.hid hM
  have Hp0 := Sp.hid (Nf.pool_new w g.N (by omega))
  clear hG hM
  go_enter Try.func34, Try.ntmps34
  go_wp2_with (at_make; refine wpList_make_row _ rfl _ _ 47 rfl 4 i0 (.bool false) Try.underlying47 hi hz0 hz1 rfl _ _ g.N rfl rfl ?c1 ?c2 ?_)
  case c1 => rw [hz2]; omega
  case c2 => omega
  have b0 : Below w.heap.size w ((w.alloc (.cells (madeCells #[.bool false] g.N) 4)).alloc (.cells #[.slice (some ⟨w.heap.size, 0, none⟩) g.N g.N, .slice none 0 0] 99)) := ((Below.refl _ w).alloc (Nat.le_refl _) _).alloc (by simp) _
  obtain ⟨w1, hw1⟩ : ∃ w1, ((w.alloc (.cells (madeCells #[.bool false] g.N) 4)).alloc (.cells #[.slice (some ⟨w.heap.size, 0, none⟩) g.N g.N, .slice none 0 0] 99)) = w1 := ⟨_, rfl⟩
  rw [hw1] at b0 Hp0 ⊢
  have B0 := Sp.hid b0
  clear hw1 b0
  go_loopw [6, 7, 9, 16] (fun _ _ _ i wr => ∃ (q : Nat) (L : List Nat), i = .int .i64 q ∧ q ≤ g.N ∧ Nf.PoolAt wr w.heap.size (w.heap.size + 1) g.N L ∧ Nf.PF w.heap.size w1 wr ∧ ∀ x, x ∈ L ↔ ∃ r, r < q ∧ S r ∧ x ∈ v.Bm r) (fun _ _ _ i _ => g.N - (intOf i).toNat)
  case atStart => exact ⟨0, [], rfl, Nat.zero_le _, Hp0.out, Nf.PF.refl _ _, fun x => by simp⟩
  case round =>
    obtain ⟨q, L, rfl, hq, hpool, hpf, hL⟩ := hrel
    have Hpool := Sp.hid hpool
    have Hpf := Sp.hid hpf
    have HL := Sp.hid hL
    have Hbel := Sp.hid (B0.out.trans hpf.below)
    have hsz := Hbel.out.size
    clear hpool hpf hL
    by_cases hqn : q < g.N
    · have hc := (HM.out.below Hbel.out) q hqn
      by_cases hqe : S q
      · rw [Nf.bl_true hqe] at hc
        have hG2 := HG.out.below Hbel.out
        have c4 : wr.cell? ⟨gb, 4, none⟩ = some (.slice (some ⟨v.yb, 0, none⟩) g.N g.N) := Nf.blk_cell (i := 4) hG2.blk rfl
        obtain ⟨ro, rn, rcap, hcr0, hrow, hrn⟩ := HG.out.bmv q hqn
        have hcr : wr.cell? ⟨v.yb, q, none⟩ = some (.slice ro rn rcap) := by rw [Hbel.out.cell (World.block_lt_of_cell? w _ hcr0)]; exact hcr0
        have Hrow := Sp.hid hrow
        have hrl := Sp.hid hrow.1
        have Hqe := Sp.hid hqe
        obtain ⟨wo, rfl⟩ : ∃ wo : World, wo = wr := ⟨_, rfl⟩
        clear hqe hG2 hcr0 hrow
        go_wp2_with fail
        go_loopw [30] (fun x wr => ∃ (m : Nat) (L3 : List Nat), x = .int .i64 m ∧ m ≤ rn ∧ Nf.PoolAt wr w.heap.size (w.heap.size + 1) g.N L3 ∧ Nf.PF w.heap.size w1 wr ∧ ∀ x, x ∈ L3 ↔ x ∈ L ∨ x ∈ (v.Bm q).take m) (fun x _ => rn - (intOf x).toNat)
        case atStart => exact ⟨0, L, rfl, Nat.zero_le _, Hpool.out, Hpf.out, fun x => by simp⟩
        case round =>
          obtain ⟨m, L3, rfl, hmr, hpool3, hpf3, hL3⟩ := hrel
          have Hpool3 := Sp.hid hpool3
          have Hpf3 := Sp.hid hpf3
          have HL3 := Sp.hid hL3
          have Hbel3 := Sp.hid (B0.out.trans hpf3.below)
          have hsz3 := Hbel3.out.size
          clear hpool3 hpf3 hL3
          by_cases hmn : m < rn
          · obtain ⟨rb, rof, y, rfl, hcq, hy, hty⟩ := (Hrow.out.below Hbel3.out).at hmn
            have hyn : y < g.N := HG.out.bm_lt q hqn y (List.mem_of_getElem? hy)
            have HA := Sp.hid (add_any w.heap.size (w.heap.size + 1) g.N y L3 wr Hpool3.out hyn (by omega))
            have Hty := Sp.hid hty
            simp only [Nf.num] at hcq
            clear hy hty
            go_wp2_with fail
            refine HA.out.mono ?_
            rintro e w5 ⟨rfl, hpool5, hpf5⟩
            have Hpool5 := Sp.hid hpool5
            have Hpf5 := Sp.hid hpf5
            clear hpool5 hpf5
            go_wp2_with fail
            go_roundw
            case rel => exact ⟨m + 1, _, by go_num, hmn, Hpool5.out, Hpf3.out.trans Hpf5.out, fun x => by rw [Nf.mem_ins, HL3.out, Hty.out, List.mem_append, List.mem_singleton, or_assoc]⟩
            case measure => simp [intOf]; omega
          · have hmr' := Sp.hid (show (v.Bm q).take m = v.Bm q from List.take_of_length_le (by have := hrl.out; omega))
            go_wp2_with fail
            go_roundw
            case rel =>
              refine ⟨q + 1, L3, by go_num, hqn, Hpool3.out, Hpf3.out, fun x => ?_⟩
              rw [HL3.out, HL.out, hmr'.out]
              constructor
              · rintro (⟨r, h1, h2⟩ | h)
                · exact ⟨r, by omega, h2⟩
                · exact ⟨q, by omega, Hqe.out, h⟩
              · rintro ⟨r, h1, h2, h3⟩
                by_cases e : r = q
                · subst e; exact .inr h3
                · exact .inl ⟨r, by omega, h2, h3⟩
            case measure => simp [intOf]; omega
      · rw [Nf.bl_false hqe] at hc
        have Hqe := Sp.hid hqe
        clear hqe
        go_wp2_with fail
        go_roundw
        case rel =>
          refine ⟨q + 1, L, by go_num, hqn, Hpool.out, Hpf.out, fun x => ?_⟩
          rw [HL.out]
          constructor
          · rintro ⟨r, h1, h2⟩; exact ⟨r, by omega, h2⟩
          · rintro ⟨r, h1, h2, h3⟩
            by_cases e : r = q
            · exact absurd (e ▸ h2) Hqe.out
            · exact ⟨r, by omega, h2, h3⟩
        case measure => simp [intOf]; omega
    · have hqN : q = g.N := by omega
      have HqN := Sp.hid hqN
      have hG2 := HG.out.below Hbel.out
      have c5 : wr.cell? ⟨gb, 5, none⟩ = some (.slice (some ⟨v.zb, 0, none⟩) g.N g.N) := Nf.blk_cell (i := 5) hG2.blk rfl
      have hpl : Nf.PoolAt (wr.alloc (.cells #[.slice (some ⟨v.zb, 0, none⟩) g.N g.N] 64)) w.heap.size (w.heap.size + 1) g.N L := Hpool.out.alloc _
      have hbl : Below w.heap.size w (wr.alloc (.cells #[.slice (some ⟨v.zb, 0, none⟩) g.N g.N] 64)) := Hbel.out.alloc hsz _
      have hsq : Nf.Seq (Nf.tabVal g.N) (wr.alloc (.cells #[.slice (some ⟨v.zb, 0, none⟩) g.N g.N] 64)) (some ⟨wr.heap.size, 0, none⟩) 1 [⟨v.zb, v.Be⟩] := Nf.seq_one (Nf.tabVal g.N) wr ⟨v.zb, v.Be⟩ 64
      have hsafe : ∀ a, some (⟨wr.heap.size, 0, none⟩ : Addr) = some a → 0 < 1 → Nf.Safe w.heap.size (wr.alloc (.cells #[.slice (some ⟨v.zb, 0, none⟩) g.N g.N] 64)) a.block := fun a ha _ => by
        cases ha
        exact .inr ⟨_, _, _, Nf.Below.heap_new _ _, by unfold Nf.Kind; decide⟩
      have HF := Sp.hid (follow_any w _ (w.heap.size + 1) g.N L [⟨v.zb, v.Be⟩] (some ⟨wr.heap.size, 0, none⟩) 1 1 hbl hpl hsq hsafe (by omega) (by intro t ht; simp at ht; subst ht; exact HG.out.bem) (by intro t ht; simp at ht; subst ht; exact HG.out.be_lt))
      have HB := Sp.hid hbl
      clear hsafe hqN hG2 hpl hbl hsq
      go_wp2_with fail
      refine HF.out.mono ?_
      rintro e w5 ⟨rfl, hpf5, L5, hpool5, hfol5⟩
      have Hfol5 := Sp.hid hfol5
      have Hbel5 := Sp.hid (HB.out.trans hpf5.below)
      obtain ⟨_, _, _, hb5, lv5, _, hP5, hv5, _⟩ := hpool5
      have c6 : w5.cell? ⟨w.heap.size + 1, 0, none⟩ = some (.slice (some ⟨hb5, 0, none⟩) g.N g.N) := Nf.blk_cell (i := 0) hP5 rfl
      have Hv5 := Sp.hid hv5
      clear hfol5 hpf5 hP5 hv5
      go_wp2_with fail
      go_ret
      refine ⟨hb5, rfl, Nf.BoolsT.of Hv5.out fun x hx => ?_, Hbel5.out⟩
      rw [Hv5.out.cell hx, Nf.bl_decide]
      congr 2
      apply Nf.bl_congr
      rw [Hfol5.out.mem (Nat.le_refl _) x]
      constructor
      · rintro ⟨p, hp, hs⟩
        obtain ⟨r, _, h2, h3⟩ := (HL.out p).1 hp
        exact ⟨p, r, (Nf.rel_be HG.out).1 hs, (HG.out.bm_iff r p).1 h3, h2⟩
      · rintro ⟨p, r, hs, hm, h2⟩
        obtain ⟨s, hs1, hs2⟩ := hm
        exact ⟨p, (HL.out p).2 ⟨r, by rw [HqN.out]; exact HG.out.ok.to_ _ hs2, h2, (HG.out.bm_iff r p).2 ⟨s, hs1, hs2⟩⟩, (Nf.rel_be HG.out).2 hs⟩

end Go.Proofs.Ytnaojfhhjknejaa

/-
  The walks of begin, live, Equal of bools, hasFrom.
-/
set_option linter.unusedVariables false
namespace Go.Proofs.Ytnaojfhhjknejaa
open Go.RowKit

/-- A list of states, each once. -/
def Nf.ListPost (N : Nat) (S : Nat → Prop) (w : World) (e : Ending) (w' : World) : Prop :=
  ∃ v L, e = .returned v ∧ w'.ownsRow w.heap.size 3 1 v (List.length L) (L.map Nf.num) ∧ Nf.Pool N L ∧ (∀ q, q ∈ L ↔ S q) ∧ Below w.heap.size w w'

set_option maxHeartbeats 1000000 in
set_option maxRecDepth 100000 in
theorem begin_any (w : World) (gb : Nat) (v : Nf.Gv) (g : Nf.Gr) (hG : Nf.GrAt w gb v g) :
    Calls Try.prog 40 #[.pointer (some ⟨gb, 0, none⟩)] w (Nf.ListPost g.N (Nf.Beg g) w) := by
  obtain ⟨i0, hi, hz0, hz1, hz2⟩ := info_parts Nf.boolInfo
  have hN := hG.small
  have hB := hG.blk
  have hpos := hG.ok.pos
  have c1 : w.cell? ⟨gb, 1, none⟩ = some (.slice (some ⟨v.eb, 0, none⟩) g.N g.N) := Nf.blk_cell (i := 1) hB rfl
  have hgl := Nf.blk_lt hB
  have HG := Sp.hid hG
  have Hp0 := Sp.hid (Nf.pool_new w g.N (by omega))
  clear hG hB
  go_enter Try.func40, Try.ntmps40
  go_wp2_with (at_make; refine wpList_make_row _ rfl _ _ 47 rfl 4 i0 (.bool false) Try.underlying47 hi hz0 hz1 rfl _ _ g.N rfl rfl ?c1 ?c2 ?_)
  case c1 => rw [hz2]; omega
  case c2 => omega
  have b0 : Below w.heap.size w ((w.alloc (.cells (madeCells #[.bool false] g.N) 4)).alloc (.cells #[.slice (some ⟨w.heap.size, 0, none⟩) g.N g.N, .slice none 0 0] 99)) := ((Below.refl _ w).alloc (Nat.le_refl _) _).alloc (by simp) _
  obtain ⟨w1, hw1⟩ : ∃ w1, ((w.alloc (.cells (madeCells #[.bool false] g.N) 4)).alloc (.cells #[.slice (some ⟨w.heap.size, 0, none⟩) g.N g.N, .slice none 0 0] 99)) = w1 := ⟨_, rfl⟩
  rw [hw1] at b0 Hp0 ⊢
  have HA := Sp.hid (show Calls Try.prog 51 #[.pointer (some ⟨w.heap.size + 1, 0, none⟩), .int .i64 (0 : Int)] w1 _ from add_any w.heap.size (w.heap.size + 1) g.N 0 [] w1 Hp0.out hpos b0.size)
  have B0 := Sp.hid b0
  clear hw1 b0
  refine HA.out.mono ?_
  rintro e w2 ⟨rfl, hpool2, hpf2⟩
  have hbel2 := B0.out.trans hpf2.below
  have hsz := hbel2.size
  have hG2 := HG.out.below hbel2
  have c3 : w2.cell? ⟨gb, 3, none⟩ = some (.slice (some ⟨v.xb, 0, none⟩) g.N g.N) := Nf.blk_cell (i := 3) hG2.blk rfl
  have hpl : Nf.PoolAt (w2.alloc (.cells #[.slice (some ⟨v.xb, 0, none⟩) g.N g.N] 64)) w.heap.size (w.heap.size + 1) g.N (Nf.ins [] 0) := hpool2.alloc _
  have hbl : Below w.heap.size w (w2.alloc (.cells #[.slice (some ⟨v.xb, 0, none⟩) g.N g.N] 64)) := hbel2.alloc hsz _
  have hsq : Nf.Seq (Nf.tabVal g.N) (w2.alloc (.cells #[.slice (some ⟨v.xb, 0, none⟩) g.N g.N] 64)) (some ⟨w2.heap.size, 0, none⟩) 1 [⟨v.xb, v.Em⟩] := Nf.seq_one (Nf.tabVal g.N) w2 ⟨v.xb, v.Em⟩ 64
  have hsafe : ∀ a, some (⟨w2.heap.size, 0, none⟩ : Addr) = some a → 0 < 1 → Nf.Safe w.heap.size (w2.alloc (.cells #[.slice (some ⟨v.xb, 0, none⟩) g.N g.N] 64)) a.block := fun a ha _ => by
    cases ha
    exact .inr ⟨_, _, _, Nf.Below.heap_new _ _, by unfold Nf.Kind; decide⟩
  have HF := Sp.hid (follow_any w _ (w.heap.size + 1) g.N (Nf.ins [] 0) [⟨v.xb, v.Em⟩] (some ⟨w2.heap.size, 0, none⟩) 1 1 hbl hpl hsq hsafe (by omega) (by intro t ht; simp at ht; subst ht; exact HG.out.emp) (by intro t ht; simp at ht; subst ht; exact HG.out.em_lt))
  have HB := Sp.hid hbl
  clear hsafe hG2 hpl hbl hsq hpool2 hpf2 hbel2
  go_wp2_with fail
  refine HF.out.mono ?_
  rintro e w5 ⟨rfl, hpf5, L5, hpool5, hfol5⟩
  have Hfol5 := Sp.hid hfol5
  have Hbel5 := Sp.hid (HB.out.trans hpf5.below)
  obtain ⟨hp5, _, _, hb5, lv5, _, hP5, _, how5⟩ := hpool5
  have hL5 := hp5.len
  obtain ⟨lo5, lcap5, rfl, hseq5, hlc5⟩ := Nf.seq_of_own how5 (by unfold maxLen; omega)
  have c6 : w5.cell? ⟨w.heap.size + 1, 1, none⟩ = some (.slice lo5 L5.length lcap5) := Nf.blk_cell (i := 1) hP5 rfl
  have Hseq5 := Sp.hid how5
  have Hp5 := Sp.hid hp5
  clear hfol5 hpf5 hP5 how5 hseq5 hp5
  go_wp2_with fail
  go_ret
  refine ⟨_, L5, rfl, Hseq5.out, Hp5.out, fun x => ?_, Hbel5.out⟩
  rw [Hfol5.out.mem (Nat.le_refl _) x]
  constructor
  · rintro ⟨p, hp, hs⟩
    have : p = 0 := by simpa [Nf.ins] using hp
    subst this
    exact ⟨0, rfl, (Nf.rel_em HG.out).1 hs⟩
  · rintro ⟨p, hp, hs⟩
    subst hp
    exact ⟨0, by simp [Nf.ins], (Nf.rel_em HG.out).2 hs⟩

set_option maxHeartbeats 1000000 in
set_option maxRecDepth 100000 in
theorem live_any (w : World) (gb : Nat) (v : Nf.Gv) (g : Nf.Gr) (hG : Nf.GrAt w gb v g) :
    Calls Try.prog 15 #[.pointer (some ⟨gb, 0, none⟩)] w (Nf.SetPost g.N (Nf.Live g) w) := by
  have hB := hG.blk
  have c5 : w.cell? ⟨gb, 5, none⟩ = some (.slice (some ⟨v.zb, 0, none⟩) g.N g.N) := Nf.blk_cell (i := 5) hB rfl
  have c4 : w.cell? ⟨gb, 4, none⟩ = some (.slice (some ⟨v.yb, 0, none⟩) g.N g.N) := Nf.blk_cell (i := 4) hB rfl
  have hz := Nf.blk_lt hB
  have bw : Below w.heap.size w (w.alloc (.cells #[.slice (some ⟨v.zb, 0, none⟩) g.N g.N, .slice (some ⟨v.yb, 0, none⟩) g.N g.N] 64)).drew := ((Below.refl _ w).alloc (Nat.le_refl _) _).drew
  have hsq : Nf.Seq (Nf.tabVal g.N) (w.alloc (.cells #[.slice (some ⟨v.zb, 0, none⟩) g.N g.N, .slice (some ⟨v.yb, 0, none⟩) g.N g.N] 64)).drew (some ⟨w.heap.size, 0, none⟩) 2 [⟨v.zb, v.Be⟩, ⟨v.yb, v.Bm⟩] := by
    refine ⟨rfl, by decide, fun _ => ⟨_, _, rfl, fun i y hy => ?_⟩⟩
    match i, hy with
    | 0, hy => simp at hy; subst hy; simp [Nf.tabVal]
    | 1, hy => simp at hy; subst hy; simp [Nf.tabVal]
  have HK0 := Sp.hid (back_any _ gb v g [⟨v.zb, v.Be⟩, ⟨v.yb, v.Bm⟩] (some ⟨w.heap.size, 0, none⟩) 2 2 (hG.below bw) hsq (by omega)
    (by intro t ht; simp at ht; rcases ht with rfl | rfl; exact hG.bem.below bw; exact hG.bmv.below bw) (by intro t ht; simp at ht; rcases ht with rfl | rfl; exact hG.be_lt; exact hG.bm_lt))
  have Bw := Sp.hid bw
  have HK := Sp.hid (HK0.out.mono (R' := fun e w' => ∃ hb, e = .returned (.slice (some ⟨hb, 0, none⟩) g.N g.N) ∧ Nf.BoolsT w' hb g.N (fun q => ∃ p, p ∈ g.ends ∧ Nf.Star (Nf.Rel [v.Be, v.Bm]) p q) ∧ RowKit.Hid (Below w.heap.size w w') ∧ w'.cell? ⟨gb, 5, none⟩ = some (.slice (some ⟨v.zb, 0, none⟩) g.N g.N) ∧ w'.cell? ⟨gb, 4, none⟩ = some (.slice (some ⟨v.yb, 0, none⟩) g.N g.N)) (fun e w' ⟨hb, he, h1, h2⟩ =>
    have hbb := Bw.out.trans (h2.mono Bw.out.size)
    ⟨hb, he, h1, hbb, by rw [hbb.cell (p := ⟨gb, 5, none⟩) hz]; exact c5, by rw [hbb.cell (p := ⟨gb, 4, none⟩) hz]; exact c4⟩))
  have HG := Sp.hid hG
  clear hG hB bw hsq hz
  go_enter Try.func15, Try.ntmps15
  go_wp2_with fail
  go_region_held3 (fun w' => w'.cell? ⟨gb, 5, none⟩ = some (.slice (some ⟨v.zb, 0, none⟩) g.N g.N) ∧ w'.cell? ⟨gb, 4, none⟩ = some (.slice (some ⟨v.yb, 0, none⟩) g.N g.N)) (go_keep) ((go_at_call 28; refine HK.out.mono ?_; rintro e w' ⟨hb, rfl, hS, Hbel, d5, d4⟩; have HS := Sp.hid hS; clear hS))
  all_goals
    clear d5 d4
    go_wp2_with fail
    go_ret
    refine ⟨hb, rfl, HS.out.congr fun q hq => ?_, Hbel.out⟩
    constructor
    · rintro ⟨p, hp, hs⟩; exact ⟨p, hp, (Nf.rel_any HG.out).1 hs⟩
    · rintro ⟨p, hp, hs⟩; exact ⟨p, hp, (Nf.rel_any HG.out).2 hs⟩

/-- Two rows of bools are alike. -/
def Nf.EqPost (p : Prop) (w : World) (e : Ending) (w' : World) : Prop := e = .returned (.bool (Nf.bl p)) ∧ Below w.heap.size w w'

set_option maxHeartbeats 1000000 in
set_option maxRecDepth 100000 in
theorem equalB_any (w : World) (a b N : Nat) (S T : Nat → Prop) (hN : N ≤ 3000) (hS : Nf.BoolsAt w a N S) (hT : Nf.BoolsAt w b N T) :
    Calls Try.prog 35 #[.slice (some ⟨a, 0, none⟩) N N, .slice (some ⟨b, 0, none⟩) N N] w (Nf.EqPost (∀ q, q < N → (S q ↔ T q)) w) := by
  have HS := Sp.hid hS
  have HT := Sp.hid hT
  clear hS hT
  have hNN : ((N : Int) != N) = false := by simp
  go_enter Try.func35, Try.ntmps35
  go_wp2_with fail
  go_loopw [5, 13] (fun _ i wr => ∃ q : Nat, i = .int .i64 q ∧ q ≤ N ∧ (∀ x, x < q → (S x ↔ T x)) ∧ Below w.heap.size w wr) (fun _ i _ => N - (intOf i).toNat)
  case atStart => exact ⟨0, rfl, Nat.zero_le _, fun x hx => absurd hx (by omega), Below.refl _ _⟩
  case round =>
    obtain ⟨q, rfl, hq, hall, hbel⟩ := hrel
    have Hall := Sp.hid hall
    have Hbel := Sp.hid hbel
    clear hall hbel
    by_cases hqn : q < N
    · have c1 := (HS.out.below Hbel.out) q hqn
      have c2 := (HT.out.below Hbel.out) q hqn
      have i1 : (0 : Int) ≤ (q : Int) := by omega
      have i2 : (q : Int) < (N : Int) := by omega
      by_cases he : S q ↔ T q
      · have hb := Nf.bl_congr he
        rw [← hb] at c2
        obtain ⟨x, hx⟩ : ∃ x, Nf.bl (S q) = x := ⟨_, rfl⟩
        rw [hx] at c1 c2
        have He := Sp.hid he
        have hxx : (x != x) = false := by simp
        clear he hb hx
        go_wp2_with fail
        go_quiet (fail)
        go_wp2_with fail
        go_roundw
        case rel =>
          refine ⟨q + 1, by go_num, hqn, fun x hx => ?_, below_drewN Hbel.out _⟩
          by_cases e : x = q
          · subst e; exact He.out
          · exact Hall.out x (by omega)
        case measure => simp [intOf]; omega
      · have hf := Sp.hid (show Nf.bl (∀ q, q < N → (S q ↔ T q)) = false from Nf.bl_false fun h => he (h q hqn))
        have hxx : (Nf.bl (S q) != Nf.bl (T q)) = true := by
          simp only [bne_iff_ne, ne_eq]
          intro e
          apply he
          rw [← Nf.bl_iff (p := S q), e, Nf.bl_iff]
        obtain ⟨x, hx⟩ : ∃ x, Nf.bl (S q) = x := ⟨_, rfl⟩
        obtain ⟨y, hy⟩ : ∃ y, Nf.bl (T q) = y := ⟨_, rfl⟩
        rw [hx] at c1 hxx
        rw [hy] at c2 hxx
        clear he hx hy
        cases x <;> cases y
        all_goals first
          | (exact absurd hxx (by decide))
          | (go_wp2_with fail
             go_quiet (fail)
             go_wp2_with fail
             go_ret
             exact ⟨by rw [hf.out]; rfl, below_drewN Hbel.out _⟩)
    · have hf := Sp.hid (show Nf.bl (∀ q, q < N → (S q ↔ T q)) = true from Nf.bl_true fun x hx => Hall.out x (by omega))
      go_wp2_with fail
      go_ret
      exact ⟨by rw [hf.out]; rfl, Hbel.out⟩


theorem Nf.before_congr {g : Nf.Gr} (ok : Nf.Ok g) {S T : Nat → Prop} (h : ∀ q, q < g.N → (S q ↔ T q)) (q : Nat) : Nf.Before g S q ↔ Nf.Before g T q := by
  constructor
  · rintro ⟨p, r, h1, ⟨s, h2, h3⟩, h4⟩; exact ⟨p, r, h1, ⟨s, h2, h3⟩, (h r (ok.to_ _ h3)).1 h4⟩
  · rintro ⟨p, r, h1, ⟨s, h2, h3⟩, h4⟩; exact ⟨p, r, h1, ⟨s, h2, h3⟩, (h r (ok.to_ _ h3)).2 h4⟩
theorem Nf.lg_stable {g : Nf.Gr} (ok : Nf.Ok g) {k : Nat} (h : ∀ q, q < g.N → (Nf.Lg g (k + 1) q ↔ Nf.Lg g k q)) : ∀ j q, q < g.N → (Nf.Lg g (k + j) q ↔ Nf.Lg g k q)
  | 0, q, _ => Iff.rfl
  | j + 1, q, hq => by
    have ih := Nf.lg_stable ok h j
    have h1 : Nf.Lg g (k + (j + 1)) q ↔ Nf.Lg g (k + 1) q := Nf.before_congr ok ih q
    exact h1.trans (h q hq)

set_option maxHeartbeats 1000000 in
set_option maxRecDepth 100000 in
theorem hasFrom_any (w : World) (gb n : Nat) (v : Nf.Gv) (g : Nf.Gr) (hG : Nf.GrAt w gb v g) (hn : n ≤ 3000) :
    Calls Try.prog 21 #[.pointer (some ⟨gb, 0, none⟩), .int .i64 n] w (Nf.EqPost (Nf.Lg g n 0) w) := by
  have HL := Sp.hid (live_any w gb v g hG)
  have hN := hG.small
  have hpos := hG.ok.pos
  have HG := Sp.hid hG
  clear hG
  go_enter Try.func21, Try.ntmps21
  go_wp2_with fail
  refine HL.out.mono ?_
  rintro e w1 ⟨hb, rfl, hS, hbel⟩
  have HS := Sp.hid hS
  have Hbel := Sp.hid hbel
  clear hS hbel
  go_wp2_with fail
  go_loopw [5, 6, 10] (fun mk _ i wr => ∃ (k mb : Nat), i = .int .i64 k ∧ k ≤ n ∧ mk = .slice (some ⟨mb, 0, none⟩) g.N g.N ∧ Nf.BoolsAt wr mb g.N (Nf.Lg g k) ∧ Below w.heap.size w wr) (fun _ _ i _ => n - (intOf i).toNat)
  case atStart => exact ⟨0, hb, rfl, Nat.zero_le _, rfl, HS.out.2, Hbel.out⟩
  case round =>
    obtain ⟨k, mb, rfl, hk, rfl, hM, hbel⟩ := hrel
    have HM := Sp.hid hM
    have Hbl := Sp.hid hbel
    clear hM hbel
    by_cases hkn : k < n
    · have HB := Sp.hid (before_any wr gb mb v g (Nf.Lg g k) (HG.out.below Hbl.out) HM.out)
      go_wp2_with fail
      refine HB.out.mono ?_
      rintro e w2 ⟨fb, rfl, hF, hbel2⟩
      have Hbl2 := Sp.hid (Hbl.out.trans (hbel2.mono Hbl.out.size))
      have HE := Sp.hid (equalB_any w2 fb mb g.N (Nf.Before g (Nf.Lg g k)) (Nf.Lg g k) hN hF.2 (HM.out.below hbel2))
      have HM2 := Sp.hid (HM.out.below hbel2)
      have HF := Sp.hid hF
      clear hF hbel2
      by_cases he : ∀ q, q < g.N → (Nf.Before g (Nf.Lg g k) q ↔ Nf.Lg g k q)
      · have He := Sp.hid (show Nf.bl (∀ q, q < g.N → (Nf.Before g (Nf.Lg g k) q ↔ Nf.Lg g k q)) = true from Nf.bl_true he)
        have hf := Sp.hid (show Nf.bl (Nf.Lg g n 0) = Nf.bl (Nf.Lg g k 0) by
          apply Nf.bl_congr
          have := Nf.lg_stable HG.out.ok he (n - k) 0 hpos
          rwa [show k + (n - k) = n by omega] at this)
        clear he
        go_wp2_with fail
        refine HE.out.mono ?_
        rintro e w3 ⟨rfl, hbel3⟩
        rw [He.out]
        have Hbl3 := Sp.hid (Hbl2.out.trans (hbel3.mono Hbl2.out.size))
        have c0 := (HM2.out.below hbel3) 0 hpos
        obtain ⟨x, hx⟩ : ∃ x, Nf.bl (Nf.Lg g k 0) = x := ⟨_, rfl⟩
        rw [hx] at c0 hf
        clear hbel3 hx
        go_wp2_with fail
        go_ret
        exact ⟨by rw [hf.out]; rfl, Hbl3.out⟩
      · have He := Sp.hid (show Nf.bl (∀ q, q < g.N → (Nf.Before g (Nf.Lg g k) q ↔ Nf.Lg g k q)) = false from Nf.bl_false he)
        clear he
        go_wp2_with fail
        refine HE.out.mono ?_
        rintro e w3 ⟨rfl, hbel3⟩
        rw [He.out]
        have Hbl3 := Sp.hid (Hbl2.out.trans (hbel3.mono Hbl2.out.size))
        have HF3 := Sp.hid (HF.out.2.below hbel3)
        clear hbel3
        go_wp2_with fail
        go_roundw
        case rel => exact ⟨k + 1, fb, by go_num, hkn, rfl, HF3.out, Hbl3.out⟩
        case measure => simp [intOf]; omega
    · have hkn' : k = n := by omega
      have Hkn := Sp.hid hkn'
      have c0 := HM.out 0 hpos
      obtain ⟨x, hx⟩ : ∃ x, Nf.bl (Nf.Lg g k 0) = x := ⟨_, rfl⟩
      rw [hx] at c0
      have Hx := Sp.hid hx
      clear hkn' hx
      go_wp2_with fail
      go_ret
      exact ⟨by rw [← Hkn.out, Hx.out]; rfl, Hbl.out⟩

end Go.Proofs.Ytnaojfhhjknejaa
