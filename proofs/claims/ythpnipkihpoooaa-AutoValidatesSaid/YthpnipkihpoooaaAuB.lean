/-
  The walks of pools: follow.
-/
import Derived.Test.YthpnipkihpoooaaAuA
import Derived.LoopTactic
set_option linter.unusedVariables false
namespace Go.Proofs.Ythpnipkihpoooaa
open Go.RowKit

set_option maxHeartbeats 1000000 in
set_option maxRecDepth 100000 in
theorem follow_any (w0 w : World) (P N : Nat) (l : List Nat) (ts : List Nf.TabV) (ao : Option Addr) (k cap : Nat) (hw : Below w0.heap.size w0 w) (h : Nf.PoolAt w w0.heap.size P N l)
    (hs : Nf.Seq (Nf.tabVal N) w ao k ts) (hsafe : ∀ a, ao = some a → 0 < k → Nf.Safe w0.heap.size w a.block) (hk : k ≤ 100)
    (ht : ∀ t ∈ ts, Nf.TabAt w0 t.B N t.R) (hlt : ∀ t ∈ ts, ∀ p, p < N → ∀ q ∈ t.R p, q < N) :
    Calls Try.prog 94 #[.pointer (some ⟨P, 0, none⟩), .slice ao k cap] w (Nf.FollowPost w0.heap.size P N l ts w) := by
  have Hts := Sp.hid ht
  have Hlt := Sp.hid hlt
  have Hp0 := Sp.hid h
  have Hsafe := Sp.hid hsafe
  have Hs := Sp.hid hs
  have Hlen := Sp.hid hs.1
  have Hstart := Sp.hid (Nf.Fol.start (tabs := ts.map Nf.TabV.R) h.1)
  clear ht hlt h hsafe hs
  go_enter Try.func94, Try.ntmps94
  go_wp2_with fail
  go_loopw [4] (fun i wr => ∃ (j : Nat) (L : List Nat), i = .int .i64 j ∧ Nf.PoolAt wr w0.heap.size P N L ∧ Nf.Fol (ts.map Nf.TabV.R) N l j L ∧ Nf.PF w0.heap.size w wr) (fun i _ => N - (intOf i).toNat)
  case atStart => exact ⟨0, l, rfl, Hp0.out, Hstart.out, Nf.PF.refl _ _⟩
  case round =>
    obtain ⟨j, L, rfl, hpool, hfol, hpf⟩ := hrel
    have Hpool := Sp.hid hpool
    have Hfol := Sp.hid hfol
    have Hpf := Sp.hid hpf
    obtain ⟨hp, hN, hbP, hb, lv, hb1, hP, hv, how⟩ := hpool
    have hL := hp.len
    obtain ⟨lo, lcap, rfl, hseq, hlc⟩ := Nf.seq_of_own how (by unfold maxLen; omega)
    have c1 : wr.cell? ⟨P, 1, none⟩ = some (.slice lo L.length lcap) := Nf.blk_cell (i := 1) hP rfl
    have hjL := hfol.le
    obtain ⟨n, hn⟩ : ∃ n, L.length = n := ⟨_, rfl⟩
    rw [hn] at c1 hL hjL hseq hlc
    have Hn := Sp.hid hn
    have Hseq := Sp.hid hseq
    clear hfol hpf hP hv how hp hseq hn
    by_cases hjn : j < n
    · have hjN : j < N := by omega
      obtain ⟨_, _, p, _, _, hjp, _⟩ := Hseq.out.at hjn
      have Hin := Sp.hid (Hfol.out.at_ hjp)
      have hpN : p < N := Hpool.out.1.lt p (List.mem_of_getElem? hjp)
      obtain ⟨wo, rfl⟩ : ∃ wo : World, wo = wr := ⟨_, rfl⟩
      clear hjp Hseq Hfol
      go_wp2_with fail
      go_loopw [20] (fun x wr => ∃ (t : Nat) (L2 : List Nat), x = .int .i64 t ∧ t ≤ k ∧ Nf.PoolAt wr w0.heap.size P N L2 ∧ Nf.FolIn (ts.map Nf.TabV.R) N l j p t 0 L2 ∧ Nf.PF w0.heap.size w wr) (fun x _ => k - (intOf x).toNat)
      case atStart => exact ⟨0, L, rfl, Nat.zero_le _, Hpool.out, Hin.out, Hpf.out⟩
      case round =>
        obtain ⟨t, L2, rfl, htk, hpool2, hin2, hpf2⟩ := hrel
        have Hpool2 := Sp.hid hpool2
        have Hin2 := Sp.hid hin2
        have Hpf2 := Sp.hid hpf2
        obtain ⟨hp2, hN2, hbP2, hb2, lv2, hb21, hP2, hv2, how2⟩ := hpool2
        have hL2 := hp2.len
        obtain ⟨lo2, lcap2, rfl, hseq2, hlc2⟩ := Nf.seq_of_own how2 (by unfold maxLen; omega)
        have c2 : wr.cell? ⟨P, 1, none⟩ = some (.slice lo2 L2.length lcap2) := Nf.blk_cell (i := 1) hP2 rfl
        have hj2 : j < L2.length := (List.getElem?_eq_some_iff.1 hin2.at_).1
        by_cases htl : t < k
        · obtain ⟨ab, aof, T, rfl, hca, hT, _⟩ := ((Hs.out).safe Hsafe.out Hpf2.out).at htl
          have hTm : T ∈ ts := List.mem_of_getElem? hT
          have hbel2 := hw.trans Hpf2.out.below
          obtain ⟨ro, rn, rcap, hcr0, hrow, hrn⟩ := Hts.out T hTm p hpN
          have hcr : wr.cell? ⟨T.B, p, none⟩ = some (.slice ro rn rcap) := by rw [hbel2.cell (World.block_lt_of_cell? w0 _ hcr0)]; exact hcr0
          obtain ⟨qb, qo, p', rfl, hcl, hp', _⟩ := hseq2.at hj2
          have hpp : p' = p := by have := hin2.at_; rw [hp'] at this; injection this
          subst hpp
          have hTR : (ts.map Nf.TabV.R)[t]? = some T.R := by rw [List.getElem?_map, hT]; rfl
          have HTR := Sp.hid hTR
          have Hrow := Sp.hid hrow
          have Hbel2 := Sp.hid hbel2
          have hqN := Sp.hid (Hlt.out T hTm p' hpN)
          simp only [Nf.tabVal] at hca
          simp only [Nf.num] at hcl
          have hrl := Sp.hid hrow.1
          clear hT hp' hTR hrow hcr0 hin2 hp2 hP2 hv2 how2 hseq2 hbel2
          obtain ⟨wq, rfl⟩ : ∃ wq : World, wq = wr := ⟨_, rfl⟩
          go_wp2_with fail
          go_loopw [35] (fun x wr => ∃ (m : Nat) (L3 : List Nat), x = .int .i64 m ∧ m ≤ rn ∧ Nf.PoolAt wr w0.heap.size P N L3 ∧ Nf.FolIn (ts.map Nf.TabV.R) N l j p' t m L3 ∧ Nf.PF w0.heap.size w wr) (fun x _ => rn - (intOf x).toNat)
          case atStart => exact ⟨0, L2, rfl, Nat.zero_le _, Hpool2.out, Hin2.out, Hpf2.out⟩
          case round =>
            obtain ⟨m, L3, rfl, hmr, hpool3, hin3, hpf3⟩ := hrel
            have Hpool3 := Sp.hid hpool3
            have Hin3 := Sp.hid hin3
            have Hpf3 := Sp.hid hpf3
            have hsz3 := hpf3.below.size
            have hsz0 := hw.size
            clear hpool3 hin3 hpf3
            by_cases hmn : m < rn
            · have hrow4 : Nf.Seq Nf.num wr ro rn (T.R p') := Hrow.out.below (hw.trans Hpf3.out.below)
              obtain ⟨rb, rof, q, rfl, hcq, hq, _⟩ := hrow4.at hmn
              have hqn : q < N := hqN.out q (List.mem_of_getElem? hq)
              have HA := Sp.hid (add_any w0.heap.size P N q L3 wr Hpool3.out hqn (by omega))
              have Hq := Sp.hid hq
              simp only [Nf.num] at hcq
              clear hq hrow4
              go_wp2_with fail
              refine HA.out.mono ?_
              rintro e w5 ⟨rfl, hpool5, hpf5⟩
              have Hpool5 := Sp.hid hpool5
              have Hpf5 := Sp.hid hpf5
              clear hpool5 hpf5
              go_wp2_with fail
              go_roundw
              case rel => exact ⟨m + 1, _, by go_num, hmn, Hpool5.out, Hin3.out.add HTR.out Hq.out hqn, Hpf3.out.trans Hpf5.out⟩
              case measure => simp [intOf]; omega
            · have hmr' : (T.R p').length ≤ m := by have := hrl.out; omega
              have Hin4 := Sp.hid (Hin3.out.next HTR.out hmr')
              clear hmr'
              go_wp2_with fail
              go_roundw
              case rel => exact ⟨t + 1, L3, by go_num, htl, Hpool3.out, Hin4.out, Hpf3.out⟩
              case measure => simp [intOf]; omega
        · have Hr := Sp.hid (Hin2.out.round (by rw [List.length_map, Hlen.out]; omega))
          have hjl3 := hj2
          clear hin2 hp2 hP2 hv2 how2 hseq2
          go_wp2_with fail
          go_roundw
          case rel => exact ⟨j + 1, L2, by go_num, Hpool2.out, Hr.out, Hpf2.out⟩
          case measure => simp [intOf]; omega
    · have hje : j = n := by omega
      have Hje := Sp.hid hje
      clear hje
      go_wp2_with fail
      go_end0
      exact ⟨rfl, Hpf.out, L, Hpool.out, by have := Hfol.out; rwa [Hje.out, ← Hn.out] at this⟩

end Go.Proofs.Ythpnipkihpoooaa
