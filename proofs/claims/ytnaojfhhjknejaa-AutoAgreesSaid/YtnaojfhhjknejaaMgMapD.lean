/-
  The walk of closed.
-/
import Derived.Test.YtnaojfhhjknejaaMgMapBMapC
import Derived.LoopTactic
import Derived.Carry
import Derived.IntWalk
set_option linter.unusedVariables false
set_option linter.unusedSimpArgs false
namespace Go.Proofs.Ytnaojfhhjknejaa
open Go.RowKit
def Nf.lenS : Value → Nat
  | .slice _ n _ => n
  | _ => 0
def Nf.ClPost (w0 : World) (g : Nf.Gr) (S : List Nat) (e : Ending) (w' : World) : Prop :=
  ∃ (b : Nat) (A : List Nat), e = .returned (.map (some b)) ∧ Nf.SetMap w' b A ∧ (∀ q, q ∈ A ↔ Nf.Cl g (· ∈ S) q) ∧ (∀ q ∈ A, q < g.N) ∧ A.length ≤ 3000 ∧ w0.heap.size ≤ b ∧ Below w0.heap.size w0 w'

set_option maxHeartbeats 2000000 in
set_option maxRecDepth 100000 in
theorem closed_any (w0 w : World) (gb : Nat) (v : Nf.Gv) (g : Nf.Gr) (hw : Below w0.heap.size w0 w) (hG : Nf.GrAt w0 gb v g) (S : List Nat) (lo : Option Addr) (cap : Nat) (how : w.ownsRow w0.heap.size 3 1 (.slice lo S.length cap) S.length (S.map Nf.num)) (hS : ∀ q ∈ S, q < g.N) (hn : S.length ≤ 10000000000) :
    Calls Try.prog 30 #[.pointer (some ⟨gb, 0, none⟩), .slice lo S.length cap] w (Nf.ClPost w0 g S) := by
  have HG := Sp.hid hG
  have HN := Sp.hid hG.small
  have Hem := Sp.hid hG.em_lt
  have hcp : Nf.ClPost w0 g S = fun e w' => ∃ (b : Nat) (A : List Nat), e = .returned (.map (some b)) ∧ Nf.SetMap w' b A ∧ (∀ q, q ∈ A ↔ Nf.Cl g (· ∈ S) q) ∧ (∀ q ∈ A, q < g.N) ∧ A.length ≤ 3000 ∧ w0.heap.size ≤ b ∧ Below w0.heap.size w0 w' := rfl
  rw [hcp]
  have Hw := Sp.hid hw
  have HS := Sp.hid (Nf.Cls.begin hS)
  have Hmap := Sp.hid (Nf.SetMap.new w)
  have Hown := Sp.hid (how.alloc (.map #[] 0))
  have Hbw := Sp.hid (hw.alloc hw.size (.map #[] 0))
  have hsz0 := hw.size
  obtain ⟨sl, hsl⟩ : ∃ sl, S.length = sl := ⟨_, rfl⟩
  rw [hsl] at Hown hn ⊢
  have Hsl := Sp.hid hsl
  clear how hS hG hcp hw hsl
  have hmm := @run_makeMap Try.prog
  go_enter Try.func30, Try.ntmps30
  go_wp2_with fail
  go_loopw [1] (fun t wr => ∃ (L A : List Nat) (lo : Option Addr) (n cap : Nat), t = .slice lo n cap ∧ L.length = n ∧ Hid (wr.ownsRow w0.heap.size 3 1 (.slice lo n cap) n (L.map Nf.num)) ∧ Hid (Nf.SetMap wr w.heap.size A) ∧ Hid (Nf.Cls g S L A) ∧ n ≤ sl + A.length * 1000000 ∧ Hid (Below w0.heap.size w0 wr)) (fun t wr => (g.N - Nf.cntIn wr w.heap.size g.N) * 1000001 + Nf.lenS t)
  case atStart => exact ⟨S, [], lo, sl, cap, rfl, Hsl.out, Hown, Hmap, HS, by simp, Hbw⟩
  case round =>
    obtain ⟨L, A, lo1, n1, cap1, rfl, hln, Hown1, Hmap1, Hcls, hbig, Hb1⟩ := hrel
    have hz1 := Hb1.out.size
    rcases List.eq_nil_or_concat L with rfl | ⟨L', q, rfl⟩
    · have h0 : n1 = 0 := by rw [← hln]; rfl
      subst h0
      have HD := Sp.hid Hcls.out.done
      clear hln
      go_wp2_with fail
      go_ret
      exact ⟨_, A, rfl, Hmap1.out, HD.out, Hcls.out.lt_a, by have := Hcls.out.few; have := HN.out; omega, hsz0, Hb1.out⟩
    · rw [List.concat_eq_append] at *
      obtain ⟨n, hn1⟩ : ∃ n, L'.length = n := ⟨_, rfl⟩
      have hnn : n1 = n + 1 := by rw [← hln, List.length_append, hn1]; rfl
      subst hnn
      obtain ⟨lb, cap2, he⟩ := Nf.own_form Hown1.out (by omega)
      injection he with he1 he2 he3
      subst he1 he3
      have hqN : q < g.N := Hcls.out.lt_l q (by simp)
      have cq : wr.cell? ⟨lb, n, none⟩ = some (.int .i64 q) := by
        have h1 := Hown1.out.cells (g := lb) rfl n (.int .i64 q) (by rw [List.map_append, List.getElem?_append_right (by simp [hn1])]; simp [hn1, Nf.num])
        simpa [Nf.plain_add] using h1
      have HownP := Sp.hid (Nf.own_pop (by have h := Hown1.out; rw [List.map_append] at h; exact h))
      have hl := Hmap1.out.look (q := q) (by have := HN.out; omega)
      have hcap : n + 1 ≤ cap1 := by
        rcases Hown1.out.2 with ⟨_, h0⟩ | ⟨g', c', cur', e1, _, _, h1, _⟩
        · omega
        · injection e1 with _ _ e3; omega
      have Hn1 := Sp.hid hn1
      have HNN := HN.out
      have Hfew := Sp.hid Hcls.out.few
      have hn9 : n ≤ 20000000000 := by have := Hfew.out; omega
      have Hbig := Sp.hid hbig
      clear hln hn1 hbig
      by_cases hq : q ∈ A
      · simp only [hq, decide_true] at hl
        have Hcls2 := Sp.hid (Hcls.out.old hq)
        clear hq
        go_wp2_with fail
        go_roundw
        case rel => exact ⟨L', A, some ⟨lb, 0, none⟩, n, cap1, rfl, Hn1.out, HownP, Hmap1, Hcls2, by have := Hbig.out; omega, Hb1⟩
        case measure => simp [Nf.lenS]
      · simp only [hq, decide_false] at hl
        have hA1 : A.length ≤ 1000000 := by have := Hfew.out; omega
        have hq9 : q ≤ 1000000000 := by omega
        have Hq := Sp.hid hq
        have Hblk := Sp.hid HG.out.blk
        have hrow := HG.out.emp q hqN
        obtain ⟨ro, rn, rcap, hcr0, hrow, hrn⟩ := hrow
        have Hcr0 := Sp.hid hcr0
        have Hrow := Sp.hid hrow
        have Hrl := Sp.hid hrow.1
        clear hq hcr0 hrow
        go_wp2_with (first
          | (at_mapUpdate; refine Nf.set_put rfl _ _ _ rfl q rfl rfl rfl Hmap1.out hA1 hq9 ?_; intro w2 hm2 hg2
             have Hb2 : Hid (Below w0.heap.size w0 w2) := Sp.hid (Hb1.out.grown hg2 hz1 (fun k hk => by cases hk; exact hsz0))
             have c3 : w2.cell? ⟨gb, 3, none⟩ = some (.slice (some ⟨v.xb, 0, none⟩) g.N g.N) := Nf.blk_cell (i := 3) (Nf.blk_below Hblk.out Hb2.out (Nf.blk_lt Hblk.out)) rfl
             have hcr : w2.cell? ⟨v.xb, q, none⟩ = some (.slice ro rn rcap) := by rw [Hb2.out.cell (World.block_lt_of_cell? w0 _ Hcr0.out)]; exact Hcr0.out
             have HownP2 := Sp.hid (HownP.out.kept hg2 (Or.inr (fun e => Hmap1.out.ne Hown1.out (by simpa [Value.ownBlock] using e.symm))))
             have Hm2 := Sp.hid hm2
             have hz2 := Hb2.out.size
             clear hm2 hg2)
          | (at_builtin; refine Nf.push_row rfl _ _ rfl w0.heap.size (.slice (some ⟨lb, 0, none⟩) n cap1) L' rfl ?c1 (v.Em q) ro rn rcap rfl ?c2 ?c3 ?c4 ?_)
          | fail)
        case c1 => rw [Hn1.out]; exact HownP2.out
        case c2 => exact Hrow.out.below (Hb2.out)
        case c3 => rw [Hn1.out]; omega
        intro v3 w3 hown3 hg3
        have hown4 : w3.ownsRow w0.heap.size 3 1 v3 (L' ++ v.Em q).length ((L' ++ v.Em q).map Nf.num) := by simpa using hown3
        have hL4 : (L' ++ v.Em q).length = n + rn := by rw [List.length_append, Hn1.out, Hrl.out]
        obtain ⟨ao4, cap4, rfl, _, hc4⟩ := Nf.seq_of_own hown4 (by rw [hL4]; unfold maxLen; omega)
        rw [hL4] at hown4 hc4 ⊢
        have hgo : w0.heap.size ≤ w2.heap.size := hz2
        have Hb3 : Hid (Below w0.heap.size w0 w3) := Sp.hid (Hb2.out.grown hg3 hgo (fun k hk => (HownP2.out.lt k hk).1))
        have Hm3 : Hid (Nf.SetMap w3 w.heap.size (A ++ [q])) := Sp.hid (Hm2.out.kept hg3 (Hm2.out.ne HownP2.out))
        have Hown4 := Sp.hid hown4
        have HL4 := Sp.hid hL4
        clear hown3 hg3 hown4 hL4
        go_wp2_with fail
        go_roundw
        case rel => exact ⟨L' ++ v.Em q, A ++ [q], ao4, n + rn, cap4, rfl, HL4.out, Hown4, Hm3, Sp.hid (Hcls.out.new Hq.out (HG.out.em_iff q) (Hem.out q hqN)), by have := Hbig.out; simp; omega, Hb3⟩
        case measure =>
          rw [Nf.cntIn_eq Hm3.out, Nf.cntIn_eq Hmap1.out, Nf.cnt_snoc _ _ hqN Hq.out]
          have h1 := Nf.cnt_le (A ++ [q]) g.N
          rw [Nf.cnt_snoc _ _ hqN Hq.out] at h1
          simp only [Nf.lenS]
          omega
end Go.Proofs.Ytnaojfhhjknejaa
