/-
  The walks of begin, live, Equal of bools, hasFrom.
-/
import Derived.Test.YthpnipkihpoooaaAuC
import Derived.Deep.RegionHeld3
import Derived.Deep.DrawnRows
import Derived.Deep.QuietTactic
import Derived.BigQuiet
set_option linter.unusedVariables false
namespace Go.Proofs.Ythpnipkihpoooaa
open Go.RowKit

/-- A list of states, each once. -/
def Nf.ListPost (N : Nat) (S : Nat → Prop) (w : World) (e : Ending) (w' : World) : Prop :=
  ∃ v L, e = .returned v ∧ w'.ownsRow w.heap.size 3 1 v (List.length L) (L.map Nf.num) ∧ Nf.Pool N L ∧ (∀ q, q ∈ L ↔ S q) ∧ Below w.heap.size w w'

set_option maxHeartbeats 1000000 in
set_option maxRecDepth 100000 in
theorem begin_any (w : World) (gb : Nat) (v : Nf.Gv) (g : Nf.Gr) (hG : Nf.GrAt w gb v g) :
    Calls Try.prog 79 #[.pointer (some ⟨gb, 0, none⟩)] w (Nf.ListPost g.N (Nf.Beg g) w) := by
  obtain ⟨i0, hi, hz0, hz1, hz2⟩ := info_parts Nf.boolInfo
  have hN := hG.small
  have hB := hG.blk
  have hpos := hG.ok.pos
  have c1 : w.cell? ⟨gb, 1, none⟩ = some (.slice (some ⟨v.eb, 0, none⟩) g.N g.N) := Nf.blk_cell (i := 1) hB rfl
  have hgl := Nf.blk_lt hB
  have HG := Sp.hid hG
  have Hp0 := Sp.hid (Nf.pool_new w g.N (by omega))
  clear hG hB
  go_enter Try.func79, Try.ntmps79
  go_wp2_with (at_make; refine wpList_make_row _ rfl _ _ 65 rfl 4 i0 (.bool false) Try.underlying65 hi hz0 hz1 rfl _ _ g.N rfl rfl ?c1 ?c2 ?_)
  case c1 => rw [hz2]; omega
  case c2 => omega
  have b0 : Below w.heap.size w ((w.alloc (.cells (madeCells #[.bool false] g.N) 4)).alloc (.cells #[.slice (some ⟨w.heap.size, 0, none⟩) g.N g.N, .slice none 0 0] 128)) := ((Below.refl _ w).alloc (Nat.le_refl _) _).alloc (by simp) _
  obtain ⟨w1, hw1⟩ : ∃ w1, ((w.alloc (.cells (madeCells #[.bool false] g.N) 4)).alloc (.cells #[.slice (some ⟨w.heap.size, 0, none⟩) g.N g.N, .slice none 0 0] 128)) = w1 := ⟨_, rfl⟩
  rw [hw1] at b0 Hp0 ⊢
  have HA := Sp.hid (show Calls Try.prog 93 #[.pointer (some ⟨w.heap.size + 1, 0, none⟩), .int .i64 (0 : Int)] w1 _ from add_any w.heap.size (w.heap.size + 1) g.N 0 [] w1 Hp0.out hpos b0.size)
  have B0 := Sp.hid b0
  clear hw1 b0
  refine HA.out.mono ?_
  rintro e w2 ⟨rfl, hpool2, hpf2⟩
  have hbel2 := B0.out.trans hpf2.below
  have hsz := hbel2.size
  have hG2 := HG.out.below hbel2
  have c3 : w2.cell? ⟨gb, 3, none⟩ = some (.slice (some ⟨v.xb, 0, none⟩) g.N g.N) := Nf.blk_cell (i := 3) hG2.blk rfl
  have hpl : Nf.PoolAt (w2.alloc (.cells #[.slice (some ⟨v.xb, 0, none⟩) g.N g.N] 67)) w.heap.size (w.heap.size + 1) g.N (Nf.ins [] 0) := hpool2.alloc _
  have hbl : Below w.heap.size w (w2.alloc (.cells #[.slice (some ⟨v.xb, 0, none⟩) g.N g.N] 67)) := hbel2.alloc hsz _
  have hsq : Nf.Seq (Nf.tabVal g.N) (w2.alloc (.cells #[.slice (some ⟨v.xb, 0, none⟩) g.N g.N] 67)) (some ⟨w2.heap.size, 0, none⟩) 1 [⟨v.xb, v.Em⟩] := Nf.seq_one (Nf.tabVal g.N) w2 ⟨v.xb, v.Em⟩ 67
  have hsafe : ∀ a, some (⟨w2.heap.size, 0, none⟩ : Addr) = some a → 0 < 1 → Nf.Safe w.heap.size (w2.alloc (.cells #[.slice (some ⟨v.xb, 0, none⟩) g.N g.N] 67)) a.block := fun a ha _ => by
    cases ha
    exact .inr ⟨_, _, _, Nf.Below.heap_new _ _, by unfold Nf.Kind; decide⟩
  have HF := Sp.hid (follow_any w _ (w.heap.size + 1) g.N (Nf.ins [] 0) [⟨v.xb, v.Em⟩] (some ⟨w2.heap.size, 0, none⟩) 1 1 hbl hpl hsq hsafe (by omega) (by intro t ht; simp at ht; subst ht; exact HG.out.emp) (by intro t ht; simp at ht; subst ht; exact HG.out.em_lt))
  have HB := Sp.hid hbl
  clear hsafe hG2 hpl hbl hsq hpool2 hpf2 hbel2
  go_wp2_with fail
  refine HF.out.mono ?_
  rintro e w5 ⟨rfl, hpf5, L5, hpool5, hfol5⟩
  have Hfol5 := Sp.hid hfol5
  have Hbel5 := Sp.hid (HB.out.trans hpf5.below)
  obtain ⟨hp5, _, _, hb5, lv5, _, hP5, _, how5⟩ := hpool5
  have hL5 := hp5.len
  obtain ⟨lo5, lcap5, rfl, hseq5, hlc5⟩ := Nf.seq_of_own how5 (by unfold maxLen; omega)
  have c6 : w5.cell? ⟨w.heap.size + 1, 1, none⟩ = some (.slice lo5 L5.length lcap5) := Nf.blk_cell (i := 1) hP5 rfl
  have Hseq5 := Sp.hid how5
  have Hp5 := Sp.hid hp5
  clear hfol5 hpf5 hP5 how5 hseq5 hp5
  go_wp2_with fail
  go_ret
  refine ⟨_, L5, rfl, Hseq5.out, Hp5.out, fun x => ?_, Hbel5.out⟩
  rw [Hfol5.out.mem (Nat.le_refl _) x]
  constructor
  · rintro ⟨p, hp, hs⟩
    have : p = 0 := by simpa [Nf.ins] using hp
    subst this
    exact ⟨0, rfl, (Nf.rel_em HG.out).1 hs⟩
  · rintro ⟨p, hp, hs⟩
    subst hp
    exact ⟨0, by simp [Nf.ins], (Nf.rel_em HG.out).2 hs⟩

set_option maxHeartbeats 1000000 in
set_option maxRecDepth 100000 in
theorem live_any (w : World) (gb : Nat) (v : Nf.Gv) (g : Nf.Gr) (hG : Nf.GrAt w gb v g) :
    Calls Try.prog 45 #[.pointer (some ⟨gb, 0, none⟩)] w (Nf.SetPost g.N (Nf.Live g) w) := by
  have hB := hG.blk
  have c5 : w.cell? ⟨gb, 5, none⟩ = some (.slice (some ⟨v.zb, 0, none⟩) g.N g.N) := Nf.blk_cell (i := 5) hB rfl
  have c4 : w.cell? ⟨gb, 4, none⟩ = some (.slice (some ⟨v.yb, 0, none⟩) g.N g.N) := Nf.blk_cell (i := 4) hB rfl
  have hz := Nf.blk_lt hB
  have bw : Below w.heap.size w (w.alloc (.cells #[.slice (some ⟨v.zb, 0, none⟩) g.N g.N, .slice (some ⟨v.yb, 0, none⟩) g.N g.N] 67)).drew := ((Below.refl _ w).alloc (Nat.le_refl _) _).drew
  have hsq : Nf.Seq (Nf.tabVal g.N) (w.alloc (.cells #[.slice (some ⟨v.zb, 0, none⟩) g.N g.N, .slice (some ⟨v.yb, 0, none⟩) g.N g.N] 67)).drew (some ⟨w.heap.size, 0, none⟩) 2 [⟨v.zb, v.Be⟩, ⟨v.yb, v.Bm⟩] := by
    refine ⟨rfl, by decide, fun _ => ⟨_, _, rfl, fun i y hy => ?_⟩⟩
    match i, hy with
    | 0, hy => simp at hy; subst hy; simp [Nf.tabVal]
    | 1, hy => simp at hy; subst hy; simp [Nf.tabVal]
  have HK0 := Sp.hid (back_any _ gb v g [⟨v.zb, v.Be⟩, ⟨v.yb, v.Bm⟩] (some ⟨w.heap.size, 0, none⟩) 2 2 (hG.below bw) hsq (by omega)
    (by intro t ht; simp at ht; rcases ht with rfl | rfl; exact hG.bem.below bw; exact hG.bmv.below bw) (by intro t ht; simp at ht; rcases ht with rfl | rfl; exact hG.be_lt; exact hG.bm_lt))
  have Bw := Sp.hid bw
  have HK := Sp.hid (HK0.out.mono (R' := fun e w' => ∃ hb, e = .returned (.slice (some ⟨hb, 0, none⟩) g.N g.N) ∧ Nf.BoolsT w' hb g.N (fun q => ∃ p, p ∈ g.ends ∧ Nf.Star (Nf.Rel [v.Be, v.Bm]) p q) ∧ RowKit.Hid (Below w.heap.size w w') ∧ w'.cell? ⟨gb, 5, none⟩ = some (.slice (some ⟨v.zb, 0, none⟩) g.N g.N) ∧ w'.cell? ⟨gb, 4, none⟩ = some (.slice (some ⟨v.yb, 0, none⟩) g.N g.N)) (fun e w' ⟨hb, he, h1, h2⟩ =>
    have hbb := Bw.out.trans (h2.mono Bw.out.size)
    ⟨hb, he, h1, hbb, by rw [hbb.cell (p := ⟨gb, 5, none⟩) hz]; exact c5, by rw [hbb.cell (p := ⟨gb, 4, none⟩) hz]; exact c4⟩))
  have HG := Sp.hid hG
  clear hG hB bw hsq hz
  go_enter Try.func45, Try.ntmps45
  go_wp2_with fail
  go_region_held3 (fun w' => w'.cell? ⟨gb, 5, none⟩ = some (.slice (some ⟨v.zb, 0, none⟩) g.N g.N) ∧ w'.cell? ⟨gb, 4, none⟩ = some (.slice (some ⟨v.yb, 0, none⟩) g.N g.N)) (go_keep) ((go_at_call 68; refine HK.out.mono ?_; rintro e w' ⟨hb, rfl, hS, Hbel, d5, d4⟩; have HS := Sp.hid hS; clear hS))
  all_goals
    clear d5 d4
    go_wp2_with fail
    go_ret
    refine ⟨hb, rfl, HS.out.congr fun q hq => ?_, Hbel.out⟩
    constructor
    · rintro ⟨p, hp, hs⟩; exact ⟨p, hp, (Nf.rel_any HG.out).1 hs⟩
    · rintro ⟨p, hp, hs⟩; exact ⟨p, hp, (Nf.rel_any HG.out).2 hs⟩

/-- Two rows of bools are alike. -/
def Nf.EqPost (p : Prop) (w : World) (e : Ending) (w' : World) : Prop := e = .returned (.bool (Nf.bl p)) ∧ Below w.heap.size w w'

set_option maxHeartbeats 1000000 in
set_option maxRecDepth 100000 in
theorem equalB_any (w : World) (a b N : Nat) (S T : Nat → Prop) (hN : N ≤ 3000) (hS : Nf.BoolsAt w a N S) (hT : Nf.BoolsAt w b N T) :
    Calls Try.prog 74 #[.slice (some ⟨a, 0, none⟩) N N, .slice (some ⟨b, 0, none⟩) N N] w (Nf.EqPost (∀ q, q < N → (S q ↔ T q)) w) := by
  have HS := Sp.hid hS
  have HT := Sp.hid hT
  clear hS hT
  have hNN : ((N : Int) != N) = false := by simp
  go_enter Try.func74, Try.ntmps74
  go_wp2_with fail
  go_loopw [5, 13] (fun _ i wr => ∃ q : Nat, i = .int .i64 q ∧ q ≤ N ∧ (∀ x, x < q → (S x ↔ T x)) ∧ Below w.heap.size w wr) (fun _ i _ => N - (intOf i).toNat)
  case atStart => exact ⟨0, rfl, Nat.zero_le _, fun x hx => absurd hx (by omega), Below.refl _ _⟩
  case round =>
    obtain ⟨q, rfl, hq, hall, hbel⟩ := hrel
    have Hall := Sp.hid hall
    have Hbel := Sp.hid hbel
    clear hall hbel
    by_cases hqn : q < N
    · have c1 := (HS.out.below Hbel.out) q hqn
      have c2 := (HT.out.below Hbel.out) q hqn
      have i1 : (0 : Int) ≤ (q : Int) := by omega
      have i2 : (q : Int) < (N : Int) := by omega
      by_cases he : S q ↔ T q
      · have hb := Nf.bl_congr he
        rw [← hb] at c2
        obtain ⟨x, hx⟩ : ∃ x, Nf.bl (S q) = x := ⟨_, rfl⟩
        rw [hx] at c1 c2
        have He := Sp.hid he
        have hxx : (x != x) = false := by simp
        clear he hb hx
        go_wp2_with fail
        go_quiet (fail)
        go_wp2_with fail
        go_roundw
        case rel =>
          refine ⟨q + 1, by go_num, hqn, fun x hx => ?_, below_drewN Hbel.out _⟩
          by_cases e : x = q
          · subst e; exact He.out
          · exact Hall.out x (by omega)
        case measure => simp [intOf]; omega
      · have hf := Sp.hid (show Nf.bl (∀ q, q < N → (S q ↔ T q)) = false from Nf.bl_false fun h => he (h q hqn))
        have hxx : (Nf.bl (S q) != Nf.bl (T q)) = true := by
          simp only [bne_iff_ne, ne_eq]
          intro e
          apply he
          rw [← Nf.bl_iff (p := S q), e, Nf.bl_iff]
        obtain ⟨x, hx⟩ : ∃ x, Nf.bl (S q) = x := ⟨_, rfl⟩
        obtain ⟨y, hy⟩ : ∃ y, Nf.bl (T q) = y := ⟨_, rfl⟩
        rw [hx] at c1 hxx
        rw [hy] at c2 hxx
        clear he hx hy
        cases x <;> cases y
        all_goals first
          | (exact absurd hxx (by decide))
          | (go_wp2_with fail
             go_quiet (fail)
             go_wp2_with fail
             go_ret
             exact ⟨by rw [hf.out]; rfl, below_drewN Hbel.out _⟩)
    · have hf := Sp.hid (show Nf.bl (∀ q, q < N → (S q ↔ T q)) = true from Nf.bl_true fun x hx => Hall.out x (by omega))
      go_wp2_with fail
      go_ret
      exact ⟨by rw [hf.out]; rfl, Hbel.out⟩


theorem Nf.before_congr {g : Nf.Gr} (ok : Nf.Ok g) {S T : Nat → Prop} (h : ∀ q, q < g.N → (S q ↔ T q)) (q : Nat) : Nf.Before g S q ↔ Nf.Before g T q := by
  constructor
  · rintro ⟨p, r, h1, ⟨s, h2, h3⟩, h4⟩; exact ⟨p, r, h1, ⟨s, h2, h3⟩, (h r (ok.to_ _ h3)).1 h4⟩
  · rintro ⟨p, r, h1, ⟨s, h2, h3⟩, h4⟩; exact ⟨p, r, h1, ⟨s, h2, h3⟩, (h r (ok.to_ _ h3)).2 h4⟩
theorem Nf.lg_stable {g : Nf.Gr} (ok : Nf.Ok g) {k : Nat} (h : ∀ q, q < g.N → (Nf.Lg g (k + 1) q ↔ Nf.Lg g k q)) : ∀ j q, q < g.N → (Nf.Lg g (k + j) q ↔ Nf.Lg g k q)
  | 0, q, _ => Iff.rfl
  | j + 1, q, hq => by
    have ih := Nf.lg_stable ok h j
    have h1 : Nf.Lg g (k + (j + 1)) q ↔ Nf.Lg g (k + 1) q := Nf.before_congr ok ih q
    exact h1.trans (h q hq)

set_option maxHeartbeats 1000000 in
set_option maxRecDepth 100000 in
theorem hasFrom_any (w : World) (gb n : Nat) (v : Nf.Gv) (g : Nf.Gr) (hG : Nf.GrAt w gb v g) (hn : n ≤ 3000) :
    Calls Try.prog 50 #[.pointer (some ⟨gb, 0, none⟩), .int .i64 n] w (Nf.EqPost (Nf.Lg g n 0) w) := by
  have HL := Sp.hid (live_any w gb v g hG)
  have hN := hG.small
  have hpos := hG.ok.pos
  have HG := Sp.hid hG
  clear hG
  go_enter Try.func50, Try.ntmps50
  go_wp2_with fail
  refine HL.out.mono ?_
  rintro e w1 ⟨hb, rfl, hS, hbel⟩
  have HS := Sp.hid hS
  have Hbel := Sp.hid hbel
  clear hS hbel
  go_wp2_with fail
  go_loopw [5, 6, 10] (fun mk _ i wr => ∃ (k mb : Nat), i = .int .i64 k ∧ k ≤ n ∧ mk = .slice (some ⟨mb, 0, none⟩) g.N g.N ∧ Nf.BoolsAt wr mb g.N (Nf.Lg g k) ∧ Below w.heap.size w wr) (fun _ _ i _ => n - (intOf i).toNat)
  case atStart => exact ⟨0, hb, rfl, Nat.zero_le _, rfl, HS.out.2, Hbel.out⟩
  case round =>
    obtain ⟨k, mb, rfl, hk, rfl, hM, hbel⟩ := hrel
    have HM := Sp.hid hM
    have Hbl := Sp.hid hbel
    clear hM hbel
    by_cases hkn : k < n
    · have HB := Sp.hid (before_any wr gb mb v g (Nf.Lg g k) (HG.out.below Hbl.out) HM.out)
      go_wp2_with fail
      refine HB.out.mono ?_
      rintro e w2 ⟨fb, rfl, hF, hbel2⟩
      have Hbl2 := Sp.hid (Hbl.out.trans (hbel2.mono Hbl.out.size))
      have HE := Sp.hid (equalB_any w2 fb mb g.N (Nf.Before g (Nf.Lg g k)) (Nf.Lg g k) hN hF.2 (HM.out.below hbel2))
      have HM2 := Sp.hid (HM.out.below hbel2)
      have HF := Sp.hid hF
      clear hF hbel2
      by_cases he : ∀ q, q < g.N → (Nf.Before g (Nf.Lg g k) q ↔ Nf.Lg g k q)
      · have He := Sp.hid (show Nf.bl (∀ q, q < g.N → (Nf.Before g (Nf.Lg g k) q ↔ Nf.Lg g k q)) = true from Nf.bl_true he)
        have hf := Sp.hid (show Nf.bl (Nf.Lg g n 0) = Nf.bl (Nf.Lg g k 0) by
          apply Nf.bl_congr
          have := Nf.lg_stable HG.out.ok he (n - k) 0 hpos
          rwa [show k + (n - k) = n by omega] at this)
        clear he
        go_wp2_with fail
        refine HE.out.mono ?_
        rintro e w3 ⟨rfl, hbel3⟩
        rw [He.out]
        have Hbl3 := Sp.hid (Hbl2.out.trans (hbel3.mono Hbl2.out.size))
        have c0 := (HM2.out.below hbel3) 0 hpos
        obtain ⟨x, hx⟩ : ∃ x, Nf.bl (Nf.Lg g k 0) = x := ⟨_, rfl⟩
        rw [hx] at c0 hf
        clear hbel3 hx
        go_wp2_with fail
        go_ret
        exact ⟨by rw [hf.out]; rfl, Hbl3.out⟩
      · have He := Sp.hid (show Nf.bl (∀ q, q < g.N → (Nf.Before g (Nf.Lg g k) q ↔ Nf.Lg g k q)) = false from Nf.bl_false he)
        clear he
        go_wp2_with fail
        refine HE.out.mono ?_
        rintro e w3 ⟨rfl, hbel3⟩
        rw [He.out]
        have Hbl3 := Sp.hid (Hbl2.out.trans (hbel3.mono Hbl2.out.size))
        have HF3 := Sp.hid (HF.out.2.below hbel3)
        clear hbel3
        go_wp2_with fail
        go_roundw
        case rel => exact ⟨k + 1, fb, by go_num, hkn, rfl, HF3.out, Hbl3.out⟩
        case measure => simp [intOf]; omega
    · have hkn' : k = n := by omega
      have Hkn := Sp.hid hkn'
      have c0 := HM.out 0 hpos
      obtain ⟨x, hx⟩ : ∃ x, Nf.bl (Nf.Lg g k 0) = x := ⟨_, rfl⟩
      rw [hx] at c0
      have Hx := Sp.hid hx
      clear hkn' hx
      go_wp2_with fail
      go_ret
      exact ⟨by rw [← Hkn.out, Hx.out]; rfl, Hbl.out⟩

end Go.Proofs.Ythpnipkihpoooaa
