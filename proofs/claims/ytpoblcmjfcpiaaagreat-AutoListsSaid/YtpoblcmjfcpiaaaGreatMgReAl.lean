/-
  The walk of the reference's Alive: the states from which an end is reached.
-/
import Derived.Test.YtpoblcmjfcpiaaaGreatMgReRd
import Derived.Test.YtpoblcmjfcpiaaaGreatMgReSp
import Derived.Maps.AppendAt
set_option linter.unusedVariables false
set_option linter.unusedSimpArgs false
namespace Go.Proofs.YtpoblcmjfcpiaaaGreat
open Go.RowKit
namespace Nf
/-- append(nil, marks...): new marks, perhaps with room behind. -/
theorem app_bools {w : World} {ops : Array Oper} {rest : List Oper} {o : Oper} {a : Act} {Q : Exit → Act → World → Prop} (hgd : o.guard = none) (s x : Operand)
    (ho : o.op = .call { callee := .builtin .append, args := #[s, x], argTypes := #[59, 59] }) (hs : a.eval s = .slice none 0 0) (db N : Nat) (hx : a.eval x = .slice (some ⟨db, 0, none⟩) N N) (S : Nat → Prop) (hB : BoolsAt w db N S) (hN : N ≤ 3000) (hN0 : 0 < N)
    (h : ∀ hb cp w', Vec Value.bool w' hb 4 cp N (fun i => bl (S i)) → w.heap.size ≤ hb → Below w.heap.size w w' → wpList Tryz.prog ops Q rest (a.put o.dst (.slice (some ⟨hb, 0, none⟩) N cp)) w') : wpList Tryz.prog ops Q (o :: rest) a w := by
  obtain ⟨i0, hi, hz0, hz1, hz2⟩ := info_parts boolInfo
  obtain ⟨F, hF⟩ : ∃ F : List Bool, F = (List.range N).map (fun i => bl (S i)) := ⟨_, rfl⟩
  have hFl : F.length = N := by rw [hF]; simp
  have hnews : ∀ j u, (F.map Value.bool)[j]? = some u → w.cell? ((⟨db, 0, none⟩ : Addr).add j) = some u := by
    intro j u hj
    have hjl : j < N := by have := (List.getElem?_eq_some_iff.1 hj).1; simpa [hFl] using this
    rw [plain_add, Nat.zero_add, hB j hjl]
    rw [hF, List.map_map, List.getElem?_map, List.getElem?_range hjl] at hj
    simpa using hj
  refine wpList_append_own_at w hgd s x 59 ho w.heap.size 4 i0 (.bool false) 1 1 Tryz.underlying59 hi hz0 hz1 hz2 rfl (by decide) (.slice none 0 0) 0 [] hs (World.ownsRow_nil _ _ _ _) ⟨db, 0, none⟩ N N (F.map Value.bool) hx (by simp [hFl]) hnews (fun u hu => by obtain ⟨b, _, rfl⟩ := List.mem_map.1 hu; rfl) (by unfold maxLen; omega) (by omega) (Nat.le_refl _) ?_
  intro v' w' hown hg _ _
  rw [Nat.zero_add, List.nil_append, ← hFl] at hown
  have hb : Below w.heap.size w w' := ⟨hg.os, hg.tape, hg.output, hg.size, fun k hk => hg.block k hk (by simp [Value.ownBlock])⟩
  rcases hown.2 with ⟨rfl, h0⟩ | ⟨g, cap, cur, rfl, _⟩
  · omega
  · obtain ⟨hv, hge⟩ := Vec.of_own hown
    rw [hFl] at hv ⊢
    exact h g cap w' (hv.congr fun i hi => by rw [hF]; simp [hi]) hge hb
def AlPost (g : Gr) (w : World) (e : Ending) (w' : World) : Prop :=
  ∃ hb cp, e = .returned (.slice (some ⟨hb, 0, none⟩) g.N cp) ∧ Vec Value.bool w' hb 4 cp g.N (fun i => bl (Live g i)) ∧ Below w.heap.size w w'
end Nf
set_option maxHeartbeats 2000000 in
set_option maxRecDepth 100000 in
theorem alive_any (w : World) (eb db : Nat) (R : Nat → List (ByteArray × Nat)) (g : Nf.Gr) (hG : Nf.RfAt w eb db R g) :
    Calls Tryz.prog 34 #[Nf.rfVal eb db g.N] w (Nf.AlPost g w) := by
  have hp : Nf.AlPost g w = fun e w' => ∃ hb cp, e = .returned (.slice (some ⟨hb, 0, none⟩) g.N cp) ∧ Vec Value.bool w' hb 4 cp g.N (fun i => Nf.bl (Nf.Live g i)) ∧ Below w.heap.size w w' := rfl
  rw [hp]
  have hN := hG.small
  have hN0 := hG.ok.pos
  have HG := Sp.hid hG
  have HRd : Hid (∀ w2 : World, Below w.heap.size w w2 → Calls Tryz.prog 61 #[Nf.rfVal eb db g.N] w2 (Nf.RdPost g.N R w2)) := Sp.hid (fun w2 hb => reversed_any w2 eb db R g (hG.below hb))
  have Hfin : Hid (∀ (T : Nat → List (ByteArray × Nat)) (q : Nat), q < g.N → Nf.RelT R g.N T → ((∃ p, p < g.N ∧ p ∈ g.ends ∧ Nf.Star (Nf.Rel [Nf.tabOf Nf.askAll T]) p q) ↔ Nf.Live g q)) := Sp.hid (fun T q hq hT => by
    have key : ∀ p q, Nf.Star (Nf.Rel [Nf.tabOf Nf.askAll T]) p q ↔ Nf.Star (fun p q => ∃ x, x ∈ T p ∧ x.2 = q) p q := fun p q => Nf.star_tabOf (fun a b => ⟨fun ⟨x, h1, h2⟩ => ⟨x, h1, rfl, h2⟩, fun ⟨x, h1, _, h2⟩ => ⟨x, h1, h2⟩⟩)
    have e1 : ∀ a b, (∃ x, x ∈ T a ∧ x.2 = b) → Nf.Any g b a := by
      rintro a b ⟨⟨s, b'⟩, h1, rfl⟩
      obtain ⟨h2, h3⟩ := (hT a s b').1 h1
      exact ⟨s, (hG.ed_iff _ _ _).1 h3⟩
    have e2 : ∀ a b, Nf.Any g a b → ∃ x, x ∈ T b ∧ x.2 = a := by
      rintro a b ⟨s, h1⟩
      exact ⟨(s, a), (hT b s a).2 ⟨hG.ok.from_ _ h1, (hG.ed_iff _ _ _).2 h1⟩, rfl⟩
    constructor
    · rintro ⟨p, h1, h2, h3⟩
      exact ⟨p, h2, Nf.Star.rev e1 ((key p q).1 h3)⟩
    · rintro ⟨p, h1, h2⟩
      exact ⟨p, hG.ok.end_ p h1, h1, (key p q).2 (Nf.Star.rev e2 h2)⟩)
  have Hlt : Hid (∀ (T : Nat → List (ByteArray × Nat)) (p : Nat) (x : ByteArray × Nat), Nf.RelT R g.N T → x ∈ T p → x.2 < g.N) := Sp.hid (fun T p x hT hx => ((hT p x.1 x.2).1 hx).1)
  have HE := Sp.hid hG.ends.2
  clear hp hG
  obtain ⟨N, hNe⟩ : ∃ N, g.N = N := ⟨_, rfl⟩
  rw [hNe] at hN hN0 HRd Hfin Hlt HE ⊢
  unfold Nf.rfVal at *
  obtain ⟨w1, hw1⟩ : ∃ w1, w.alloc (.cells #[.int .i64 0, .slice (some ⟨eb, 0, none⟩) N N, .slice (some ⟨db, 0, none⟩) N N] 71) = w1 := ⟨_, rfl⟩
  have hgb : w1.heap[w.heap.size]? = some (.cells #[.int .i64 0, .slice (some ⟨eb, 0, none⟩) N N, .slice (some ⟨db, 0, none⟩) N N] 71 (0, 0)) := by rw [← hw1]; exact Nf.Below.heap_new _ _
  have hbw : Below w.heap.size w w1 := by rw [← hw1]; exact (Below.refl _ w).alloc (Nat.le_refl _) _
  have c2 : w1.cell? ⟨w.heap.size, 2, none⟩ = some (.slice (some ⟨db, 0, none⟩) N N) := Nf.blk_cell (i := 2) hgb rfl
  have Hgb := Sp.hid hgb
  have Hbw := Sp.hid hbw
  have HE1 : Hid (Nf.BoolsAt (w.alloc (.cells #[.int .i64 0, .slice (some ⟨eb, 0, none⟩) N N, .slice (some ⟨db, 0, none⟩) N N] 71)) db N (· ∈ g.ends)) := Sp.hid (by rw [hw1]; exact HE.out.below hbw)
  have Hw1 := Sp.hid hw1
  clear hgb hbw hw1 hNe
  go_enter Tryz.func34, Tryz.ntmps34
  clear c2
  go_wp2_with (first
    | (at_builtin; refine Nf.app_bools rfl _ _ rfl rfl db N rfl _ HE1.out hN hN0 ?_)
    | fail)
  intro hb cp w2 hv2 hge2 hb2
  have hge2 : w1.heap.size ≤ hb := by rw [← Hw1.out]; simpa using hge2
  have hb2 : Below w1.heap.size w1 w2 := by rw [← Hw1.out]; first | exact hb2 | simpa using hb2
  have hblk2 := Nf.blk_below Hgb.out hb2 (Nf.blk_lt Hgb.out)
  have d0 : w2.cell? ⟨w.heap.size, 0, none⟩ = some (.int .i64 0) := Nf.blk_cell (i := 0) hblk2 rfl
  have d1 : w2.cell? ⟨w.heap.size, 1, none⟩ = some (.slice (some ⟨eb, 0, none⟩) N N) := Nf.blk_cell (i := 1) hblk2 rfl
  have d2 : w2.cell? ⟨w.heap.size, 2, none⟩ = some (.slice (some ⟨db, 0, none⟩) N N) := Nf.blk_cell (i := 2) hblk2 rfl
  have Hb2 := Sp.hid (Hbw.out.trans (hb2.mono Hbw.out.size))
  have Hv2 := Sp.hid hv2
  have Hge : Hid (w.heap.size ≤ hb) := Sp.hid (Nat.le_trans Hbw.out.size hge2)
  have HR2 := Sp.hid (HRd.out w2 Hb2.out)
  clear hv2 hge2 hb2 hblk2
  go_wp2_with fail
  refine HR2.out.mono ?_
  rintro e w3 ⟨tb, V, T, rfl, hrows, hT, hlen, hb3⟩
  have hbw3 := Hb2.out.trans (hb3.mono Hb2.out.size)
  have hv3 : Vec Value.bool w3 hb 4 cp N (fun i => Nf.bl (i ∈ g.ends)) := Hv2.out.grown (row := none) ⟨hb3.os, hb3.tape, hb3.output, hb3.size, fun k hk _ => hb3.block k hk⟩ (by simp)
  have HSp := Sp.hid (spread_any w w3 tb hb cp N V T (· ∈ g.ends) hN hbw3 Hge.out (hrows.base Hb2.out.size) hv3 hlen (fun p x hx => Hlt.out T p x hT hx))
  have HT := Sp.hid hT
  clear hrows hT hlen hb3 hbw3 hv3 d0 d1 d2
  go_wp2_with fail
  refine HSp.out.mono ?_
  rintro e w4 ⟨rfl, L, hL, hv4, hb4⟩
  have Hv4 : Hid (Vec Value.bool w4 hb 4 cp N (fun i => Nf.bl (Nf.Live g i))) := Sp.hid (hv4.congr fun i hi => by
    rw [Nf.bl_decide]
    exact Nf.bl_congr ((hL i).trans (Hfin.out T i hi HT.out)))
  have Hb4 := Sp.hid hb4
  clear hL hv4 hb4
  go_wp2_with fail
  go_ret
  exact ⟨hb, cp, rfl, Hv4.out, Hb4.out⟩
end Go.Proofs.YtpoblcmjfcpiaaaGreat
