/-
  The walks of the reference's before and isLonger.
-/
import Derived.Test.YtpoblcmjfcpiaaaGreatMgReSe
import Derived.Test.YtpoblcmjfcpiaaaGreatMgReRdReSpReAl
import Derived.Test.YtpoblcmjfcpiaaaGreatMgAuRvReCk
set_option linter.unusedVariables false
set_option linter.unusedSimpArgs false
namespace Go.Proofs.YtpoblcmjfcpiaaaGreat
open Go.RowKit
namespace Nf
/-- The numbers that are marked: of the rows of the first k marked states; and of the first m edges of the next one. -/
def BnT (T : Nat → List (ByteArray × Nat)) (S : Nat → Prop) (k : Nat) (F : Nat → Bool) : Prop := ∀ q, F q = true ↔ ∃ s, s < k ∧ S s ∧ ∃ x, x ≠ eps ∧ (x, q) ∈ T s
def BnIn (T : Nat → List (ByteArray × Nat)) (S : Nat → Prop) (k m : Nat) (F : Nat → Bool) : Prop := ∀ q, F q = true ↔ (∃ s, s < k ∧ S s ∧ ∃ x, x ≠ eps ∧ (x, q) ∈ T s) ∨ (S k ∧ ∃ x, x ≠ eps ∧ (x, q) ∈ (T k).take m)
section
variable {T : Nat → List (ByteArray × Nat)} {S : Nat → Prop} {k m : Nat} {F : Nat → Bool}
theorem BnT.start : BnT T S 0 (fun _ => false) := fun q => by simp
theorem BnT.begin (h : BnT T S k F) : BnIn T S k 0 F := fun q => by rw [h q]; simp
theorem BnIn.yes {x : ByteArray} {q : Nat} (h : BnIn T S k m F) (hS : S k) (hx : x ≠ eps) (htk : (T k).take (m + 1) = (T k).take m ++ [(x, q)]) : BnIn T S k (m + 1) (fun i => if i = q then true else F i) := fun i => by
  rw [htk]
  by_cases e : i = q
  · subst e
    simp only [if_true, true_iff]
    exact .inr ⟨hS, x, hx, by simp⟩
  · simp only [e, if_false, h i]
    constructor
    · rintro (h1 | ⟨h1, y, h2, h3⟩)
      · exact .inl h1
      · exact .inr ⟨h1, y, h2, List.mem_append_left _ h3⟩
    · rintro (h1 | ⟨h1, y, h2, h3⟩)
      · exact .inl h1
      · rcases List.mem_append.1 h3 with h3 | h3
        · exact .inr ⟨h1, y, h2, h3⟩
        · simp at h3; exact absurd h3.2 e
theorem BnIn.no {x : ByteArray} {q : Nat} (h : BnIn T S k m F) (hx : x = eps) (htk : (T k).take (m + 1) = (T k).take m ++ [(x, q)]) : BnIn T S k (m + 1) F := fun i => by
  rw [htk, h i]
  constructor
  · rintro (h1 | ⟨h1, y, h2, h3⟩)
    · exact .inl h1
    · exact .inr ⟨h1, y, h2, List.mem_append_left _ h3⟩
  · rintro (h1 | ⟨h1, y, h2, h3⟩)
    · exact .inl h1
    · rcases List.mem_append.1 h3 with h3 | h3
      · exact .inr ⟨h1, y, h2, h3⟩
      · simp at h3; exact absurd (h3.1.trans hx) h2
theorem BnIn.done (h : BnIn T S k m F) (hm : S k → (T k).length ≤ m) : BnT T S (k + 1) F := fun i => by
  rw [h i]
  constructor
  · rintro (⟨s, h1, h2⟩ | ⟨h1, y, h2, h3⟩)
    · exact ⟨s, by omega, h2⟩
    · exact ⟨k, by omega, h1, y, h2, List.mem_of_mem_take h3⟩
  · rintro ⟨s, h1, h2, y, h3, h4⟩
    by_cases e : s = k
    · subst e
      exact .inr ⟨h2, y, h3, by rw [List.take_of_length_le (hm h2)]; exact h4⟩
    · exact .inl ⟨s, by omega, h2, y, h3, h4⟩
end
def BfPost (N : Nat) (T : Nat → List (ByteArray × Nat)) (S : Nat → Prop) (w : World) (e : Ending) (w' : World) : Prop :=
  ∃ ob, e = .returned (.slice (some ⟨ob, 0, none⟩) N N) ∧ Vec Value.bool w' ob 4 N N (fun q => bl (∃ p, p < N ∧ (∃ s, s < N ∧ S s ∧ ∃ x, x ≠ eps ∧ (x, p) ∈ T s) ∧ Star (Rel [tabOf isEps T]) p q)) ∧ Below w.heap.size w w'
theorem before_iff {w : World} {eb db : Nat} {R T : Nat → List (ByteArray × Nat)} {g : Gr} (hG : RfAt w eb db R g) (hT : RelT R g.N T) (S : Nat → Prop) (q : Nat) (hq : q < g.N) :
    (∃ p, p < g.N ∧ (∃ s, s < g.N ∧ S s ∧ ∃ x, x ≠ eps ∧ (x, p) ∈ T s) ∧ Star (Rel [tabOf isEps T]) p q) ↔ Before g S q := by
  have key : ∀ a b, Star (Rel [tabOf isEps T]) a b ↔ Star (fun a b => (eps, b) ∈ T a) a b := fun a b => star_tabOf (fun a b => by
    constructor
    · intro h; exact ⟨(eps, b), h, by simp [isEps, show eps.size = 0 from rfl], rfl⟩
    · rintro ⟨⟨x, b'⟩, h1, h2, rfl⟩
      have hz : x.size = 0 := by simpa [isEps] using h2
      have e : x = eps := size_eps.1 hz
      subst e
      exact h1)
  have e1 : ∀ a b, (eps, b) ∈ T a → E g b a := fun a b h => (hG.ed_iff _ _ _).1 ((hT a eps b).1 h).2
  have e2 : ∀ a b, E g a b → (eps, a) ∈ T b := fun a b h => (hT b eps a).2 ⟨hG.ok.from_ _ h, (hG.ed_iff _ _ _).2 h⟩
  constructor
  · rintro ⟨p, h1, ⟨s, h2, h3, x, h4, h5⟩, h6⟩
    exact ⟨p, s, Star.rev e1 ((key p q).1 h6), ⟨x, h4, (hG.ed_iff _ _ _).1 ((hT s x p).1 h5).2⟩, h3⟩
  · rintro ⟨p, s, h1, ⟨x, h2, h3⟩, h4⟩
    exact ⟨p, hG.ok.from_ _ h3, ⟨s, hG.ok.to_ _ h3, h4, x, h2, (hT s x p).2 ⟨hG.ok.from_ _ h3, (hG.ed_iff _ _ _).2 h3⟩⟩, (key p q).2 (Star.rev e2 h1)⟩
end Nf

set_option maxHeartbeats 4000000 in
set_option maxRecDepth 100000 in
theorem refBefore_any (w : World) (b0 tb mb cm N : Nat) (V : Nat → Value) (T : Nat → List (ByteArray × Nat)) (S : Nat → Prop) (hN : N ≤ 3000)
    (hR : Nf.RowsAt Nf.enE 102 100 2 w b0 tb N V T) (hM : Nf.BoolsAt w mb N S) (hlen : ∀ i, (T i).length ≤ 4000000000) (hto : ∀ p x, x ∈ T p → x.2 < N) :
    Calls Tryz.prog 70 #[.slice (some ⟨tb, 0, none⟩) N N, .slice (some ⟨mb, 0, none⟩) N cm] w (Nf.BfPost N T S w) := by
  have hp : Nf.BfPost N T S w = fun e w' => ∃ ob, e = .returned (.slice (some ⟨ob, 0, none⟩) N N) ∧ Vec Value.bool w' ob 4 N N (fun q => Nf.bl (∃ p, p < N ∧ (∃ s, s < N ∧ S s ∧ ∃ x, x ≠ Nf.eps ∧ (x, p) ∈ T s) ∧ Nf.Star (Nf.Rel [Nf.tabOf Nf.isEps T]) p q)) ∧ Below w.heap.size w w' := rfl
  rw [hp]
  have HR := Sp.hid hR
  have HM := Sp.hid hM
  have Hlen := Sp.hid hlen
  have Hto := Sp.hid hto
  have hmk0 : (Instr.makeSlice 59 (.int .i64 (N : Int)) (.int .i64 (N : Int))).run Tryz.prog w = .ok (.slice (some ⟨w.heap.size, 0, none⟩) N N) (w.alloc (.cells (madeCells #[.bool false] N) 4)) := run_make_row' _ _ _ 1 Tryz.underlying59 Nf.boolInfo rfl _ _ N (by omega) (by omega) w
  have hv0 := Nf.vec_made_bool (w := w.alloc (.cells (madeCells #[.bool false] N) 4)) (Nf.Below.heap_new w _) hN
  have hb0 := (Below.refl w.heap.size w).alloc (Nat.le_refl _) (.cells (madeCells #[.bool false] N) 4)
  obtain ⟨w1, hw1⟩ : ∃ w1, w.alloc (.cells (madeCells #[.bool false] N) 4) = w1 := ⟨_, rfl⟩
  rw [hw1] at hmk0 hv0 hb0
  obtain ⟨ob, hob⟩ : ∃ ob, w.heap.size = ob := ⟨_, rfl⟩
  have Hob : Hid (w.heap.size ≤ ob) := Sp.hid (by omega)
  have hmk : (Instr.makeSlice 59 (.int .i64 (N : Int)) (.int .i64 (N : Int))).run Tryz.prog w = .ok (.slice (some ⟨ob, 0, none⟩) N N) w1 := by rw [← hob]; exact hmk0
  rw [hob] at hv0
  have HV0 := Sp.hid hv0
  have Hb0 := Sp.hid hb0
  clear hp hR hM hlen hto hmk0 hv0 hb0 hw1 hob
  go_enter Tryz.func70, Tryz.ntmps70
  go_wp2_with fail
  clear hmk
  go_loopw [6, 7] (fun i _ wr => ∃ (k : Nat) (F : Nat → Bool), i = .int .i64 k ∧ k ≤ N ∧ Hid (Nf.BnT T S k F) ∧ Hid (Vec Value.bool wr ob 4 N N F) ∧ Hid (Below w.heap.size w wr)) (fun i _ _ => N - (intOf i).toNat)
  case atStart => exact ⟨0, _, rfl, Nat.zero_le _, Sp.hid Nf.BnT.start, HV0, Hb0⟩
  case round =>
    clear HV0 Hb0
    obtain ⟨k, F, rfl, hk, HF, HV, Hb⟩ := hrel
    by_cases hkN : k < N
    · have i1 : (0 : Int) ≤ (k : Int) := by omega
      have i2 : (k : Int) < (N : Int) := by omega
      obtain ⟨ro, rcap, cE0, hrc⟩ := HR.out.at_ Nf.enE_len hkN
      have HcE := Sp.hid cE0
      have Hrc := Sp.hid hrc
      have hln := Hlen.out k
      clear cE0 hrc
      go_wp2_with fail
      rename World => wA
      go_loopw [7] (fun i wr => ∃ (m : Nat) (F : Nat → Bool), i = .int .i64 m ∧ m ≤ (T k).length ∧ Hid (Nf.BnIn T S k m F) ∧ Hid (Vec Value.bool wr ob 4 N N F) ∧ Hid (Below w.heap.size w wr)) (fun i _ => (T k).length - (intOf i).toNat)
      case atStart => exact ⟨0, F, rfl, Nat.zero_le _, Sp.hid HF.out.begin, HV, Hb⟩
      case round =>
        clear HF HV Hb
        obtain ⟨m, F, rfl, hmle, HF, HV, Hb⟩ := hrel
        have cM : wr.cell? ⟨mb, k, none⟩ = some (.bool (Nf.bl (S k))) := by
          have h1 := HM.out k hkN
          rw [Hb.out.cell (World.block_lt_of_cell? w _ h1)]; exact h1
        have cE : wr.cell? ⟨tb, k, none⟩ = some (.slice ro (T k).length rcap) := by rw [Hb.out.cell (World.block_lt_of_cell? w _ HcE.out)]; exact HcE.out
        have i3 : (0 : Int) ≤ (m : Int) := by omega
        by_cases hS : S k
        · rw [Nf.bl_true hS] at cM
          by_cases hm : m < (T k).length
          · obtain ⟨b2, off2, x, rfl, hx, hxc, htk⟩ := Hrc.out.at hm
            obtain ⟨s, q⟩ := x
            have hqN : q < N := Hto.out k (s, q) (List.mem_of_getElem? hx)
            have cX0' : w.cell? ⟨b2, off2 + (m * 2 + 0), none⟩ = some (.string s) := hxc 0 _ rfl
            have cX1' : w.cell? ⟨b2, off2 + (m * 2 + 1), none⟩ = some (.int .i64 q) := hxc 1 _ rfl
            have cX0 : wr.cell? ⟨b2, off2 + m * 2, none⟩ = some (.string s) := by rw [Hb.out.cell (p := ⟨b2, off2 + m * 2, none⟩) (World.block_lt_of_cell? w _ cX0')]; exact cX0'
            have cX1 : wr.cell? ⟨b2, off2 + m * 2 + 1, none⟩ = some (.int .i64 q) := by rw [Hb.out.cell (p := ⟨b2, off2 + m * 2 + 1, none⟩) (World.block_lt_of_cell? w _ cX1')]; exact cX1'
            have i4 : (m : Int) < ((T k).length : Int) := by omega
            have i5 : (0 : Int) ≤ (q : Int) := by omega
            have i6 : (q : Int) < (N : Int) := by omega
            have cO := HV.out.cell hqN
            have fO := HV.out.free q
            clear hx hxc cX0' cX1'
            by_cases hse : s.size = 0
            · have hzz : s.toList.isEmpty = true := Sp.empty_of_size hse
              have HF2 := Sp.hid (HF.out.no (Nf.size_eps.1 hse) htk)
              clear hse htk hS
              go_wp2_with fail
              go_roundw
              case rel => exact ⟨m + 1, F, by go_num, hm, HF2, HV, Hb⟩
              case measure => simp [intOf]; omega
            · have hzz : s.toList.isEmpty = false := Sp.not_empty_of_size hse
              have HF2 := Sp.hid (HF.out.yes hS (fun h => hse (Nf.size_eps.2 h)) htk)
              have HV2 := Sp.hid (HV.out.set (i := q) true)
              have Hb2 := Sp.hid (Hb.out.setCell (p := ⟨ob, q, none⟩) Hob.out (.bool true))
              clear hse htk hS
              go_wp2_with fail
              go_roundw
              case rel => exact ⟨m + 1, _, by go_num, hm, HF2, HV2, Hb2⟩
              case measure => simp [intOf]; omega
          · have HF2 := Sp.hid (HF.out.done (fun _ => by omega))
            clear hS
            go_wp2_with fail
            go_roundw
            case rel => exact ⟨k + 1, F, by go_num, hkN, HF2, HV, Hb⟩
            case measure => simp [intOf]; omega
        · rw [Nf.bl_false hS] at cM
          have HF2 := Sp.hid (HF.out.done (fun h => absurd h hS))
          clear hS
          go_wp2_with fail
          go_roundw
          case rel => exact ⟨k + 1, F, by go_num, hkN, HF2, HV, Hb⟩
          case measure => simp [intOf]; omega
    · have hkk : k = N := by omega
      have HF2 : Hid (Nf.BnT T S N F) := Sp.hid (by rw [← hkk]; exact HF.out)
      have HSp := Sp.hid (spreadE_any wr b0 tb ob N N V T (fun q => F q = true) hN (HR.out.below Hb.out) (HV.out.congr fun i hi => by cases h : F i <;> simp [Nf.bl, h]) Hlen.out Hto.out)
      clear hkk
      go_wp2_with fail
      refine HSp.out.mono ?_
      rintro e w3 ⟨rfl, L, hL, hv3, hg3⟩
      have Hv3 := Sp.hid hv3
      have HL := Sp.hid hL
      have Hb3 : Hid (Below w.heap.size w w3) := Sp.hid (Hb.out.grown hg3 Hb.out.size (fun k hk => by cases hk; exact Hob.out))
      clear hL hv3 hg3
      go_wp2_with fail
      go_ret
      refine ⟨ob, rfl, Hv3.out.congr fun q hq => ?_, Hb3.out⟩
      rw [Nf.bl_decide]
      refine Nf.bl_congr ((HL.out q).trans ?_)
      constructor
      · rintro ⟨p, h1, h2, h3⟩; exact ⟨p, h1, (HF2.out p).1 h2, h3⟩
      · rintro ⟨p, h1, h2, h3⟩; exact ⟨p, h1, (HF2.out p).2 h2, h3⟩

set_option maxHeartbeats 4000000 in
set_option maxRecDepth 100000 in
theorem isLonger_any (w : World) (eb db n : Nat) (R : Nat → List (ByteArray × Nat)) (g : Nf.Gr) (hG : Nf.RfAt w eb db R g) (hn : n ≤ 3000) :
    Calls Tryz.prog 43 #[Nf.rfVal eb db g.N, .int .i64 (n : Int)] w (fun e w' => e = .returned (.bool (Nf.bl (Nf.Lg g n 0))) ∧ Below w.heap.size w w') := by
  have hN := hG.small
  have hN0 := hG.ok.pos
  have HG := Sp.hid hG
  have HRd : Hid (∀ w2 : World, Below w.heap.size w w2 → Calls Tryz.prog 61 #[Nf.rfVal eb db g.N] w2 (Nf.RdPost g.N R w2)) := Sp.hid (fun w2 hb => reversed_any w2 eb db R g (hG.below hb))
  have HAl : Hid (∀ w2 : World, Below w.heap.size w w2 → Calls Tryz.prog 34 #[Nf.rfVal eb db g.N] w2 (Nf.AlPost g w2)) := Sp.hid (fun w2 hb => alive_any w2 eb db R g (hG.below hb))
  have Hbef : Hid (∀ (T : Nat → List (ByteArray × Nat)) (S : Nat → Prop) (q : Nat), q < g.N → Nf.RelT R g.N T → ((∃ p, p < g.N ∧ (∃ s, s < g.N ∧ S s ∧ ∃ x, x ≠ Nf.eps ∧ (x, p) ∈ T s) ∧ Nf.Star (Nf.Rel [Nf.tabOf Nf.isEps T]) p q) ↔ Nf.Before g S q)) := Sp.hid (fun T S q hq hT => Nf.before_iff hG hT S q hq)
  have Hlt : Hid (∀ (T : Nat → List (ByteArray × Nat)) (p : Nat) (x : ByteArray × Nat), Nf.RelT R g.N T → x ∈ T p → x.2 < g.N) := Sp.hid (fun T p x hT hx => ((hT p x.1 x.2).1 hx).1)
  have HAlp : Hid (∀ w2, Nf.AlPost g w2 = fun e w' => ∃ hb cp, e = .returned (.slice (some ⟨hb, 0, none⟩) g.N cp) ∧ Vec Value.bool w' hb 4 cp g.N (fun i => Nf.bl (Nf.Live g i)) ∧ Below w2.heap.size w2 w') := Sp.hid (fun _ => rfl)
  clear hG
  obtain ⟨N, hNe⟩ : ∃ N, g.N = N := ⟨_, rfl⟩
  rw [hNe] at hN hN0 HRd Hbef Hlt HAl HAlp
  rw [hNe]
  unfold Nf.rfVal at *
  obtain ⟨w1, hw1⟩ : ∃ w1, w.alloc (.cells #[.int .i64 0, .slice (some ⟨eb, 0, none⟩) N N, .slice (some ⟨db, 0, none⟩) N N] 71) = w1 := ⟨_, rfl⟩
  have hgb : w1.heap[w.heap.size]? = some (.cells #[.int .i64 0, .slice (some ⟨eb, 0, none⟩) N N, .slice (some ⟨db, 0, none⟩) N N] 71 (0, 0)) := by rw [← hw1]; exact Nf.Below.heap_new _ _
  have hbw : Below w.heap.size w w1 := by rw [← hw1]; exact (Below.refl _ w).alloc (Nat.le_refl _) _
  have c0 : w1.cell? ⟨w.heap.size, 0, none⟩ = some (.int .i64 0) := Nf.blk_cell (i := 0) hgb rfl
  have c1 : w1.cell? ⟨w.heap.size, 1, none⟩ = some (.slice (some ⟨eb, 0, none⟩) N N) := Nf.blk_cell (i := 1) hgb rfl
  have c2 : w1.cell? ⟨w.heap.size, 2, none⟩ = some (.slice (some ⟨db, 0, none⟩) N N) := Nf.blk_cell (i := 2) hgb rfl
  have Hgb := Sp.hid hgb
  have Hbw := Sp.hid hbw
  have Hw1 := Sp.hid hw1
  have HR1 := Sp.hid (HRd.out w1 hbw)
  clear hgb hbw hw1 hNe
  go_enter Tryz.func43, Tryz.ntmps43
  go_wp2_with fail
  rw [Hw1.out]
  refine HR1.out.mono ?_
  rintro e w2 ⟨tb, V, T, rfl, hrows, hT, hlen, hb2⟩
  have hblk2 := Nf.blk_below Hgb.out hb2 (Nf.blk_lt Hgb.out)
  have Hb2 := Sp.hid (Hbw.out.trans (hb2.mono Hbw.out.size))
  have Hrows := Sp.hid hrows
  have HT := Sp.hid hT
  have Hlen := Sp.hid hlen
  have Hblk2 := Sp.hid hblk2
  have HA2 := HAl.out w2 Hb2.out
  rw [HAlp.out] at HA2
  have HA2 := Sp.hid HA2
  clear c0 c1 c2
  have c0 : w2.cell? ⟨w.heap.size, 0, none⟩ = some (.int .i64 0) := Nf.blk_cell (i := 0) hblk2 rfl
  have c1 : w2.cell? ⟨w.heap.size, 1, none⟩ = some (.slice (some ⟨eb, 0, none⟩) N N) := Nf.blk_cell (i := 1) hblk2 rfl
  have c2 : w2.cell? ⟨w.heap.size, 2, none⟩ = some (.slice (some ⟨db, 0, none⟩) N N) := Nf.blk_cell (i := 2) hblk2 rfl
  clear hrows hT hlen hb2 hblk2
  go_wp2_with fail
  refine HA2.out.mono ?_
  rintro e w3 ⟨mb, cp, rfl, hv3, hb3⟩
  have Hb3 := Sp.hid hb3
  have HM3 : Hid (Nf.BoolsAt w3 mb N (Nf.Lg g 0)) := Sp.hid (fun q hq => hv3.cell hq)
  clear c0 c1 c2 hv3 hb3
  go_wp2_with fail
  go_loopw [6, 7] (fun t i wr => ∃ (k mb cp : Nat), t = .slice (some ⟨mb, 0, none⟩) N cp ∧ i = .int .i64 k ∧ k ≤ n ∧ Hid (Nf.BoolsAt wr mb N (Nf.Lg g k)) ∧ Hid (Below w2.heap.size w2 wr)) (fun _ i _ => n - (intOf i).toNat)
  case atStart => exact ⟨0, mb, cp, rfl, rfl, Nat.zero_le _, HM3, Hb3⟩
  case round =>
    clear HM3 Hb3
    obtain ⟨k, mb, cp, rfl, rfl, hk, HM, Hb⟩ := hrel
    by_cases hkn : k < n
    · have HBf := Sp.hid (refBefore_any wr w1.heap.size tb mb cp N V T (Nf.Lg g k) hN (Hrows.out.below Hb.out) HM.out Hlen.out (fun p x hx => Hlt.out T p x HT.out hx))
      go_wp2_with fail
      refine HBf.out.mono ?_
      rintro e w4 ⟨ob, rfl, hv4, hb4⟩
      have HM4 : Hid (Nf.BoolsAt w4 ob N (Nf.Lg g (k + 1))) := Sp.hid (fun q hq => by
        rw [hv4.cell hq]
        congr 2
        exact Nf.bl_congr (Hbef.out T (Nf.Lg g k) q hq HT.out))
      have Hb4 := Sp.hid (Hb.out.trans (hb4.mono Hb.out.size))
      clear hv4 hb4
      go_wp2_with fail
      go_roundw
      case rel => exact ⟨k + 1, ob, N, rfl, by go_num, hkn, HM4, Hb4⟩
      case measure => simp [intOf]; omega
    · have hkk : k = n := by omega
      have hfin : Nf.bl (Nf.Lg g k 0) = Nf.bl (Nf.Lg g n 0) := by rw [hkk]
      have cM := HM.out 0 hN0
      rw [hfin] at cM
      have hblk4 := Nf.blk_below Hblk2.out Hb.out (Nf.blk_lt Hblk2.out)
      have c0 : wr.cell? ⟨w.heap.size, 0, none⟩ = some (.int .i64 0) := Nf.blk_cell (i := 0) hblk4 rfl
      have i1 : decide ((N : Int) > 0) = true := by simp; omega
      have i2 : (0 : Int) < (N : Int) := by omega
      have Hbf := Sp.hid (Hb2.out.trans (Hb.out.mono Hb2.out.size))
      obtain ⟨r, hr⟩ : ∃ r, Nf.bl (Nf.Lg g n 0) = r := ⟨_, rfl⟩
      rw [hr] at cM
      have Hr := Sp.hid hr
      clear hkk hfin hblk4 hr
      go_wp2_with fail
      go_ret
      exact ⟨by rw [Hr.out]; rfl, Hbf.out⟩
end Go.Proofs.YtpoblcmjfcpiaaaGreat
