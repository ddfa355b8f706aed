/-
  The walk of package auto's Next.
-/
import Derived.Test.YteggofjldgjfiaaGreatMgMapVb
import Derived.Test.YteggofjldgjfiaaGreatMgAuAAuBAuCAuD
import Derived.Test.YteggofjldgjfiaaGreatMgReIl
import Derived.Laws.IdiomRangeMap
import Derived.RegionTactic
import Derived.BigRegion
set_option linter.unusedVariables false
set_option linter.unusedSimpArgs false
namespace Go.Proofs.YteggofjldgjfiaaGreat
open Go.RowKit
namespace Nf
/-- A symbol goes on to some word. -/
def GoesOn (g : Gr) (W : List ByteArray) (s : ByteArray) : Prop := ∃ a b, Lead g W (Beg g) a ∧ (a, s, b) ∈ g.arcs ∧ Live g b
noncomputable def nextSpec (n : Net) (W : List ByteArray) : List ByteArray × Bool × Int := if errCk n W ≠ 0 then ([], false, errCk n W) else ((netGr n).sig.filter fun s => bl (GoesOn (netGr n) W s), bl (Acc (netGr n) W), 0)
def NextPost (n : Net) (W : List ByteArray) (w : World) (e : Ending) (w' : World) : Prop :=
  ∃ lo ll lcap, e = .returned (.tuple #[.slice lo ll lcap, .bool (nextSpec n W).2.1, .int .i64 (nextSpec n W).2.2]) ∧ Sp.Row w' lo ll (nextSpec n W).1 ∧ RowKit.Below w.heap.size w w'
/-- The numbers that are marked: of the rows that have come, .. -/
def FlT (Mv : Nat → List (Nat × Nat)) (S : Nat → Prop) (T : List Nat) (F : Nat → Bool) : Prop := ∀ x, F x = true ↔ ∃ p, p ∈ T ∧ ∃ q, (x, q) ∈ Mv p ∧ S q
/-- .. and of the first j of the row of p. -/
def FlIn (Mv : Nat → List (Nat × Nat)) (S : Nat → Prop) (T : List Nat) (p j : Nat) (F : Nat → Bool) : Prop := ∀ x, F x = true ↔ (∃ p, p ∈ T ∧ ∃ q, (x, q) ∈ Mv p ∧ S q) ∨ ∃ q, (x, q) ∈ (Mv p).take j ∧ S q
section
variable {Mv : Nat → List (Nat × Nat)} {S : Nat → Prop} {T : List Nat} {F : Nat → Bool} {p j : Nat}
theorem FlT.start : FlT Mv S [] (fun _ => false) := fun x => by simp
theorem FlT.begin (h : FlT Mv S T F) : FlIn Mv S T p 0 F := fun x => by rw [h x]; simp
theorem FlIn.next {y q : Nat} (h : FlIn Mv S T p j F) (hj : (Mv p)[j]? = some (y, q)) : FlIn Mv S T p (j + 1) (fun x => if x = y then (F y || bl (S q)) else F x) := fun x => by
  obtain ⟨hl, he⟩ := List.getElem?_eq_some_iff.1 hj
  rw [List.take_succ_eq_append_getElem hl, he]
  by_cases e : x = y
  · subst e
    simp only [if_true, Bool.or_eq_true, bl_iff, h x]
    constructor
    · rintro ((h1 | ⟨r, h1, h2⟩) | h1)
      · exact .inl h1
      · exact .inr ⟨r, List.mem_append_left _ h1, h2⟩
      · exact .inr ⟨q, by simp, h1⟩
    · rintro (h1 | ⟨r, h1, h2⟩)
      · exact .inl (.inl h1)
      · rcases List.mem_append.1 h1 with h1 | h1
        · exact .inl (.inr ⟨r, h1, h2⟩)
        · simp at h1; subst h1; exact .inr h2
  · simp only [e, if_false, h x]
    constructor
    · rintro (h1 | ⟨r, h1, h2⟩)
      · exact .inl h1
      · exact .inr ⟨r, List.mem_append_left _ h1, h2⟩
    · rintro (h1 | ⟨r, h1, h2⟩)
      · exact .inl h1
      · rcases List.mem_append.1 h1 with h1 | h1
        · exact .inr ⟨r, h1, h2⟩
        · simp at h1; exact absurd h1.1 e
theorem FlIn.done (h : FlIn Mv S T p j F) (hj : (Mv p).length ≤ j) : FlT Mv S (T ++ [p]) F := fun x => by
  rw [h x, List.take_of_length_le hj]
  constructor
  · rintro (⟨a, ha, hq⟩ | hq)
    · exact ⟨a, List.mem_append_left _ ha, hq⟩
    · exact ⟨p, by simp, hq⟩
  · rintro ⟨a, ha, hq⟩
    rcases List.mem_append.1 ha with ha | ha
    · exact .inl ⟨a, ha, hq⟩
    · simp at ha; subst ha; exact .inr hq
end
theorem FlT.fol {g : Gr} {w : World} {gb : Nat} {v : Gv} {W : List ByteArray} {T A : List Nat} {F : Nat → Bool} (h : FlT v.Mv (Live g) T F) (hG : GrAt w gb v g) (hT : ∀ q, q ∈ T ↔ q ∈ A) (hA : ∀ q, q ∈ A ↔ Lead g W (Beg g) q) (x : Nat) (s : ByteArray) (hs : g.sig[x]? = some s) : F x = bl (GoesOn g W s) := by
  have key : F x = true ↔ GoesOn g W s := by
    rw [h x]
    constructor
    · rintro ⟨p, hp, q, hq, hl⟩
      obtain ⟨s', hs', ha⟩ := (hG.mv_iff p x q).1 hq
      rw [hs] at hs'; cases hs'
      exact ⟨p, q, (hA p).1 ((hT p).1 hp), ha, hl⟩
    · rintro ⟨a, b, h1, h2, h3⟩
      exact ⟨a, (hT a).2 ((hA a).2 h1), b, (hG.mv_iff a x b).2 ⟨s, hs, h2⟩, h3⟩
  cases hF : F x with
  | true => rw [bl_true (key.1 hF)]
  | false => rw [bl_false (fun hk => by rw [key.2 hk] at hF; cases hF)]
end Nf

set_option maxHeartbeats 8000000 in
set_option maxRecDepth 100000 in
theorem next_any (w : World) (n : Nf.Net) (wo : Option Addr) (wn wcap : Nat) (W : List ByteArray) (h : Nf.NetAt w n) (hW : Sp.Row w wo wn W) :
    Calls Tryz.prog 10 #[n.val, .slice wo wn wcap] w (Nf.NextPost n W w) := by
  have hb0 : Below w.heap.size w (w.alloc (.cells n.cells 26)) := (Below.refl _ w).alloc (Nat.le_refl _) _
  have hblk : (w.alloc (.cells n.cells 26)).heap[w.heap.size]? = some (.cells n.cells 26 (0, 0)) := Nf.Below.heap_new w _
  have HC := Sp.hid (validateBoth_any _ n wo wn wcap W (h.below hb0) (hW.below hb0))
  have Hb0 := Sp.hid hb0
  have Hblk := Sp.hid hblk
  have HN := Sp.hid h
  have HW := Sp.hid hW
  have hp : Nf.NextPost n W w = fun e w' => ∃ lo ll lcap, e = .returned (.tuple #[.slice lo ll lcap, .bool (Nf.nextSpec n W).2.1, .int .i64 (Nf.nextSpec n W).2.2]) ∧ Sp.Row w' lo ll (Nf.nextSpec n W).1 ∧ Below w.heap.size w w' := rfl
  rw [hp]
  by_cases he : Nf.errCk n W = 0
  · have hs := Sp.hid (show Nf.nextSpec n W = ((Nf.netGr n).sig.filter fun s => Nf.bl (Nf.GoesOn (Nf.netGr n) W s), Nf.bl (Nf.Acc (Nf.netGr n) W), 0) by unfold Nf.nextSpec; rw [if_neg (by simpa using he)])
    rw [hs.out]
    obtain ⟨he1, he2⟩ := Nf.errCk_zero he
    have HPre := Sp.hid (fun (w2 : World) (hb : Below w.heap.size w w2) => (Nf.errNet_pre (h.below hb) he1).2.2)
    have hst := (Nf.errNet_pre h he1).1
    have Hne := Sp.hid (Nf.word_ne he2)
    have hgr := Sp.hid (show Nf.netGr n = Nf.grOf n.sig n.st.toNat n.arcs n.ends from rfl)
    rw [he] at HC
    obtain ⟨N, hN⟩ : ∃ N, n.st.toNat = N := ⟨_, rfl⟩
    rw [hN] at HPre hst hgr
    generalize Nf.netGr n = gr at hgr ⊢
    obtain ⟨r, hr⟩ : ∃ r, Nf.bl (Nf.Acc gr W) = r := ⟨_, rfl⟩
    rw [hr]
    have Hr := Sp.hid hr
    simp only
    obtain ⟨Z, hZ⟩ : ∃ Z, (gr.sig.filter fun s => Nf.bl (Nf.GoesOn gr W s)) = Z := ⟨_, rfl⟩
    rw [hZ]
    have HZ := Sp.hid hZ
    clear h hb0 hblk hW he he1 he2 hs hp hN hr hZ
    obtain ⟨so, sn, scap, sig, st, ao, an, acap, arcs, eo, en, ecap, ends⟩ := n
    unfold Nf.Net.val at *
    simp only [Nf.Net.cells] at *
    subst hst
    go_enter Tryz.func10, Tryz.ntmps10
    go_wp2_with fail
    refine HC.out.mono ?_
    rintro e w2 ⟨rfl, hb2⟩
    have hblk2 := Nf.blk_below Hblk.out hb2 (by simp)
    have d0 : w2.cell? ⟨w.heap.size, 0, none⟩ = some (.slice so sn scap) := Nf.blk_cell (i := 0) hblk2 rfl
    have d1 : w2.cell? ⟨w.heap.size, 1, none⟩ = some (.int .i64 (N : Int)) := Nf.blk_cell (i := 1) hblk2 rfl
    have d2 : w2.cell? ⟨w.heap.size, 2, none⟩ = some (.slice ao an acap) := Nf.blk_cell (i := 2) hblk2 rfl
    have d3 : w2.cell? ⟨w.heap.size, 3, none⟩ = some (.slice eo en ecap) := Nf.blk_cell (i := 3) hblk2 rfl
    have Hb2 := Sp.hid (Hb0.out.trans (hb2.mono Hb0.out.size))
    have HGo := Sp.hid (index_any w2 so sn scap sig N ao an acap arcs eo en ecap ends (HPre.out w2 Hb2.out))
    rw [← hgr.out] at HGo
    clear hb2 hblk2
    go_wp2_with fail
    refine HGo.out.mono ?_
    rintro e w3 ⟨gb, v, rfl, hG3, hb3⟩
    have HG := Sp.hid hG3
    have Hb3 := Sp.hid (Hb2.out.trans (hb3.mono Hb2.out.size))
    clear hG3 hb3 d0 d1 d2 d3
    have HLd : Hid (Calls Tryz.prog 29 #[.pointer (some ⟨gb, 0, none⟩), .slice wo wn wcap] w3 (fun e w6 => ∃ (m : Option Nat) (A : List Nat), e = .returned (.map m) ∧ Hid (Nf.MapOr w6 m A ∧ (∀ q, q ∈ A ↔ Nf.Lead gr W (Nf.Beg gr) q) ∧ (∀ q ∈ A, q < gr.N)) ∧ Hid (Below w3.heap.size w3 w6))) := Sp.hid (by
      refine (leads_any w3 gb v gr HG.out wo wn wcap W (HW.out.below Hb3.out) Hne.out).mono ?_
      rintro e w6 ⟨m, A, rfl, h1, h2, h3, h4⟩
      exact ⟨m, A, rfl, Sp.hid ⟨h1, h2, h3⟩, Sp.hid h4⟩)
    have HLv : Hid (∀ w5 : World, Hid (Below w3.heap.size w3 w5) → Calls Tryz.prog 30 #[.pointer (some ⟨gb, 0, none⟩)] w5 (fun e w6 => ∃ hb, e = .returned (.slice (some ⟨hb, 0, none⟩) gr.N gr.N) ∧ Hid (Nf.BoolsAt w6 hb gr.N (Nf.Live gr)) ∧ Hid (Below w5.heap.size w5 w6))) := Sp.hid (fun w5 hb => by
      refine (live_any w5 gb v gr (HG.out.below hb.out)).mono ?_
      rintro e w6 ⟨mb, rfl, h1, h2⟩
      exact ⟨mb, rfl, Sp.hid h1.2, Sp.hid h2⟩)
    go_wp2_with fail
    refine HLd.out.mono ?_
    rintro e wa ⟨m, A, rfl, HA5, HBa⟩
    go_wp2_with fail
    refine (HLv.out wa HBa).mono ?_
    rintro e wb ⟨mb, rfl, HM, HCb⟩
    have HGb := Sp.hid ((HG.out.below HBa.out).below HCb.out)
    have Hbb := Sp.hid ((Hb3.out.trans (HBa.out.mono Hb3.out.size)).trans (HCb.out.mono (Hb3.out.trans (HBa.out.mono Hb3.out.size)).size))
    have HAb : Hid (Nf.MapOr wb m A) := Sp.hid (by
      rcases HA5.out.1 with ⟨e, h0⟩ | ⟨b, e, hm⟩
      · exact .inl ⟨e, h0⟩
      · exact .inr ⟨b, e, hm.below HCb.out⟩)
    have Hiff := Sp.hid HA5.out.2.1
    have Hlt := Sp.hid HA5.out.2.2
    have HAny : Hid (∀ w5 : World, Hid (Below wb.heap.size wb w5) → Calls Tryz.prog 31 #[.map m, .slice (some ⟨v.eb, 0, none⟩) gr.N gr.N] w5 (fun e w6 => e = .returned (.bool r) ∧ Hid (Below w5.heap.size w5 w6))) := Sp.hid (fun w5 hb5 => by
      have hfin : Nf.bl (∃ q, q ∈ A ∧ q ∈ gr.ends) = r := by
        rw [← Hr.out]
        apply Nf.bl_congr
        constructor
        · rintro ⟨q, h1, h2⟩; exact ⟨q, h2, (Hiff.out q).1 h1⟩
        · rintro ⟨q, h1, h2⟩; exact ⟨q, (Hiff.out q).2 h2, h1⟩
      rcases HAb.out with ⟨rfl, h0⟩ | ⟨b, rfl, hm⟩
      · refine (anyOf_none w5 v.eb gr.N (· ∈ gr.ends)).mono ?_
        rintro e w6 ⟨rfl, hb6⟩
        rw [h0] at hfin
        exact ⟨by rw [hfin], Sp.hid hb6⟩
      · refine (anyOf_any w5 b A v.eb gr.N (· ∈ gr.ends) (hm.below hb5.out) Hlt.out HGb.out.small (HGb.out.ends.below hb5.out)).mono ?_
        rintro e w6 ⟨rfl, hb6⟩
        exact ⟨by rw [hfin], Sp.hid hb6⟩)
    obtain ⟨sgo, sgn, sgc, hsv⟩ : ∃ sgo sgn sgc, v.so = sgo ∧ v.sn = sgn ∧ v.scap = sgc := ⟨_, _, _, rfl, rfl, rfl⟩
    have hsn : sgn ≤ 40 := by rw [← hsv.2.1]; exact HGb.out.sn
    have g0 : wb.cell? ⟨gb, 0, none⟩ = some (.slice sgo sgn sgc) := by rw [← hsv.1, ← hsv.2.1, ← hsv.2.2]; exact Nf.blk_cell (i := 0) HGb.out.blk rfl
    have g1 : wb.cell? ⟨gb, 1, none⟩ = some (.slice (some ⟨v.eb, 0, none⟩) gr.N gr.N) := Nf.blk_cell (i := 1) HGb.out.blk rfl
    have g2 : wb.cell? ⟨gb, 2, none⟩ = some (.slice (some ⟨v.mb, 0, none⟩) gr.N gr.N) := Nf.blk_cell (i := 2) HGb.out.blk rfl
    have HSig : Hid (Sp.Row wb sgo sgn gr.sig) := Sp.hid (by rw [← hsv.1, ← hsv.2.1]; exact HGb.out.sig)
    have hgl : gb < wb.heap.size := Nf.blk_lt HGb.out.blk
    have hmk0 : (Instr.makeSlice 59 (.int .i64 (sgn : Int)) (.int .i64 (sgn : Int))).run Tryz.prog wb = .ok (.slice (some ⟨wb.heap.size, 0, none⟩) sgn sgn) (wb.alloc (.cells (madeCells #[.bool false] sgn) 4)) := run_make_row' _ _ _ 1 Tryz.underlying59 Nf.boolInfo rfl _ _ sgn (by omega) (by omega) wb
    have HV0 := Nf.vec_made_bool (w := wb.alloc (.cells (madeCells #[.bool false] sgn) 4)) (Nf.Below.heap_new wb _) (by omega)
    have hbm := (Below.refl wb.heap.size wb).alloc (Nat.le_refl _) (.cells (madeCells #[.bool false] sgn) 4)
    have hzM : (wb.alloc (.cells (madeCells #[.bool false] sgn) 4)).heap.size = wb.heap.size + 1 := by simp
    obtain ⟨wM, hwM⟩ : ∃ wM, wb.alloc (.cells (madeCells #[.bool false] sgn) 4) = wM := ⟨_, rfl⟩
    have hmk : (Instr.makeSlice 59 (.int .i64 (sgn : Int)) (.int .i64 (sgn : Int))).run Tryz.prog wb = .ok (.slice (some ⟨wb.heap.size, 0, none⟩) sgn sgn) wM := by rw [← hwM]; exact hmk0
    rw [hwM] at HV0 hbm hzM
    obtain ⟨fb, hfb⟩ : ∃ fb, wb.heap.size = fb := ⟨_, rfl⟩
    have Hfb := Sp.hid hfb
    rw [hfb] at hmk HV0 hzM
    have HzM := Sp.hid hzM
    have HV0 := Sp.hid HV0
    have Hbm := Sp.hid hbm
    clear hmk0 hwM hfb hzM hbm
    clear hsv HA5 HBa HCb HLd HLv HGo HC HPre Hne
    have HAb2 := HAb.out
    rcases HAb2 with ⟨rfl, h0⟩ | ⟨b, rfl, hm⟩
    · have hrg := run_range_nilMap (P := Tryz.prog) wM 57 3 4 Tryz.underlying57
      have hnx : ∀ ty, (Instr.next (.pointer (some ⟨wM.heap.size, 0, none⟩)) false ty).run Tryz.prog (wM.alloc (.mapIter none 0 #[] 0)) = _ := fun ty => run_next_nilMap wM ty 0 0 #[]
      go_wp2_with fail
      refine wp_loop_rounds 1 ?_
      rw [rounds_succ]
      have HVc := Sp.hid (Nf.Vec.alloc_ HV0.out (.mapIter none 0 #[] 0))
      have Hbc := Sp.hid (Hbm.out.alloc Hbm.out.size (.mapIter none 0 #[] 0))
      have HF : Hid (∀ x s, gr.sig[x]? = some s → (fun _ : Nat => false) x = Nf.bl (Nf.GoesOn gr W s)) := Sp.hid (fun x s hs => Nf.FlT.fol Nf.FlT.start HGb.out (fun q => by rw [h0]) Hiff.out x s hs)
      obtain ⟨F, hF⟩ : ∃ F : Nat → Bool, (fun _ : Nat => false) = F := ⟨_, rfl⟩
      rw [hF] at HVc HF
      obtain ⟨wc, hwc⟩ : ∃ wc, wM.alloc (.mapIter none 0 #[] 0) = wc := ⟨_, rfl⟩
      have Hwc := Sp.hid hwc
      have kA : (wM.alloc (.mapIter none 0 #[] 0)).cell? ⟨gb, 0, none⟩ = some (.slice sgo sgn sgc) := by rw [Hbc.out.cell (p := ⟨gb, 0, none⟩) hgl]; exact g0
      rw [hwc] at HVc Hbc
      clear hF hwc HV0 Hbm h0
      go_wp2_with fail
      rw [Hwc.out]
      clear Hwc kA
      have HSc := Sp.hid (HSig.out.below Hbc.out)
      go_loopw [15, 16, 17, 77] (fun t _ _ i wr => ∃ (k : Nat) (lv : Value) (L : List ByteArray), i = .int .i64 k ∧ k ≤ sgn ∧ lv = t ∧ Hid (wr.ownsRow wc.heap.size 9 1 lv L.length (L.map Value.string)) ∧ L.length ≤ k ∧ Hid (L = (gr.sig.take k).filter fun s => Nf.bl (Nf.GoesOn gr W s)) ∧ Hid (Below wc.heap.size wc wr)) (fun _ _ _ i _ => sgn - (intOf i).toNat)
      case atStart => exact ⟨0, _, [], rfl, Nat.zero_le _, rfl, Sp.hid (World.ownsRow_nil _ _ _ _), Nat.le_refl _, Sp.hid (by simp), Sp.hid (Below.refl _ _)⟩
      case round =>
        obtain ⟨k, lv, L, rfl, hk, rfl, Hown, hLk, HL, Hb⟩ := hrel
        by_cases hkn : k < sgn
        · obtain ⟨b9, off9, s, hso9, cs0, hsz9, hs?, htk⟩ := (HSc.out.below Hb.out).at hkn
          have cs : wr.cell? ⟨b9, off9 + k, none⟩ = some (.string s) := cs0
          have i1 : (0 : Int) ≤ (k : Int) := by omega
          have i2 : (k : Int) < (sgn : Int) := by omega
          have hFk : F k = Nf.bl (Nf.GoesOn gr W s) := HF.out k s hs?
          have cf : wr.cell? ⟨fb, k, none⟩ = some (.bool (F k)) := by
            have h1 := HVc.out.cell hkn
            rw [Hb.out.cell (World.block_lt_of_cell? wc _ h1)]; exact h1
          subst hso9
          have hbs := Hb.out.size
          by_cases hfol : Nf.GoesOn gr W s
          · rw [hFk, Nf.bl_true hfol] at cf
            have HL2 : Hid (L ++ [s] = (gr.sig.take (k + 1)).filter fun s => Nf.bl (Nf.GoesOn gr W s)) := Sp.hid (by rw [htk, List.filter_append, ← HL.out]; simp [Nf.bl_true hfol])
            have HownP := Sp.hid (show (wr.alloc (.cells #[.string s] 9)).ownsRow wc.heap.size 9 1 lv L.length (L.map Value.string) from Hown.out.alloc _)
            have hwB : wc.heap.size ≤ (wr.alloc (.cells #[.string s] 9)).heap.size := by simp; omega
            clear cs0 hsz9 hs? htk hfol hFk
            go_wp2_with (first
              | (at_builtin; refine Nf.push_str rfl _ _ rfl wc.heap.size lv L rfl HownP.out s ⟨wr.heap.size, 0, none⟩ 1 rfl ?c1 ?c2 ?c3 ?_)
              | fail)
            case c1 => simp [go_sem]
            case c2 => omega
            case c3 => exact hwB
            intro v2 w5 hown5 hgrow5 hat5
            have Hb5 : Hid (Below wc.heap.size wc w5) := Sp.hid (by
              have hg := grownBy_trans (World.grownBy_alloc wr (.cells #[.string s] 9) lv.ownBlock) hgrow5
              exact Hb.out.grown hg hbs (fun k hk => (HownP.out.lt k hk).1))
            have Hown5 := Sp.hid (show w5.ownsRow wc.heap.size 9 1 v2 (L ++ [s]).length ((L ++ [s]).map Value.string) by simpa using hown5)
            clear hown5 hgrow5 hat5
            go_wp2_with fail
            go_roundw
            case rel => exact ⟨k + 1, v2, L ++ [s], by go_num, hkn, rfl, Hown5, by simp; omega, HL2, Hb5⟩
            case measure => simp [intOf]; omega
          · rw [hFk, Nf.bl_false hfol] at cf
            have HL2 : Hid (L = (gr.sig.take (k + 1)).filter fun s => Nf.bl (Nf.GoesOn gr W s)) := Sp.hid (by rw [htk, List.filter_append, ← HL.out]; simp [Nf.bl_false hfol])
            clear cs0 hsz9 hs? htk hfol hFk
            go_wp2_with fail
            go_roundw
            case rel => exact ⟨k + 1, _, L, by go_num, hkn, rfl, Hown, by omega, HL2, Hb⟩
            case measure => simp [intOf]; omega
        · have HLZ : Hid (L = Z) := Sp.hid (by rw [HL.out, ← HZ.out, List.take_of_length_le (by have := HSc.out.1; omega)])
          have HszL : Hid (∀ s ∈ L, s.size ≤ maxLen) := Sp.hid (fun s hs => by
            rw [HL.out] at hs
            exact HSc.out.2.2.2 s (List.mem_of_mem_take (List.mem_filter.1 hs).1))
          obtain ⟨lo, lcap, rfl, hrow, _⟩ := Nf.row_of_own Hown.out (by unfold maxLen; omega) HszL.out
          have Hrow := Sp.hid hrow
          have Hbr := Sp.hid (Hbc.out.trans (Hb.out.mono Hbc.out.size))
          have k1 : wr.cell? ⟨gb, 1, none⟩ = some (.slice (some ⟨v.eb, 0, none⟩) gr.N gr.N) := by rw [Hbr.out.cell (p := ⟨gb, 1, none⟩) hgl]; exact g1
          have HAn := Sp.hid (HAny.out wr Hbr)
          clear hrow
          go_wp2_with fail
          refine HAn.out.mono ?_
          rintro e w6 ⟨rfl, Hb6⟩
          go_wp2_with fail
          go_ret3
          exact ⟨lo, L.length, lcap, rfl, by have h := Hrow.out.below Hb6.out; rwa [HLZ.out] at h ⊢, Hbb.out.trans ((Hbr.out.trans (Hb6.out.mono Hbr.out.size)).mono Hbb.out.size)⟩
    · have hbl : b < wb.heap.size := by
        obtain ⟨D, ⟨es, clock, hb, _⟩, _⟩ := hm
        exact Nf.blk_lt hb
      have Hm := Sp.hid (hm.below Hbm.out)
      have hA9 : Hid (∀ q ∈ A, q ≤ 1000000000) := Sp.hid (fun q hq => by have := Hlt.out q hq; have := HGb.out.small; omega)
      clear hm
      go_wp2_with (first
        | (at_range; refine Nf.set_range rfl _ rfl rfl Hm.out ?_; intro w1 cnt hr1 hcA hg1 hs1)
        | fail)
      have Hr1 := Sp.hid hr1
      have Hb1 : Hid (Below wb.heap.size wb w1) := Sp.hid (Hbm.out.grown hg1 Hbm.out.size (fun k hk => by cases hk))
      have HV1 : Hid (Vec Value.bool w1 fb 4 sgn sgn (fun _ => false)) := Sp.hid (HV0.out.grown hg1 (by simp))
      obtain ⟨r', hr'⟩ : ∃ r', wM.heap.size = r' := ⟨_, rfl⟩
      have hfr : fb ≠ r' := by have := HzM.out; omega
      have hbf : b ≠ fb := by have := Hfb.out; omega
      have hbr : b ≠ r' := by have := HzM.out; have := Hfb.out; omega
      have hzr : wb.heap.size ≤ r' := by have := HzM.out; have := Hfb.out; omega
      have hzf : wb.heap.size ≤ fb := by have := Hfb.out; omega
      have Hne3 := Sp.hid (And.intro hfr (And.intro hbf hbr))
      have Hzz := Sp.hid (And.intro hzr hzf)
      rw [hr'] at Hr1 ⊢
      clear hr1 hg1 hcA hs1 hr' hfr hbf hbr hzr hzf hbl HV0 Hbm HzM Hfb hmk Hm
      obtain ⟨wo1, hwo⟩ : ∃ wo : World, wo = wM := ⟨_, rfl⟩
      go_frame
      go_loopw [12] (fun _ wr => ∃ (T : List Nat) (cnt : Nat) (F : Nat → Bool), Hid (Nf.SetRng wr b r' T A cnt) ∧ Hid (∀ q ∈ T, q ∈ A) ∧ Hid (Nf.FlT v.Mv (Nf.Live gr) T F) ∧ Hid (Vec Value.bool wr fb 4 sgn sgn F) ∧ Hid (Below wb.heap.size wb wr)) (fun _ wr => wr.rangeLeft b r')
      case atStart => exact ⟨[], cnt, _, Hr1, Sp.hid (by simp), Sp.hid Nf.FlT.start, HV1, Hb1⟩
      case round =>
        clear Hr1 Hb1 HV1
        obtain ⟨T, cnt, F, Hr, HTA, Hfl, HV, Hb⟩ := hrel
        go_wp2_with (first
          | (at_next; refine Nf.set_next rfl _ rfl rfl Hr.out hA9.out ?_ ?_)
          | fail)
        · intro hdone
          have HF : Hid (∀ x s, gr.sig[x]? = some s → F x = Nf.bl (Nf.GoesOn gr W s)) := Sp.hid (fun x s hs => Hfl.out.fol HGb.out (fun q => ⟨HTA.out q, hdone q⟩) Hiff.out x s hs)
          obtain ⟨wc, hwc⟩ : ∃ wc, wr = wc := ⟨_, rfl⟩
          have HVc : Hid (Vec Value.bool wc fb 4 sgn sgn F) := by rw [← hwc]; exact HV
          have Hbc : Hid (Below wb.heap.size wb wc) := by rw [← hwc]; exact Hb
          rw [hwc]
          have k0 : wc.cell? ⟨gb, 0, none⟩ = some (.slice sgo sgn sgc) := by rw [Hbc.out.cell (p := ⟨gb, 0, none⟩) hgl]; exact g0
          clear hdone Hr HTA Hfl HV Hb hwc
          go_wp2_with fail
          have HSc := Sp.hid (HSig.out.below Hbc.out)
          go_loopw [15, 16, 17, 77] (fun t _ _ i wr => ∃ (k : Nat) (lv : Value) (L : List ByteArray), i = .int .i64 k ∧ k ≤ sgn ∧ lv = t ∧ Hid (wr.ownsRow wc.heap.size 9 1 lv L.length (L.map Value.string)) ∧ L.length ≤ k ∧ Hid (L = (gr.sig.take k).filter fun s => Nf.bl (Nf.GoesOn gr W s)) ∧ Hid (Below wc.heap.size wc wr)) (fun _ _ _ i _ => sgn - (intOf i).toNat)
          case atStart => exact ⟨0, _, [], rfl, Nat.zero_le _, rfl, Sp.hid (World.ownsRow_nil _ _ _ _), Nat.le_refl _, Sp.hid (by simp), Sp.hid (Below.refl _ _)⟩
          case round =>
            obtain ⟨k, lv, L, rfl, hk, rfl, Hown, hLk, HL, Hb⟩ := hrel
            by_cases hkn : k < sgn
            · obtain ⟨b9, off9, s, hso9, cs0, hsz9, hs?, htk⟩ := (HSc.out.below Hb.out).at hkn
              have cs : wr.cell? ⟨b9, off9 + k, none⟩ = some (.string s) := cs0
              have i1 : (0 : Int) ≤ (k : Int) := by omega
              have i2 : (k : Int) < (sgn : Int) := by omega
              have hFk : F k = Nf.bl (Nf.GoesOn gr W s) := HF.out k s hs?
              have cf : wr.cell? ⟨fb, k, none⟩ = some (.bool (F k)) := by
                have h1 := HVc.out.cell hkn
                rw [Hb.out.cell (World.block_lt_of_cell? wc _ h1)]; exact h1
              subst hso9
              have hbs := Hb.out.size
              by_cases hfol : Nf.GoesOn gr W s
              · rw [hFk, Nf.bl_true hfol] at cf
                have HL2 : Hid (L ++ [s] = (gr.sig.take (k + 1)).filter fun s => Nf.bl (Nf.GoesOn gr W s)) := Sp.hid (by rw [htk, List.filter_append, ← HL.out]; simp [Nf.bl_true hfol])
                have HownP := Sp.hid (show (wr.alloc (.cells #[.string s] 9)).ownsRow wc.heap.size 9 1 lv L.length (L.map Value.string) from Hown.out.alloc _)
                have hwB : wc.heap.size ≤ (wr.alloc (.cells #[.string s] 9)).heap.size := by simp; omega
                clear cs0 hsz9 hs? htk hfol hFk
                go_wp2_with (first
                  | (at_builtin; refine Nf.push_str rfl _ _ rfl wc.heap.size lv L rfl HownP.out s ⟨wr.heap.size, 0, none⟩ 1 rfl ?c1 ?c2 ?c3 ?_)
                  | fail)
                case c1 => simp [go_sem]
                case c2 => omega
                case c3 => exact hwB
                intro v2 w5 hown5 hgrow5 hat5
                have Hb5 : Hid (Below wc.heap.size wc w5) := Sp.hid (by
                  have hg := grownBy_trans (World.grownBy_alloc wr (.cells #[.string s] 9) lv.ownBlock) hgrow5
                  exact Hb.out.grown hg hbs (fun k hk => (HownP.out.lt k hk).1))
                have Hown5 := Sp.hid (show w5.ownsRow wc.heap.size 9 1 v2 (L ++ [s]).length ((L ++ [s]).map Value.string) by simpa using hown5)
                clear hown5 hgrow5 hat5
                go_wp2_with fail
                go_roundw
                case rel => exact ⟨k + 1, v2, L ++ [s], by go_num, hkn, rfl, Hown5, by simp; omega, HL2, Hb5⟩
                case measure => simp [intOf]; omega
              · rw [hFk, Nf.bl_false hfol] at cf
                have HL2 : Hid (L = (gr.sig.take (k + 1)).filter fun s => Nf.bl (Nf.GoesOn gr W s)) := Sp.hid (by rw [htk, List.filter_append, ← HL.out]; simp [Nf.bl_false hfol])
                clear cs0 hsz9 hs? htk hfol hFk
                go_wp2_with fail
                go_roundw
                case rel => exact ⟨k + 1, _, L, by go_num, hkn, rfl, Hown, by omega, HL2, Hb⟩
                case measure => simp [intOf]; omega
            · have HLZ : Hid (L = Z) := Sp.hid (by rw [HL.out, ← HZ.out, List.take_of_length_le (by have := HSc.out.1; omega)])
              have HszL : Hid (∀ s ∈ L, s.size ≤ maxLen) := Sp.hid (fun s hs => by
                rw [HL.out] at hs
                exact HSc.out.2.2.2 s (List.mem_of_mem_take (List.mem_filter.1 hs).1))
              obtain ⟨lo, lcap, rfl, hrow, _⟩ := Nf.row_of_own Hown.out (by unfold maxLen; omega) HszL.out
              have Hrow := Sp.hid hrow
              have Hbr := Sp.hid (Hbc.out.trans (Hb.out.mono Hbc.out.size))
              have k1 : wr.cell? ⟨gb, 1, none⟩ = some (.slice (some ⟨v.eb, 0, none⟩) gr.N gr.N) := by rw [Hbr.out.cell (p := ⟨gb, 1, none⟩) hgl]; exact g1
              have HAn := Sp.hid (HAny.out wr Hbr)
              clear hrow
              go_wp2_with fail
              refine HAn.out.mono ?_
              rintro e w6 ⟨rfl, Hb6⟩
              go_wp2_with fail
              go_ret3
              exact ⟨lo, L.length, lcap, rfl, by have h := Hrow.out.below Hb6.out; rwa [HLZ.out] at h ⊢, Hbb.out.trans ((Hbr.out.trans (Hb6.out.mono Hbr.out.size)).mono Hbb.out.size)⟩
        · intro p w2' cnt2 hpA hpT hr2 hlt2 hg2 hs2 hen
          have hpN := Hlt.out p hpA
          have Hb2' : Hid (Below wb.heap.size wb w2') := Sp.hid (Hb.out.grown hg2 Hb.out.size (fun k hk => by cases hk; exact Hzz.out.1))
          have c2 : w2'.cell? ⟨gb, 2, none⟩ = some (.slice (some ⟨v.mb, 0, none⟩) gr.N gr.N) := by rw [Hb2'.out.cell (p := ⟨gb, 2, none⟩) hgl]; exact g2
          obtain ⟨ro, rcap, hcr0, hrn, hcc0⟩ := HGb.out.mov p hpN
          obtain ⟨rn, hrn'⟩ : ∃ rn, (v.Mv p).length = rn := ⟨_, rfl⟩
          rw [hrn'] at hcr0 hrn hcc0
          have Hrn := Sp.hid hrn'
          have hcr : w2'.cell? ⟨v.mb, p, none⟩ = some (.slice ro rn rcap) := by rw [Hb2'.out.cell (World.block_lt_of_cell? wb _ hcr0)]; exact hcr0
          have Hcc := Sp.hid hcc0
          have Hr2 := Sp.hid hr2
          have HpA := Sp.hid hpA
          have Hin := Sp.hid (Hfl.out.begin (p := p))
          have Hlt2 := Sp.hid hlt2
          have HV2 : Hid (Vec Value.bool w2' fb 4 sgn sgn F) := Sp.hid (HV.out.grown hg2 (by simp; exact Hne3.out.1))
          have HNN := HGb.out.small
          have i3 : (0 : Int) ≤ (p : Int) := by omega
          have i4 : (p : Int) < (gr.N : Int) := by omega
          clear hpA hpT hr2 hg2 hs2 hlt2 hcr0 hcc0 hrn'
          obtain ⟨wo2, hwo2⟩ : ∃ wo : World, wo = wr := ⟨_, rfl⟩
          go_wp2_with fail
          clear c2 hcr
          go_loopw [51] (fun i wr => ∃ (j : Nat) (F' : Nat → Bool), i = .int .i64 j ∧ j ≤ rn ∧ Hid (Nf.SetRng wr b r' (T ++ [p]) A cnt2) ∧ Hid (Nf.FlIn v.Mv (Nf.Live gr) T p j F') ∧ Hid (Vec Value.bool wr fb 4 sgn sgn F') ∧ Hid (Below wb.heap.size wb wr)) (fun i _ => rn - (intOf i).toNat)
          case atStart => exact ⟨0, F, rfl, Nat.zero_le _, Hr2, Hin, HV2, Hb2'⟩
          case round =>
            clear Hr2 Hin HV2 Hb2'
            obtain ⟨j, F', rfl, hj, Hr3, Hfl3, HV3, Hb3'⟩ := hrel
            by_cases hjn : j < rn
            · obtain ⟨mb', off', rfl, hcell⟩ := Hcc.out (by omega)
              obtain ⟨⟨y, q⟩, hyq⟩ : ∃ yq, (v.Mv p)[j]? = some yq := ⟨(v.Mv p)[j]'(by rw [Hrn.out]; exact hjn), by simp [Hrn.out, hjn]⟩
              obtain ⟨e0, e1⟩ := hcell j (y, q) hyq
              have cm0 : wr.cell? ⟨mb', off' + j * 2, none⟩ = some (.int .i64 y) := by rw [Hb3'.out.cell (World.block_lt_of_cell? wb _ e0)]; exact e0
              have cm1 : wr.cell? ⟨mb', off' + j * 2 + 1, none⟩ = some (.int .i64 q) := by rw [Nat.add_assoc, Hb3'.out.cell (World.block_lt_of_cell? wb _ e1)]; exact e1
              have hz3 := Hb3'.out.size
              have hqN : q < gr.N := by
                obtain ⟨s', _, ha⟩ := (HGb.out.mv_iff p y q).1 (List.mem_of_getElem? hyq)
                exact HGb.out.ok.to_ _ ha
              have hyn : y < sgn := by
                obtain ⟨s', hs', _⟩ := (HGb.out.mv_iff p y q).1 (List.mem_of_getElem? hyq)
                have h1 := (List.getElem?_eq_some_iff.1 hs').1
                have h3 := HSig.out.1
                omega
              have Hnx := Sp.hid (Hfl3.out.next hyq)
              have HV4 := Sp.hid (Nf.Vec.alloc_ HV3.out (.cells #[.int .i64 y, .int .i64 q] 67))
              have hab := Nf.Below.heap_new wr (.cells #[.int .i64 y, .int .i64 q] 67)
              have cl0 := HM.out q hqN
              have cl : (wr.alloc (.cells #[.int .i64 y, .int .i64 q] 67)).cell? ⟨mb, q, none⟩ = some (.bool (Nf.bl (Nf.Live gr q))) := by
                have hb9 := Hb3'.out.alloc hz3 (.cells #[.int .i64 y, .int .i64 q] 67)
                rw [hb9.cell (World.block_lt_of_cell? wb _ cl0)]; exact cl0
              obtain ⟨wq, hwq⟩ : ∃ wq, wr.alloc (.cells #[.int .i64 y, .int .i64 q] 67) = wq := ⟨_, rfl⟩
              obtain ⟨ab, hab2⟩ : ∃ ab, wr.heap.size = ab := ⟨_, rfl⟩
              have Hwq := Sp.hid hwq
              have Hab2 := Sp.hid hab2
              rw [hwq, hab2] at hab
              rw [hwq] at HV4 cl
              have i5 : (0 : Int) ≤ (y : Int) := by omega
              have i6 : (y : Int) < (sgn : Int) := by omega
              have i7 : (0 : Int) ≤ (q : Int) := by omega
              have i8 : (q : Int) < (gr.N : Int) := by omega
              have i9 : (0 : Int) ≤ (j : Int) := by omega
              have i10 : (j : Int) < (rn : Int) := by omega
              have ca0 : wq.cell? ⟨ab, 0, none⟩ = some (.int .i64 y) := Nf.blk_cell (i := 0) hab rfl
              have ca1 : wq.cell? ⟨ab, 1, none⟩ = some (.int .i64 q) := Nf.blk_cell (i := 1) hab rfl
              have cf := HV4.out.cell hyn
              have ff := HV4.out.free y
              have Hb4 : Hid (Below wb.heap.size wb (wq.setCell ⟨fb, y, none⟩ (.bool (F' y || Nf.bl (Nf.Live gr q))))) := Sp.hid (by rw [← hwq]; exact (Hb3'.out.alloc hz3 _).setCell (p := ⟨fb, y, none⟩) Hzz.out.2 _)
              have HV5 := Sp.hid (HV4.out.set (i := y) (F' y || Nf.bl (Nf.Live gr q)))
              have Hr5 : Hid (Nf.SetRng (wq.setCell ⟨fb, y, none⟩ (.bool (F' y || Nf.bl (Nf.Live gr q)))) b r' (T ++ [p]) A cnt2) := Sp.hid (by
                rw [← hwq]
                exact (Hr3.out.alloc _).kept (row := some fb) ⟨rfl, rfl, rfl, by simp [World.setCell], fun k hk hne => Below.heap_setCell _ _ _ _ (fun e => hne (by rw [e]))⟩ (by simp; exact Hne3.out.2.1) (by simp; exact fun e => Hne3.out.1 e.symm))
              clear hyq e0 e1 hcell cl0 hwq hab2 hab
              generalize Nf.bl (Nf.Live gr q) = lq at cl Hb4 HV5 Hr5 Hnx
              go_wp2_with fail
              rw [Hwq.out, Hab2.out]
              clear cm0 cm1
              cases hFy : F' y with
              | true =>
                rw [hFy] at cf Hb4 HV5 Hr5 Hnx
                simp only [Bool.true_or] at Hb4 HV5 Hr5 Hnx
                clear hFy
                go_region
                go_wp2_with fail
                go_roundw
                case rel => exact ⟨j + 1, _, by go_num, hjn, Hr5, Hnx, HV5, Sp.hid Hb4.out.drew⟩
                case measure => simp [intOf]; omega
              | false =>
                rw [hFy] at cf Hb4 HV5 Hr5 Hnx
                simp only [Bool.false_or] at Hb4 HV5 Hr5 Hnx
                clear hFy
                go_region
                go_wp2_with fail
                go_roundw
                case rel => exact ⟨j + 1, _, by go_num, hjn, Hr5, Hnx, HV5, Sp.hid Hb4.out.drew⟩
                case measure => simp [intOf]; omega
            · have Hmd := Sp.hid (Hfl3.out.done (by rw [Hrn.out]; omega))
              go_wp2_with fail
              go_roundw
              case rel => exact ⟨T ++ [p], cnt2, F', Hr3, Sp.hid (fun q hq => by
                rcases List.mem_append.1 hq with hq | hq
                · exact HTA.out q hq
                · simp at hq; subst hq; exact HpA.out), Hmd, HV3, Hb3'⟩
              case measure => rw [Hr3.out.left_eq, ← hwo2, hwo2, Hr.out.left_eq]; exact Hlt2.out
  · have hs := Sp.hid (show Nf.nextSpec n W = ([], false, Nf.errCk n W) by unfold Nf.nextSpec; rw [if_pos he])
    rw [hs.out]
    generalize Nf.errCk n W = r at HC he
    have h3 : (r != 0) = true := by simpa using he
    clear h hb0 hblk hW he hs hp
    obtain ⟨so, sn, scap, sig, st, ao, an, acap, arcs, eo, en, ecap, ends⟩ := n
    unfold Nf.Net.val at *
    simp only [Nf.Net.cells] at *
    go_enter Tryz.func10, Tryz.ntmps10
    go_wp2_with fail
    refine HC.out.mono ?_
    rintro e w2 ⟨rfl, hb2⟩
    have Hb2 := Sp.hid (Hb0.out.trans (hb2.mono Hb0.out.size))
    clear hb2
    go_wp2_with fail
    go_ret3
    exact ⟨none, 0, 0, rfl, ⟨rfl, by decide, fun h => absurd h (by decide), by simp⟩, Hb2.out⟩
end Go.Proofs.YteggofjldgjfiaaGreat
