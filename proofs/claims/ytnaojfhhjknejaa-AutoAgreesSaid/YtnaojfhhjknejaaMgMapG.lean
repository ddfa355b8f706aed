/-
  The walk of leads.
-/
import Derived.Test.YtnaojfhhjknejaaMgMapE
set_option linter.unusedVariables false
set_option linter.unusedSimpArgs false
namespace Go.Proofs.Ytnaojfhhjknejaa
open Go.RowKit
namespace Nf
/-- A map, or none that holds nothing. -/
def MapOr (w : World) (m : Option Nat) (A : List Nat) : Prop := (m = none ∧ A = []) ∨ ∃ b, m = some b ∧ SetMap w b A
def LdPost (g : Gr) (W : List ByteArray) (w : World) (e : Ending) (w' : World) : Prop :=
  ∃ (m : Option Nat) (A : List Nat), e = .returned (.map m) ∧ MapOr w' m A ∧ (∀ q, q ∈ A ↔ Lead g W (Beg g) q) ∧ (∀ q ∈ A, q < g.N) ∧ RowKit.Below w.heap.size w w'
theorem own_one (w : World) (base x : Nat) (hb : base ≤ w.heap.size) : (w.alloc (.cells #[.int .i64 x] 3)).ownsRow base 3 1 (.slice (some ⟨w.heap.size, 0, none⟩) 1 1) 1 [num x] := by
  have h1 : (1 : Nat) ≤ maxLen := by unfold maxLen; omega
  exact ⟨rfl, .inr ⟨w.heap.size, 1, #[.int .i64 x], rfl, hb, Below.heap_new w _, Nat.le_refl _, h1, rfl, rfl⟩⟩
/-- The states that moves of a symbol's number lead to from states that have come. -/
structure Mvd (Mv : Nat → List (Nat × Nat)) (x : Nat) (T O : List Nat) : Prop where
  iff : ∀ q, q ∈ O ↔ ∃ p, p ∈ T ∧ (x, q) ∈ Mv p
  len : O.length ≤ T.length * 1000000
/-- .. and of the row of p the first j. -/
structure MvIn (Mv : Nat → List (Nat × Nat)) (x : Nat) (T : List Nat) (p j : Nat) (O : List Nat) : Prop where
  iff : ∀ q, q ∈ O ↔ (∃ p, p ∈ T ∧ (x, q) ∈ Mv p) ∨ (x, q) ∈ (Mv p).take j
  len : O.length ≤ T.length * 1000000 + j
variable {Mv : Nat → List (Nat × Nat)} {x : Nat} {T O : List Nat} {p j : Nat}
theorem Mvd.start : Mvd Mv x [] [] := ⟨by simp, by simp⟩
theorem Mvd.begin (h : Mvd Mv x T O) : MvIn Mv x T p 0 O := ⟨fun q => by rw [h.iff]; simp, by rw [Nat.add_zero]; exact h.len⟩
theorem MvIn.yes {y q : Nat} (h : MvIn Mv x T p j O) (hj : (Mv p)[j]? = some (y, q)) (hy : y = x) : MvIn Mv x T p (j + 1) (O ++ [q]) := by
  subst hy
  obtain ⟨hl, he⟩ := List.getElem?_eq_some_iff.1 hj
  refine ⟨fun r => ?_, by have := h.len; simp; omega⟩
  rw [List.mem_append, h.iff, List.take_succ_eq_append_getElem hl, List.mem_append, he]
  simp
  constructor
  · rintro ((h | h) | h)
    · exact .inl h
    · exact .inr (.inl h)
    · exact .inr (.inr h)
  · rintro (h | h | h)
    · exact .inl (.inl h)
    · exact .inl (.inr h)
    · exact .inr h
theorem MvIn.no {y q : Nat} (h : MvIn Mv x T p j O) (hj : (Mv p)[j]? = some (y, q)) (hy : y ≠ x) : MvIn Mv x T p (j + 1) O := by
  obtain ⟨hl, he⟩ := List.getElem?_eq_some_iff.1 hj
  refine ⟨fun r => ?_, by have := h.len; omega⟩
  rw [h.iff, List.take_succ_eq_append_getElem hl, List.mem_append, he]
  simp
  constructor
  · rintro (h | h)
    · exact .inl h
    · exact .inr (.inl h)
  · rintro (h | h | h)
    · exact .inl h
    · exact .inr h
    · exact absurd h.1.symm hy
theorem MvIn.done (h : MvIn Mv x T p j O) (hj : (Mv p).length ≤ j) (hjm : j ≤ 1000000) : Mvd Mv x (T ++ [p]) O := by
  refine ⟨fun q => ?_, by have := h.len; simp; omega⟩
  rw [h.iff, List.take_of_length_le hj]
  constructor
  · rintro (⟨a, ha, hq⟩ | hq)
    · exact ⟨a, List.mem_append_left _ ha, hq⟩
    · exact ⟨p, by simp, hq⟩
  · rintro ⟨a, ha, hq⟩
    rcases List.mem_append.1 ha with ha | ha
    · exact .inl ⟨a, ha, hq⟩
    · simp at ha; subst ha; exact .inr hq
theorem Mvd.lt {g : Gr} {w : World} {gb : Nat} {v : Gv} (h : Mvd v.Mv x T O) (hG : GrAt w gb v g) : ∀ q ∈ O, q < g.N := fun q hq => by
  obtain ⟨p, _, hm⟩ := (h.iff q).1 hq
  obtain ⟨s, _, ha⟩ := (hG.mv_iff p x q).1 hm
  exact hG.ok.to_ _ ha
/-- All have come: the states behind the symbol. -/
theorem Mvd.step {g : Gr} {w : World} {gb : Nat} {v : Gv} {A : List Nat} {S : Nat → Prop} {s : ByteArray} (h : Mvd v.Mv x T O) (hG : GrAt w gb v g) (hs : g.sig[x]? = some s) (hT : ∀ q, q ∈ T ↔ q ∈ A) (hA : ∀ q, q ∈ A ↔ S q) (q : Nat) : Cl g (· ∈ O) q ↔ StepTo g S s q := by
  have key : ∀ r, r ∈ O ↔ ∃ p, S p ∧ (p, s, r) ∈ g.arcs := fun r => by
    rw [h.iff]
    constructor
    · rintro ⟨p, hp, hm⟩
      obtain ⟨s', hs', ha⟩ := (hG.mv_iff p x r).1 hm
      rw [hs] at hs'
      cases hs'
      exact ⟨p, (hA p).1 ((hT p).1 hp), ha⟩
    · rintro ⟨p, hp, ha⟩
      exact ⟨p, (hT p).2 ((hA p).2 hp), (hG.mv_iff p x r).2 ⟨s, hs, ha⟩⟩
  constructor
  · rintro ⟨r, hr, hst⟩
    obtain ⟨p, hp, ha⟩ := (key r).1 hr
    exact ⟨p, r, hp, ha, hst⟩
  · rintro ⟨p, r, hp, ha, hst⟩
    exact ⟨r, (key r).2 ⟨p, hp, ha⟩, hst⟩
theorem lead_take {g : Gr} {W : List ByteArray} {k : Nat} {s : ByteArray} (h : W.take (k + 1) = W.take k ++ [s]) (q : Nat) : Lead g (W.take (k + 1)) (Beg g) q ↔ StepTo g (Lead g (W.take k) (Beg g)) s q := by
  rw [h, lead_snoc]
theorem lead_stop {g : Gr} (ok : Ok g) {W : List ByteArray} {k : Nat} {s : ByteArray} (hk : W[k]? = some s) (h0 : s ≠ eps) (hs : s ∉ g.sig) (q : Nat) : ¬ Lead g W (Beg g) q := by
  obtain ⟨hl, he⟩ := List.getElem?_eq_some_iff.1 hk
  have e : W = W.take k ++ s :: W.drop (k + 1) := by rw [← he, ← List.drop_eq_getElem_cons hl, List.take_append_drop]
  rw [e, lead_append]
  have e2 : StepTo g (Lead g (W.take k) (Beg g)) s = fun _ => False := funext fun q => propext ⟨fun ⟨a, b, _, h, _⟩ => (ok.sym _ h).elim h0 hs, fun h => h.elim⟩
  show ¬ Lead g (W.drop (k + 1)) (StepTo g (Lead g (W.take k) (Beg g)) s) q
  rw [e2]
  exact lead_none _ _
end Nf

set_option maxHeartbeats 4000000 in
set_option maxRecDepth 100000 in
theorem leads_any (w : World) (gb : Nat) (v : Nf.Gv) (g : Nf.Gr) (hG : Nf.GrAt w gb v g) (wo : Option Addr) (wn wcap : Nat) (W : List ByteArray) (hW : Sp.Row w wo wn W) (hne : ∀ s ∈ W, s ≠ Nf.eps) :
    Calls Try.prog 18 #[.pointer (some ⟨gb, 0, none⟩), .slice wo wn wcap] w (Nf.LdPost g W w) := by
  have hp : Nf.LdPost g W w = fun e w' => ∃ (m : Option Nat) (A : List Nat), e = .returned (.map m) ∧ Nf.MapOr w' m A ∧ (∀ q, q ∈ A ↔ Nf.Lead g W (Nf.Beg g) q) ∧ (∀ q ∈ A, q < g.N) ∧ RowKit.Below w.heap.size w w' := rfl
  rw [hp]
  have HN := Sp.hid hG.small
  have HG := Sp.hid hG
  have HW := Sp.hid hW
  have Hne := Sp.hid hne
  have hwn := hW.le
  have Hlen := Sp.hid hW.1
  have hba : Below w.heap.size w (w.alloc (.cells #[.int .i64 0] 3)) := (Below.refl _ w).alloc (Nat.le_refl _) _
  have HC0 := Sp.hid (closed_any w _ gb v g hba hG [0] (some ⟨w.heap.size, 0, none⟩) 1 (Nf.own_one w w.heap.size 0 (Nat.le_refl _)) (by intro q hq; simp at hq; subst hq; exact hG.ok.pos) (by simp))
  have hcp : ∀ S : List Nat, Nf.ClPost w g S = fun e w' => ∃ (b : Nat) (A : List Nat), e = .returned (.map (some b)) ∧ Nf.SetMap w' b A ∧ (∀ q, q ∈ A ↔ Nf.Cl g (· ∈ S) q) ∧ (∀ q ∈ A, q < g.N) ∧ A.length ≤ 3000 ∧ w.heap.size ≤ b ∧ Below w.heap.size w w' := fun _ => rfl
  have Hcp := Sp.hid hcp
  simp only [List.length_cons, List.length_nil] at HC0
  clear hG hW hne hba hp hcp
  go_enter Try.func18, Try.ntmps18
  go_wp2_with fail
  refine HC0.out.mono ?_
  rintro e w1 ⟨b, A, rfl, hm, hiff, hlt, hlen, hge, hb1⟩
  have Hm := Sp.hid hm
  have Hiff : Hid (∀ q, q ∈ A ↔ Nf.Lead g (W.take 0) (Nf.Beg g) q) := Sp.hid (fun q => by
    rw [hiff, List.take_zero]
    show Nf.Cl g (· ∈ [0]) q ↔ Nf.Cl g (· = 0) q
    unfold Nf.Cl
    simp)
  have Hlt := Sp.hid hlt
  have Hb1 := Sp.hid hb1
  have Hgeb := Sp.hid hge
  have HlenA := Sp.hid hlen
  clear hm hiff hlt hlen hge hb1
  go_wp2_with fail
  go_loopw [5, 19] (fun t i wr => ∃ (k b : Nat) (A : List Nat), t = .map (some b) ∧ i = .int .i64 k ∧ k ≤ wn ∧ Hid (Nf.SetMap wr b A) ∧ Hid (∀ q, q ∈ A ↔ Nf.Lead g (W.take k) (Nf.Beg g) q) ∧ Hid (∀ q ∈ A, q < g.N) ∧ Hid (A.length ≤ 3000) ∧ Hid (w.heap.size ≤ b) ∧ Hid (Below w.heap.size w wr)) (fun _ i _ => wn - (intOf i).toNat)
  case atStart => exact ⟨0, b, A, rfl, rfl, Nat.zero_le _, Hm, Hiff, Hlt, HlenA, Hgeb, Hb1⟩
  case round =>
    clear Hm Hiff Hlt HlenA Hgeb Hb1
    obtain ⟨k, b, A, rfl, rfl, hk, Hm, Hiff, Hlt, HlenA, Hgeb, Hb⟩ := hrel
    by_cases hkn : k < wn
    · obtain ⟨sb, off, s, rfl, cs, hsz, hs?, htk⟩ := (HW.out.below Hb.out).at hkn
      have Htk := Sp.hid htk
      have Hs? := Sp.hid hs?
      have Hs0 := Sp.hid (Hne.out s (List.mem_of_getElem? hs?))
      have c0 : wr.cell? ⟨gb, 0, none⟩ = some (.slice v.so v.sn v.scap) := Nf.blk_cell (i := 0) ((HG.out.below Hb.out).blk) rfl
      have HBs := Sp.hid (binarySearch_any v.so v.sn v.scap g.sig s wr (HG.out.below Hb.out).sig (by have := HG.out.sn; omega) ((Sp.isSet_iff _).1 HG.out.ok.asc))
      clear htk hs? hsz
      go_wp2_with fail
      refine HBs.out.mono ?_
      rintro e w' ⟨x, rfl, hx, hxs, rfl⟩
      by_cases hin : s ∈ g.sig
      · rw [Nf.bl_true hin]
        have Hx := Sp.hid (hxs hin)
        have hx40 : x ≤ 40 := by have := HG.out.sn; have := HG.out.sig.1; omega
        clear hx hxs hin HBs
        have hz := Hb.out.size
        go_wp2_with (first
          | (at_range; refine Nf.set_range rfl _ rfl rfl Hm.out ?_; intro w1 cnt hr1 hcA hg1 hs1)
          | fail)
        have Hr1 := Sp.hid hr1
        have Hb1 : Hid (Below w.heap.size w w1) := Sp.hid (Hb.out.grown hg1 hz (fun k hk => by cases hk))
        have HcA := Sp.hid hcA
        have hl9 : A.length ≤ 3000 := HlenA.out
        have hA9 : Hid (∀ q ∈ A, q ≤ 1000000000) := Sp.hid (fun q hq => by have := Hlt.out q hq; have := HN.out; omega)
        obtain ⟨r, hr⟩ : ∃ r, wr.heap.size = r := ⟨_, rfl⟩
        rw [hr] at Hr1 ⊢
        have hzr : w.heap.size ≤ r := by omega
        obtain ⟨wo1, hwo⟩ : ∃ wo : World, wo = wr := ⟨_, rfl⟩
        clear hr1 hg1 hcA hs1 c0 cs hr
        go_frame
        go_loopw [10] (fun t wr => ∃ (T O : List Nat) (cnt : Nat) (lo : Option Addr) (n cap : Nat), t = .slice lo n cap ∧ O.length = n ∧ T.length + cnt ≤ A.length ∧ Hid (Nf.SetRng wr b r T A cnt) ∧ Hid (∀ q ∈ T, q ∈ A) ∧ Hid (Nf.Mvd v.Mv x T O) ∧ Hid (wr.ownsRow w.heap.size 3 1 (.slice lo n cap) n (O.map Nf.num)) ∧ Hid (Below w.heap.size w wr)) (fun _ wr => wr.rangeLeft b r)
        case atStart => exact ⟨[], [], cnt, none, 0, 0, rfl, rfl, by have := HcA.out; simp; omega, Hr1, Sp.hid (by simp), Sp.hid Nf.Mvd.start, Sp.hid (World.ownsRow_nil _ _ _ _), Hb1⟩
        case round =>
          clear Hr1 Hb1 HcA
          obtain ⟨T, O, cnt, lo, n, cap, rfl, hOn, hTc, Hr, HTA, Hmv, Hown, Hb⟩ := hrel
          go_wp2_with (first
            | (at_next; refine Nf.set_next rfl _ rfl rfl Hr.out hA9.out ?_ ?_)
            | fail)
          · intro hdone
            have hT : ∀ q, q ∈ T ↔ q ∈ A := fun q => ⟨HTA.out q, hdone q⟩
            have Hst := Sp.hid (Hmv.out.step HG.out Hx.out hT Hiff.out)
            subst hOn
            have HC := Sp.hid (closed_any w wr gb v g Hb.out HG.out O lo cap Hown.out (Hmv.out.lt HG.out) (by have := Hmv.out.len; omega))
            clear hdone hT
            go_wp2_with fail
            refine HC.out.mono ?_
            rintro e w3 ⟨b3, A3, rfl, hm3, hiff3, hlt3, hlen3, hge3, hb3⟩
            have Hm3 := Sp.hid hm3
            have Hiff3 := Sp.hid (show ∀ q, q ∈ A3 ↔ Nf.Lead g (W.take (k + 1)) (Nf.Beg g) q from fun q => by rw [hiff3, Hst.out, Nf.lead_take Htk.out])
            have Hlt3 := Sp.hid hlt3
            have Hlen3 := Sp.hid hlen3
            have Hge3 := Sp.hid hge3
            have Hb3 := Sp.hid hb3
            clear hm3 hiff3 hlt3 hlen3 hge3 hb3
            go_wp2_with fail
            go_roundw
            case rel => exact ⟨k + 1, b3, A3, rfl, by go_num, hkn, Hm3, Hiff3, Hlt3, Hlen3, Hge3, Hb3⟩
            case measure => simp [intOf]; omega
          · intro p w2 cnt2 hpA hpT hr2 hlt2 hg2 hs2 hen
            have hpN := Hlt.out p hpA
            have Hb2 : Hid (Below w.heap.size w w2) := Sp.hid (Hb.out.grown hg2 Hb.out.size (fun k hk => by cases hk; exact hzr))
            have c2 : w2.cell? ⟨gb, 2, none⟩ = some (.slice (some ⟨v.mb, 0, none⟩) g.N g.N) := Nf.blk_cell (i := 2) ((HG.out.below Hb2.out).blk) rfl
            obtain ⟨ro, rcap, hcr0, hrn, hcc0⟩ := HG.out.mov p hpN
            obtain ⟨rn, hrn'⟩ : ∃ rn, (v.Mv p).length = rn := ⟨_, rfl⟩
            rw [hrn'] at hcr0 hrn hcc0
            have Hrn := Sp.hid hrn'
            have hcr : w2.cell? ⟨v.mb, p, none⟩ = some (.slice ro rn rcap) := by rw [Hb2.out.cell (World.block_lt_of_cell? w _ hcr0)]; exact hcr0
            have Hcc := Sp.hid hcc0
            have Hown2 := Sp.hid (Hown.out.kept hg2 (Or.inr (fun e => Hr.out.ne Hown.out e.symm)))
            have Hr2 := Sp.hid hr2
            have HpA := Sp.hid hpA
            have Hin := Sp.hid (Hmv.out.begin (p := p))
            have Hlt2 := Sp.hid hlt2
            have HNN := HN.out
            clear hpA hpT hr2 hg2 hs2 hlt2 hcr0 hcc0 hrn'
            obtain ⟨wo2, hwo2⟩ : ∃ wo : World, wo = wr := ⟨_, rfl⟩
            go_wp2_with fail
            go_loopw [10, 48] (fun t i wr => ∃ (j : Nat) (O' : List Nat) (lo : Option Addr) (n cap : Nat), t = .slice lo n cap ∧ i = .int .i64 j ∧ j ≤ rn ∧ O'.length = n ∧ Hid (Nf.SetRng wr b r (T ++ [p]) A cnt2) ∧ Hid (Nf.MvIn v.Mv x T p j O') ∧ Hid (wr.ownsRow w.heap.size 3 1 (.slice lo n cap) n (O'.map Nf.num)) ∧ Hid (Below w.heap.size w wr)) (fun _ i _ => rn - (intOf i).toNat)
            case atStart => exact ⟨0, O, lo, n, cap, rfl, rfl, Nat.zero_le _, hOn, Hr2, Hin, Hown2, Hb2⟩
            case round =>
              clear Hr2 Hin Hown2 Hb2
              obtain ⟨j, O', lo', n', cap', rfl, rfl, hj, hOn', Hr3, Hmv3, Hown3, Hb3⟩ := hrel
              by_cases hjn : j < rn
              · obtain ⟨mb', off', rfl, hcell⟩ := Hcc.out (by omega)
                obtain ⟨⟨y, q⟩, hyq⟩ : ∃ yq, (v.Mv p)[j]? = some yq := ⟨(v.Mv p)[j]'(by rw [Hrn.out]; exact hjn), by simp [Hrn.out, hjn]⟩
                obtain ⟨e0, e1⟩ := hcell j (y, q) hyq
                have cm0 : wr.cell? ⟨mb', off' + j * 2, none⟩ = some (.int .i64 y) := by rw [Hb3.out.cell (World.block_lt_of_cell? w _ e0)]; exact e0
                have cm1 : wr.cell? ⟨mb', off' + j * 2 + 1, none⟩ = some (.int .i64 q) := by rw [Nat.add_assoc, Hb3.out.cell (World.block_lt_of_cell? w _ e1)]; exact e1
                have Hyq := Sp.hid hyq
                have hz3 := Hb3.out.size
                have hy9 : y ≤ 1000000 := by
                  obtain ⟨s', hs', _⟩ := (HG.out.mv_iff p y q).1 (List.mem_of_getElem? hyq)
                  have h1 := (List.getElem?_eq_some_iff.1 hs').1
                  have h2 := HG.out.sn
                  have h3 := HG.out.sig.1
                  omega
                clear e0 e1 hcell hyq
                by_cases hyx : y = x
                · have Hyx := Sp.hid hyx
                  have Hown4 := Sp.hid (show ((wr.alloc (.cells #[.int .i64 y, .int .i64 q] 72)).alloc (.cells #[.int .i64 q] 3)).ownsRow w.heap.size 3 1 (.slice lo' n' cap') O'.length (O'.map Nf.num) from by rw [hOn']; exact (Hown3.out.alloc _).alloc _)
                  have Hr4 := Sp.hid ((Hr3.out.alloc (.cells #[.int .i64 y, .int .i64 q] 72)).alloc (.cells #[.int .i64 q] 3))
                  have Hb4 : Hid (Below w.heap.size w ((wr.alloc (.cells #[.int .i64 y, .int .i64 q] 72)).alloc (.cells #[.int .i64 q] 3))) := Sp.hid ((Hb3.out.alloc hz3 _).alloc (by simp; omega) _)
                  have hO9 : O'.length ≤ 1000000000000 := by have := Hmv3.out.len; omega
                  have hO10 := Sp.hid hO9
                  have hzz : w.heap.size ≤ ((wr.alloc (.cells #[.int .i64 y, .int .i64 q] 72)).alloc (.cells #[.int .i64 q] 3)).heap.size := by simp; omega
                  clear hO9
                  subst hyx
                  go_wp2_with (first
                    | (at_builtin; refine Nf.push_num2 rfl _ _ rfl w.heap.size (.slice lo' n' cap') O' rfl Hown4.out q ⟨wr.heap.size + 1, 0, none⟩ 1 rfl ?c1 ?c2 ?c3 ?_)
                    | fail)
                  case c2 => have := hO10.out; omega
                  case c3 => omega
                  intro v5 w5 hown5 hg5 _
                  have hown6 : w5.ownsRow w.heap.size 3 1 v5 (O' ++ [q]).length ((O' ++ [q]).map Nf.num) := by rw [List.length_append, hOn']; simpa using hown5
                  have hL6 : (O' ++ [q]).length = n' + 1 := by rw [List.length_append, hOn']; rfl
                  obtain ⟨lo6, cap6, rfl, _, _⟩ := Nf.seq_of_own hown6 (by rw [hL6]; unfold maxLen; have := hO10.out; omega)
                  rw [hL6] at hown6 ⊢
                  have Hown6 := Sp.hid hown6
                  have Hr6 := Sp.hid (Hr4.out.kept hg5 (Hr4.out.owns.ne Hown4.out) (Hr4.out.ne Hown4.out))
                  have Hb6 : Hid (Below w.heap.size w w5) := Sp.hid (Hb4.out.grown hg5 hzz (fun k hk => (Hown4.out.lt k hk).1))
                  have Hyes := Sp.hid (Hmv3.out.yes Hyq.out rfl)
                  have HL6 := Sp.hid hL6
                  clear hown5 hg5 hown6 hL6
                  go_wp2_with fail
                  go_roundw
                  case rel => exact ⟨j + 1, O' ++ [q], lo6, n' + 1, cap6, rfl, by go_num, hjn, HL6.out, Hr6, Hyes, Hown6, Hb6⟩
                  case measure => simp [intOf]; omega
                · have hyi : ((y : Int) == (x : Int)) = false := by simp; omega
                  have Hno := Sp.hid (Hmv3.out.no Hyq.out hyx)
                  have Hr4 := Sp.hid (Hr3.out.alloc (.cells #[.int .i64 y, .int .i64 q] 72))
                  have Hown4 := Sp.hid (Hown3.out.alloc (.cells #[.int .i64 y, .int .i64 q] 72))
                  have Hb4 := Sp.hid (Hb3.out.alloc hz3 (.cells #[.int .i64 y, .int .i64 q] 72))
                  go_wp2_with fail
                  go_roundw
                  case rel => exact ⟨j + 1, O', lo', n', cap', rfl, by go_num, hjn, hOn', Hr4, Hno, Hown4, Hb4⟩
                  case measure => simp [intOf]; omega
              · have Hmd := Sp.hid (Hmv3.out.done (by rw [Hrn.out]; omega) (by omega))
                go_wp2_with fail
                go_roundw
                case rel => exact ⟨T ++ [p], O', cnt2, lo', n', cap', rfl, hOn', by have := Hlt2.out; simp; omega, Hr3, Sp.hid (fun q hq => by
                  rcases List.mem_append.1 hq with hq | hq
                  · exact HTA.out q hq
                  · simp at hq; subst hq; exact HpA.out), Hmd, Hown3, Hb3⟩
                case measure => rw [Hr3.out.left_eq, ← hwo2, hwo2, Hr.out.left_eq]; exact Hlt2.out
      · rw [Nf.bl_false hin]
        have Hst := Sp.hid (Nf.lead_stop HG.out.ok Hs?.out Hs0.out hin)
        clear hx hxs hin HBs
        go_wp2_with fail
        go_ret
        exact ⟨none, [], rfl, .inl ⟨rfl, rfl⟩, fun q => ⟨fun h => by simp at h, fun h => absurd h (Hst.out q)⟩, by simp, Hb.out⟩
    · have hkw : k = wn := by omega
      have Hfull := Sp.hid (show W.take k = W by rw [hkw, ← Hlen.out, List.take_length])
      clear hkw
      go_wp2_with fail
      go_ret
      exact ⟨some b, A, rfl, .inr ⟨b, rfl, Hm.out⟩, by have h := Hiff.out; rw [Hfull.out] at h; exact h, Hlt.out, Hb.out⟩
end Go.Proofs.Ytnaojfhhjknejaa
