/-
  The walk of AutoTells.
-/
import Derived.Test.YtnkpgcmjnbgodaaMgTePTeQ
import Derived.Test.YtnkpgcmjnbgodaaMgMapF
import Derived.Test.YtnkpgcmjnbgodaaMgReIl
import Derived.Test.YtnkpgcmjnbgodaaMgReSame
import Derived.Test.YtnkpgcmjnbgodaaMgAuZAuZaAuKnAuLa
import Derived.Deep.RegionHeld3
import Derived.Deep.QuietTactic
import Derived.BigQuiet
import Derived.IntWalk
set_option linter.unusedVariables false
set_option linter.unusedSimpArgs false
namespace Go.Proofs.Ytnkpgcmjnbgodaa
open Go.RowKit
theorem Nf.pw_get {α : Type} {R : α → α → Prop} {l : List α} (h : l.Pairwise R) {i j : Nat} {a b : α} (hi : l[i]? = some a) (hj : l[j]? = some b) (hij : i < j) : R a b := by
  obtain ⟨hi1, hi2⟩ := List.getElem?_eq_some_iff.1 hi
  obtain ⟨hj1, hj2⟩ := List.getElem?_eq_some_iff.1 hj
  have := List.pairwise_iff_getElem.1 h i j hi1 hj1 hij
  rw [hi2, hj2] at this
  exact this
theorem Nf.lists_at {els : List Lst} {k : Nat} {x : Lst} (h : els[k]? = some x) : (Sp.lists els)[k]? = some x.l := by unfold Sp.lists; rw [List.getElem?_map, h]; rfl

set_option maxHeartbeats 4000000 in
set_option maxRecDepth 100000 in
theorem autoTells_any (w : World) (n : Nf.Net) (most : Int) (wo : Option Addr) (wn wcap : Nat) (W : List ByteArray) (h : Nf.NetAt w n) (hW : Sp.Row w wo wn W) (hm1 : -9223372036854775808 ≤ most) (hm2 : most ≤ 9223372036854775807) :
    Calls Try.prog 6 #[n.val, .int .i64 most, .slice wo wn wcap] w fun e w' => e = .returned (.bool true) ∧ Below w.heap.size w w' := by
  have hb0 : Below w.heap.size w (w.alloc (.cells n.cells 26)) := (Below.refl _ w).alloc (Nat.le_refl _) _
  have hblk : (w.alloc (.cells n.cells 26)).heap[w.heap.size]? = some (.cells n.cells 26 (0, 0)) := Nf.Below.heap_new w _
  have HO := Sp.hid (isOver_any _ n (h.below hb0))
  have HWo : Hid (∀ w2 : World, Below w.heap.size w w2 → Calls Try.prog 23 #[n.val, .int .i64 most] w2 (fun e w' => ∃ (bo : Option Addr) (m cap : Nat) (els : List Lst) (more : Bool) (er : Int), e = .returned (.tuple #[.slice bo m cap, .bool more, .int .i64 er]) ∧ Hid (Sp.RowE w' bo m els ∧ Below w2.heap.size w2 w') ∧ Hid (er = 0 → Nf.Tell n most (Sp.lists els) more) ∧ Hid (er ≠ 0 → m = 0 ∧ more = false))) := Sp.hid (fun w2 hb => by
    refine (words_any w2 n most (h.below hb) hm1 hm2).mono ?_
    rintro e w' ⟨bo, m, cap, els, more, er, he, hrow, hb2, hsp⟩
    refine ⟨bo, m, cap, els, more, er, he, Sp.hid ⟨hrow, hb2⟩, Sp.hid (fun h0 => ?_), Sp.hid (fun h0 => ?_)⟩
    · subst h0; exact Nf.tell_of h hsp
    · obtain ⟨h1, h2⟩ := Nf.wordsSpec_err hsp h0
      have h3 := hrow.1
      have h4 : els = [] := by simpa [Sp.lists] using h1
      rw [h4] at h3
      exact ⟨h3.symm, h2⟩)
  have HAcc : Hid (∀ (w2 : World) (ao : Option Addr) (k cap : Nat) (v : List ByteArray), Below w.heap.size w w2 → Sp.Row w2 ao k v → Calls Try.prog 15 #[n.val, .slice ao k cap] w2 (fun e w' => e = .returned (.tuple #[.bool (Nf.accSpec n v).1, .int .i64 (Nf.accSpec n v).2]) ∧ Hid (Below w2.heap.size w2 w'))) := Sp.hid (fun w2 ao k cap v hb hr => by
    refine (accepts_any w2 n ao k cap v (h.below hb) hr).mono ?_
    rintro e w' ⟨he, h1⟩
    exact ⟨he, Sp.hid h1⟩)
  have HW := Sp.hid hW
  have Hb0 := Sp.hid hb0
  have Hblk := Sp.hid hblk
  obtain ⟨tell, htell⟩ : ∃ tell : List (List ByteArray) → Bool → Prop, tell = Nf.Tell n most := ⟨_, rfl⟩
  have Htell : Hid (∀ L more, tell L more → Nf.Tell n most L more) := Sp.hid (fun L more hx => by rw [htell] at hx; exact hx)
  rw [← htell] at HWo
  clear h hW hb0 hblk htell
  obtain ⟨acc, hacc⟩ : ∃ acc, Nf.accSpec n = acc := ⟨_, rfl⟩
  have Ht : Hid (∀ L more, tell L more → (∀ v ∈ L, acc v = (true, 0)) ∧ (L.Pairwise fun a b => Sp.cmp a b = -1) ∧ (L.length : Int) ≤ most ∧ (more = true → (L.length : Int) = most) ∧ ∀ v, acc v = (true, 0) → v ∉ L → more = true ∧ ∀ u ∈ L, Sp.cmp v u = 1) := Sp.hid (fun L more hx => by
    obtain ⟨h1, h2, h3, h4, h5⟩ := Htell.out L more hx
    rw [← hacc]
    exact ⟨h1, h2, h3, h4, h5⟩)
  rw [hacc] at HAcc
  clear Htell hacc
  obtain ⟨so, sn, scap, sig, st, ao, an, acap, arcs, eo, en, ecap, ends⟩ := n
  unfold Nf.Net.val at *
  simp only [Nf.Net.cells] at *
  go_enter Try.func6, Try.ntmps6
  go_wp2_with fail
  refine HO.out.mono ?_
  rintro e w2 ⟨over, rfl, hb2⟩
  have hblk2 := Nf.blk_below Hblk.out hb2 (by simp)
  have d0 : w2.cell? ⟨w.heap.size, 0, none⟩ = some (.slice so sn scap) := Nf.blk_cell (i := 0) hblk2 rfl
  have d1 : w2.cell? ⟨w.heap.size, 1, none⟩ = some (.int .i64 st) := Nf.blk_cell (i := 1) hblk2 rfl
  have d2 : w2.cell? ⟨w.heap.size, 2, none⟩ = some (.slice ao an acap) := Nf.blk_cell (i := 2) hblk2 rfl
  have d3 : w2.cell? ⟨w.heap.size, 3, none⟩ = some (.slice eo en ecap) := Nf.blk_cell (i := 3) hblk2 rfl
  have Hb2 := Sp.hid (Hb0.out.trans (hb2.mono Hb0.out.size))
  have Hblk2 := Sp.hid hblk2
  clear hb2 hblk2
  cases over with
  | true =>
    go_wp2_with fail
    refine (known_any w2).mono ?_
    rintro e w3 ⟨rfl, hb3⟩
    have Hb3 := Sp.hid (Hb2.out.trans (hb3.mono Hb2.out.size))
    clear hb3
    go_wp2_with fail
    go_ret
    exact ⟨rfl, Hb3.out⟩
  | false =>
    go_wp2_with fail
    have hb3 : Below w.heap.size w (w2.alloc (.cells #[.slice wo wn wcap] 22)) := Hb2.out.alloc (by have := Hb2.out.size; omega) _
    have hc3 : (w2.alloc (.cells #[.slice wo wn wcap] 22)).cell? ⟨w2.heap.size, 0, none⟩ = some (.slice wo wn wcap) := Nf.blk_cell (i := 0) (Nf.Below.heap_new w2 _) rfl
    have hblk3 := Nf.blk_alloc Hblk2.out (.cells #[.slice wo wn wcap] 22)
    have HL := Sp.hid (isLong_any _ w2.heap.size wo wn wcap W hc3 (HW.out.below hb3))
    have HB3 := Sp.hid hb3
    have Hblk3 := Sp.hid hblk3
    clear hb3 hc3 hblk3 d0 d1 d2 d3
    obtain ⟨w3, hw3⟩ : ∃ w3, w2.alloc (.cells #[.slice wo wn wcap] 22) = w3 := ⟨_, rfl⟩
    rw [hw3] at HL HB3 Hblk3 ⊢
    clear hw3
    refine HL.out.mono ?_
    rintro e w' ⟨lg, rfl, rfl⟩
    have d0 : w3.cell? ⟨w.heap.size, 0, none⟩ = some (.slice so sn scap) := Nf.blk_cell (i := 0) Hblk3.out rfl
    have d1 : w3.cell? ⟨w.heap.size, 1, none⟩ = some (.int .i64 st) := Nf.blk_cell (i := 1) Hblk3.out rfl
    have d2 : w3.cell? ⟨w.heap.size, 2, none⟩ = some (.slice ao an acap) := Nf.blk_cell (i := 2) Hblk3.out rfl
    have d3 : w3.cell? ⟨w.heap.size, 3, none⟩ = some (.slice eo en ecap) := Nf.blk_cell (i := 3) Hblk3.out rfl
    cases lg with
    | true =>
      go_wp2_with fail
      refine (known_any w3).mono ?_
      rintro e w4 ⟨rfl, hb4⟩
      have Hb4 := Sp.hid (HB3.out.trans (hb4.mono HB3.out.size))
      clear hb4
      go_wp2_with fail
      go_ret
      exact ⟨rfl, Hb4.out⟩
    | false =>
      go_wp2_with fail
      refine (HWo.out w3 HB3.out).mono ?_
      rintro e w4 ⟨bo, m, cap, els, more, er, rfl, Hrow, Htl, Her⟩
      have Hblk4 := Sp.hid (Nf.blk_below Hblk3.out Hrow.out.2 (Nf.blk_lt Hblk3.out))
      have Hb4 := Sp.hid (HB3.out.trans (Hrow.out.2.mono HB3.out.size))
      have Hrw := Sp.hid Hrow.out.1
      have hmle : m ≤ 9223372036854775807 := by have := Hrow.out.1.2.1; unfold maxLen at this; exact this
      clear d0 d1 d2 d3 Hrow
      by_cases h0 : er = 0
      · have Hsp := Sp.hid (Ht.out _ _ (Htl.out h0))
        subst h0
        clear Htl Her
        go_wp2_with fail
        go_loopw [10, 11] (fun f i wr => ∃ (k : Nat) (fb : Bool), f = .bool fb ∧ i = .int .i64 k ∧ k ≤ m ∧ Hid (fb = true ↔ W ∈ (Sp.lists els).take k) ∧ Hid (Below w4.heap.size w4 wr)) (fun _ i _ => m - (intOf i).toNat)
        case atStart => exact ⟨0, false, rfl, rfl, Nat.zero_le _, Sp.hid (by simp), Sp.hid (Below.refl _ _)⟩
        case round =>
          obtain ⟨k, fb, rfl, rfl, hk, Hfb, Hbr⟩ := hrel
          have Hbw := Sp.hid (Hb4.out.trans (Hbr.out.mono Hb4.out.size))
          have hblkr := Nf.blk_below Hblk4.out Hbr.out (Nf.blk_lt Hblk4.out)
          have d0 : wr.cell? ⟨w.heap.size, 0, none⟩ = some (.slice so sn scap) := Nf.blk_cell (i := 0) hblkr rfl
          have d1 : wr.cell? ⟨w.heap.size, 1, none⟩ = some (.int .i64 st) := Nf.blk_cell (i := 1) hblkr rfl
          have d2 : wr.cell? ⟨w.heap.size, 2, none⟩ = some (.slice ao an acap) := Nf.blk_cell (i := 2) hblkr rfl
          have d3 : wr.cell? ⟨w.heap.size, 3, none⟩ = some (.slice eo en ecap) := Nf.blk_cell (i := 3) hblkr rfl
          clear hblkr
          by_cases hkm : k < m
          · obtain ⟨b, off, x, rfl, cx, hrx, hx?, htk⟩ := (Hrw.out.below Hbr.out).at hkm
            have Hx? := Sp.hid hx?
            have Htk := Sp.hid htk
            have hax := Hsp.out.1 x.l (List.mem_of_getElem? (Nf.lists_at hx?))
            have i1 : (0 : Int) ≤ (k : Int) := by omega
            have i2 : (k : Int) < (m : Int) := by omega
            have HA : Hid (Calls Try.prog 15 #[.agg #[.slice so sn scap, .int .i64 st, .slice ao an acap, .slice eo en ecap], .slice x.ao x.n x.cap] wr.drew (fun e w5 => e = .returned (.tuple #[.bool true, .int .i64 0]) ∧ Hid (Below wr.heap.size wr w5) ∧ w5.cell? ⟨w.heap.size, 0, none⟩ = some (.slice so sn scap) ∧ w5.cell? ⟨w.heap.size, 1, none⟩ = some (.int .i64 st) ∧ w5.cell? ⟨w.heap.size, 2, none⟩ = some (.slice ao an acap) ∧ w5.cell? ⟨w.heap.size, 3, none⟩ = some (.slice eo en ecap) ∧ w5.cell? ⟨b, off + k, none⟩ = some (.slice x.ao x.n x.cap))) := Sp.hid (by
              refine (HAcc.out wr.drew x.ao x.n x.cap x.l Hbw.out.drew (hrx.below (Below.refl _ wr).drew)).mono ?_
              rintro e w5 ⟨rfl, hb5⟩
              have hbb : Below wr.heap.size wr w5 := (Below.refl _ wr).drew.trans hb5.out
              have kp : ∀ (a : Addr) (v : Value), wr.cell? a = some v → w5.cell? a = some v := fun a v hv => by rw [hbb.cell (World.block_lt_of_cell? wr _ hv)]; exact hv
              exact ⟨by rw [hax], Sp.hid hbb, kp _ _ d0, kp _ _ d1, kp _ _ d2, kp _ _ d3, kp _ _ cx⟩)
            clear hx? htk hax hrx
            go_wp2_with fail
            go_region_held3 (fun w' => w'.cell? ⟨w.heap.size, 0, none⟩ = some (.slice so sn scap) ∧ w'.cell? ⟨w.heap.size, 1, none⟩ = some (.int .i64 st) ∧ w'.cell? ⟨w.heap.size, 2, none⟩ = some (.slice ao an acap) ∧ w'.cell? ⟨w.heap.size, 3, none⟩ = some (.slice eo en ecap) ∧ w'.cell? ⟨b, off + k, none⟩ = some (.slice x.ao x.n x.cap)) (go_keep) ((first
              | (go_at_call 15; refine HA.out.mono ?_; rintro e w5 ⟨rfl, Hb5, u0, u1, u2, u3, ux⟩)))
            all_goals
              have Hb5w := Sp.hid (Hbr.out.trans (Hb5.out.mono Hbr.out.size))
              have HSm : Hid (∀ q, Calls Try.prog 21 #[.slice x.ao x.n x.cap, .slice wo wn wcap] (w5.drewN q) (fun e w' => e = .returned (.bool (Sp.ord x.l W == 0)) ∧ Hid (Below w4.heap.size w4 w'))) := Sp.hid (fun q => by
                have hbq : Below w4.heap.size w4 (w5.drewN q) := Hb5w.out.trans (Sp.below_of_drew ⟨q, rfl⟩ |>.mono Hb5w.out.size)
                refine (refSame_any x.ao wo x.n wn x.cap wcap x.l W (w5.drewN q) ((Hrw.out.2.2.2 x (List.mem_of_getElem? Hx?.out)).below hbq) (HW.out.below (Hb4.out.trans (hbq.mono Hb4.out.size)))).mono ?_
                rintro e w' ⟨rfl, p, rfl⟩
                exact ⟨rfl, Sp.hid (hbq.trans (Sp.below_of_drew ⟨p, rfl⟩ |>.mono hbq.size))⟩)
              have Htk2 : Hid ((Sp.lists els).take (k + 1) = (Sp.lists els).take k ++ [x.l]) := Sp.hid (by
                unfold Sp.lists
                rw [← List.map_take, Htk.out, List.map_append, List.map_take]; rfl)
              have Hold : Hid (fb = true → W ∈ (Sp.lists els).take (k + 1)) := Sp.hid (fun h1 => by rw [Htk2.out]; exact List.mem_append_left _ (Hfb.out.1 h1))
              have Hnew : Hid (fb = false → ((Sp.ord x.l W == 0) = true ↔ W ∈ (Sp.lists els).take (k + 1))) := Sp.hid (fun h1 => by
                rw [Htk2.out]
                constructor
                · intro h2
                  have h3 : x.l = W := Sp.ord_eq (by simpa using h2)
                  rw [h3]; simp
                · intro h2
                  rcases List.mem_append.1 h2 with h2 | h2
                  · have := Hfb.out.2 h2; rw [h1] at this; cases this
                  · simp at h2; rw [h2, Sp.ord_self]; rfl)
              rcases Nat.eq_zero_or_pos k with hk0 | hkp
              · subst hk0
                rw [Nat.add_zero] at ux
                cases fb with
                | true =>
                  go_wp2_with fail
                  go_quiet (fail)
                  go_wp2_with fail
                  go_roundw
                  case rel => exact ⟨0 + 1, true, rfl, by go_num, hkm, Sp.hid ⟨fun _ => Hold.out (by simp), fun _ => rfl⟩, Sp.hid (Hb5w.out.trans ((Sp.below_of_drew ⟨_, rfl⟩).mono Hb5w.out.size))⟩
                  case measure => simp [intOf]; omega
                | false =>
                  go_wp2_with fail
                  go_quiet (fail)
                  go_wp2_with fail
                  refine (HSm.out _).mono ?_
                  rintro e w6 ⟨rfl, Hb6⟩
                  go_wp2_with fail
                  go_roundw
                  case rel => exact ⟨0 + 1, (Sp.ord x.l W == 0), rfl, by go_num, hkm, Sp.hid (Hnew.out (by simp)), Hb6⟩
                  case measure => simp [intOf]; omega
              · obtain ⟨j, rfl⟩ : ∃ j, k = j + 1 := ⟨k - 1, by omega⟩
                obtain ⟨b', off', y, hye, cy, hry, hy?, _⟩ := (Hrw.out.below Hb5w.out).at (k := j) (by omega)
                injection hye with hye
                injection hye with hye1 hye2
                subst hye1 hye2
                have hcmp : Sp.cmp y.l x.l = -1 := Nf.pw_get Hsp.out.2.1 (Nf.lists_at hy?) (Nf.lists_at Hx?.out) (by omega)
                have HCmp : Hid (∀ q, Calls Try.prog 24 #[.slice y.ao y.n y.cap, .slice x.ao x.n x.cap] (w5.drewN q) (fun e w' => e = .returned (.int .i64 (-1)) ∧ ∃ p, w' = (w5.drewN q).drewN p)) := Sp.hid (fun q => by
                  have hbq : Below w5.heap.size w5 (w5.drewN q) := Sp.below_of_drew ⟨q, rfl⟩
                  have := refCompare_any y.ao x.ao y.n x.n y.cap x.cap y.l x.l (w5.drewN q) (hry.below hbq) ((Hrw.out.2.2.2 x (List.mem_of_getElem? Hx?.out)).below (Hb5w.out.trans (hbq.mono Hb5w.out.size)))
                  rw [hcmp] at this
                  exact this)
                have i3 : (0 : Int) ≤ (j : Int) := by omega
                have i4 : (j : Int) < (m : Int) := by omega
                have i5 : (0 : Int) < (j : Int) + 1 := by omega
                have i6 : (j : Int) + 1 < (m : Int) := by omega
                clear hry hy? hcmp
                cases fb with
                | true =>
                  go_wp2_with fail
                  go_quiet ((exact Calls.quiet_of (HCmp.out _)))
                  go_wp2_with fail
                  go_roundw
                  case rel => exact ⟨j + 1 + 1, true, rfl, by go_num, hkm, Sp.hid ⟨fun _ => Hold.out (by simp), fun _ => rfl⟩, Sp.hid (Hb5w.out.trans ((Sp.below_of_drew ⟨_, rfl⟩).mono Hb5w.out.size))⟩
                  case measure => simp [intOf]; omega
                | false =>
                  go_wp2_with fail
                  go_quiet ((exact Calls.quiet_of (HCmp.out _)))
                  go_wp2_with fail
                  refine (HSm.out _).mono ?_
                  rintro e w6 ⟨rfl, Hb6⟩
                  go_wp2_with fail
                  go_roundw
                  case rel => exact ⟨j + 1 + 1, (Sp.ord x.l W == 0), rfl, by go_num, hkm, Sp.hid (Hnew.out (by simp)), Hb6⟩
                  case measure => simp [intOf]; omega
          · have hke : k = m := by omega
            subst hke
            have hlen : (Sp.lists els).length = k := by unfold Sp.lists; rw [List.length_map]; exact Hrw.out.1
            have Hfb2 : Hid (fb = true ↔ W ∈ Sp.lists els) := Sp.hid (by
              have h1 := Hfb.out
              rw [← hlen, List.take_length] at h1
              exact h1)
            obtain ⟨hs1, hs2, hs3, hs4, hs5⟩ := Hsp.out
            rw [hlen] at hs3 hs4
            have HA := Sp.hid (HAcc.out wr wo wn wcap W Hbw.out (HW.out.below Hbw.out))
            obtain ⟨⟨a1, a2⟩, haW⟩ : ∃ a, acc W = a := ⟨_, rfl⟩
            rw [haW] at HA
            simp only at HA
            have HaW := Sp.hid haW
            have Hs5 := Sp.hid hs5
            have hle : decide ((k : Int) ≤ most) = true := by simpa using hs3
            clear hs1 hs2 hs3 hs5 haW
            go_wp2_with fail
            refine HA.out.mono ?_
            rintro e w5 ⟨rfl, hb5⟩
            have Hb5 := Sp.hid (Hbw.out.trans (hb5.out.mono Hbw.out.size))
            clear d0 d1 d2 d3
            cases more with
            | true =>
              have hmk : most = (k : Int) := (hs4 (by simp)).symm
              subst hmk
              clear hs4 hle
              by_cases c2 : a2 = 0
              · subst c2
                cases a1 with
                | false =>
                  go_wp2_with fail
                  refine (known_any w5).mono ?_
                  rintro e w7 ⟨rfl, hb7⟩
                  have Hb7 := Sp.hid (Hb5.out.trans (hb7.mono Hb5.out.size))
                  clear hb7
                  go_wp2_with fail
                  go_ret
                  exact ⟨rfl, Hb7.out⟩
                | true =>
                  cases fb with
                  | true =>
                    go_wp2_with fail
                    refine (known_any w5).mono ?_
                    rintro e w7 ⟨rfl, hb7⟩
                    have Hb7 := Sp.hid (Hb5.out.trans (hb7.mono Hb5.out.size))
                    clear hb7
                    go_wp2_with fail
                    go_ret
                    exact ⟨rfl, Hb7.out⟩
                  | false =>
                    have hnot : W ∉ Sp.lists els := fun hin => by have := Hfb2.out.2 hin; cases this
                    obtain ⟨hmore, hrest⟩ := Hs5.out W HaW.out hnot
                    rcases Nat.eq_zero_or_pos k with hk0 | hkp
                    · subst hk0
                      clear hmore hrest hnot
                      go_wp2_with fail
                      refine (known_any w5).mono ?_
                      rintro e w7 ⟨rfl, hb7⟩
                      have Hb7 := Sp.hid (Hb5.out.trans (hb7.mono Hb5.out.size))
                      clear hb7
                      go_wp2_with fail
                      go_ret
                      exact ⟨rfl, Hb7.out⟩
                    · obtain ⟨j, rfl⟩ : ∃ j, k = j + 1 := ⟨k - 1, by omega⟩
                      obtain ⟨b, off, y, rfl, cy, hry, hy?, _⟩ := ((Hrw.out.below Hbr.out).below hb5.out).at (k := j) (by omega)
                      have hcmp : Sp.cmp W y.l = 1 := hrest y.l (List.mem_of_getElem? (Nf.lists_at hy?))
                      have HCmp : Hid (Calls Try.prog 24 #[.slice wo wn wcap, .slice y.ao y.n y.cap] w5 (fun e w' => e = .returned (.int .i64 1) ∧ Hid (Below w.heap.size w w'))) := Sp.hid (by
                        refine (refCompare_any wo y.ao wn y.n wcap y.cap W y.l w5 (HW.out.below Hb5.out) hry).mono ?_
                        rintro e w' ⟨rfl, p, rfl⟩
                        exact ⟨by rw [hcmp], Sp.hid (Hb5.out.trans ((Sp.below_of_drew ⟨p, rfl⟩).mono Hb5.out.size))⟩)
                      have i3 : (0 : Int) ≤ (j : Int) := by omega
                      have i4 : (j : Int) < (j : Int) + 1 := by omega
                      have i5 : (0 : Int) < (j : Int) + 1 := by omega
                      clear hmore hrest hnot hry hy? hcmp
                      go_wp2_with fail
                      refine HCmp.out.mono ?_
                      rintro e w6 ⟨rfl, Hb6⟩
                      go_wp2_with fail
                      refine (known_any w6).mono ?_
                      rintro e w7 ⟨rfl, hb7⟩
                      have Hb7 := Sp.hid (Hb6.out.trans (hb7.mono Hb6.out.size))
                      clear hb7
                      go_wp2_with fail
                      go_ret
                      exact ⟨rfl, Hb7.out⟩
              · have c2' : (a2 == 0) = false := by simpa using c2
                go_wp2_with fail
                refine (known_any w5).mono ?_
                rintro e w7 ⟨rfl, hb7⟩
                have Hb7 := Sp.hid (Hb5.out.trans (hb7.mono Hb5.out.size))
                clear hb7
                go_wp2_with fail
                go_ret
                exact ⟨rfl, Hb7.out⟩
            | false =>
              clear hs4
              by_cases c2 : a2 = 0
              · subst c2
                cases a1 with
                | false =>
                  go_wp2_with fail
                  refine (known_any w5).mono ?_
                  rintro e w7 ⟨rfl, hb7⟩
                  have Hb7 := Sp.hid (Hb5.out.trans (hb7.mono Hb5.out.size))
                  clear hb7
                  go_wp2_with fail
                  go_ret
                  exact ⟨rfl, Hb7.out⟩
                | true =>
                  cases fb with
                  | true =>
                    go_wp2_with fail
                    refine (known_any w5).mono ?_
                    rintro e w7 ⟨rfl, hb7⟩
                    have Hb7 := Sp.hid (Hb5.out.trans (hb7.mono Hb5.out.size))
                    clear hb7
                    go_wp2_with fail
                    go_ret
                    exact ⟨rfl, Hb7.out⟩
                  | false =>
                    have hnot : W ∉ Sp.lists els := fun hin => by have := Hfb2.out.2 hin; cases this
                    obtain ⟨hmore, hrest⟩ := Hs5.out W HaW.out hnot
                    cases hmore
              · have c2' : (a2 == 0) = false := by simpa using c2
                go_wp2_with fail
                refine (known_any w5).mono ?_
                rintro e w7 ⟨rfl, hb7⟩
                have Hb7 := Sp.hid (Hb5.out.trans (hb7.mono Hb5.out.size))
                clear hb7
                go_wp2_with fail
                go_ret
                exact ⟨rfl, Hb7.out⟩
      · have h0' : (er != 0) = true := by simpa using h0
        obtain ⟨hm0, hmo⟩ := Her.out h0
        subst hm0 hmo
        go_wp2_with fail
        refine (known_any w4).mono ?_
        rintro e w5 ⟨rfl, hb5⟩
        have Hb5 := Sp.hid (Hb4.out.trans (hb5.mono Hb4.out.size))
        clear hb5
        go_wp2_with fail
        go_ret
        exact ⟨rfl, Hb5.out⟩
end Go.Proofs.Ytnkpgcmjnbgodaa
