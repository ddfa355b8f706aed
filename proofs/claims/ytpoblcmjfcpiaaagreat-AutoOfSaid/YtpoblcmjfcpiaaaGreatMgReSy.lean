/-
  The walk of the reference's Symbols: the symbols that lead on from a set, ascending, each once; sort.Strings on a row of the call's own.
-/
import Derived.Test.YtpoblcmjfcpiaaaGreatMgReClReSt
import Derived.Test.YtpoblcmjfcpiaaaGreatMgReIl
import Derived.Test.YtpoblcmjfcpiaaaGreatMgAuBs
import Derived.Test.YtpoblcmjfcpiaaaGreatMgSpecOSpecE
import Derived.Test.YtpoblcmjfcpiaaaGreatMgAuI
set_option linter.unusedVariables false
set_option linter.unusedSimpArgs false
namespace Go.Proofs.YtpoblcmjfcpiaaaGreat
open Go.RowKit
namespace Nf
theorem sort_str (L : List ByteArray) : ∃ Ls : List ByteArray, Ls.Perm L ∧ Ls.Pairwise (fun x y => Sp.less y x = false) ∧ ((L.map fun x : ByteArray => x.data.toList).mergeSort fun x y => decide (x ≤ y)) = Ls.map fun x : ByteArray => x.data.toList := by
  obtain ⟨zs, hzs⟩ : ∃ zs, ((L.map fun x : ByteArray => x.data.toList).mergeSort fun x y => decide (x ≤ y)) = zs := ⟨_, rfl⟩
  have hp : zs.Perm (L.map fun x : ByteArray => x.data.toList) := by rw [← hzs]; exact List.mergeSort_perm _ _
  have hs : zs.Pairwise fun x y => decide (x ≤ y) = true := by
    rw [← hzs]
    exact List.pairwise_mergeSort (fun a b c h1 h2 => by simp only [decide_eq_true_eq] at *; exact List.le_trans h1 h2) (fun a b => by simp only [Bool.or_eq_true, decide_eq_true_eq]; exact List.le_total a b) _
  have e : zs = (zs.map fun z : List UInt8 => (⟨z.toArray⟩ : ByteArray)).map fun x : ByteArray => x.data.toList := by
    rw [List.map_map]
    conv => lhs; rw [← List.map_id zs]
    apply List.map_congr_left
    intro z hz
    rfl
  refine ⟨zs.map fun z : List UInt8 => (⟨z.toArray⟩ : ByteArray), ?_, ?_, by rw [hzs]; exact e⟩
  · have := hp.map fun z : List UInt8 => (⟨z.toArray⟩ : ByteArray)
    rw [List.map_map] at this
    have e2 : (L.map ((fun z : List UInt8 => (⟨z.toArray⟩ : ByteArray)) ∘ fun x : ByteArray => x.data.toList)) = L := by
      conv => rhs; rw [← List.map_id L]
      apply List.map_congr_left
      intro x _
      rfl
    rwa [e2] at this
  · rw [List.pairwise_map]
    refine hs.imp (fun {a b} h => ?_)
    simp only [decide_eq_true_eq] at h
    cases hc : Sp.less ⟨b.toArray⟩ ⟨a.toArray⟩ with
    | false => rfl
    | true => rw [Sp.less_iff] at hc; exact absurd hc (List.not_lt.2 h)
/-- In a sorted list the next one, unlike the one ahead, is behind all that came. -/
theorem asc_next {Ls T : List ByteArray} {k : Nat} {s : ByteArray} (hs : Ls.Pairwise fun x y => Sp.less y x = false) (hk : Ls[k]? = some s) (hT : Sp.Asc T) (hm : ∀ x, x ∈ T ↔ x ∈ Ls.take k) (hne : k = 0 ∨ ∃ t, Ls[k - 1]? = some t ∧ s ≠ t) : Sp.Asc (T ++ [s]) := by
  obtain ⟨hkl, hke⟩ := List.getElem?_eq_some_iff.1 hk
  unfold Sp.Asc
  rw [List.pairwise_append]
  refine ⟨hT, List.pairwise_singleton _ _, fun t ht u hu => ?_⟩
  simp at hu; subst hu
  obtain ⟨j, hj, he⟩ := List.getElem_of_mem ((hm t).1 ht)
  have hjk : j < k := by rw [List.length_take] at hj; omega
  rw [List.getElem_take] at he
  have p1 := List.pairwise_iff_getElem.1 hs j k (by omega) hkl hjk
  rw [hke, he] at p1
  cases hc : Sp.less t u with
  | true => rfl
  | false =>
    exfalso
    have e : t = u := Sp.eq_of_not_less hc p1
    rcases hne with h0 | ⟨v, hv, hne⟩
    · omega
    · obtain ⟨hvl, hve⟩ := List.getElem?_eq_some_iff.1 hv
      by_cases hjj : j = k - 1
      · subst hjj; exact hne (by rw [← hve, he, e])
      · have p2 := List.pairwise_iff_getElem.1 hs j (k - 1) (by omega) hvl (by omega)
        have p3 := List.pairwise_iff_getElem.1 hs (k - 1) k hvl hkl (by omega)
        rw [hve, he, e] at p2
        rw [hve, hke] at p3
        exact hne (Sp.eq_of_not_less p2 p3).symm
structure SyAt (w0 w : World) (gB eb db N : Nat) (O : List ByteArray) (lv : Value) : Prop where
  gblk : w.heap[gB]? = some (.cells (rfCells eb db N) 71 (0, 0))
  list : w.ownsRow w0.heap.size 9 1 lv O.length (O.map Value.string)
  below : Below w0.heap.size w0 w
section
variable {w0 w w1 : World} {gB eb db N : Nat} {O : List ByteArray} {lv : Value}
theorem SyAt.under (h : SyAt w0 w gB eb db N O lv) (hb1 : Below w.heap.size w w1) : SyAt w0 w1 gB eb db N O lv :=
  ⟨blk_below h.gblk hb1 (blk_lt h.gblk), h.list.kept (row := none) ⟨hb1.os, hb1.tape, hb1.output, hb1.size, fun i hi _ => hb1.block i hi⟩ (by cases lv.ownBlock <;> simp), h.below.trans (hb1.mono h.below.size)⟩
theorem SyAt.alloc (h : SyAt w0 w gB eb db N O lv) (o : Obj) : SyAt w0 (w.alloc o) gB eb db N O lv := h.under ((Below.refl _ w).alloc (Nat.le_refl _) o)
theorem SyAt.drewN (h : SyAt w0 w gB eb db N O lv) (k : Nat) : SyAt w0 (w.drewN k) gB eb db N O lv := h.under (below_drewN (Below.refl _ _) k)
theorem SyAt.push (h : SyAt w0 w gB eb db N O lv) {q : ByteArray} {o : Obj} {v' : Value} (hg : (w.alloc o).grownBy w1 lv.ownBlock) (hown : w1.ownsRow w0.heap.size 9 1 v' (O ++ [q]).length ((O ++ [q]).map Value.string)) : SyAt w0 w1 gB eb db N (O ++ [q]) v' := by
  have h1 := h.alloc o
  exact ⟨blk_grown h1.gblk hg (own_ne h1.list h1.gblk (by decide)), hown, h1.below.grown hg h1.below.size (fun k hk => (h1.list.lt k hk).1)⟩
end
def SyPost (g : Gr) (L : List Nat) (w : World) (e : Ending) (w' : World) : Prop :=
  ∃ v S, e = .returned v ∧ w'.ownsRow w.heap.size 9 1 v (List.length S) (S.map Value.string) ∧ Sp.Asc S ∧ (∀ s, s ∈ S ↔ s ≠ eps ∧ ∃ p, p ∈ L ∧ ∃ q, (p, s, q) ∈ g.arcs) ∧ S.length ≤ 3000000000 ∧ Below w.heap.size w w'
end Nf
theorem sortStr_any (w : World) (base : Nat) (v : Value) (L : List ByteArray) (h : w.ownsRow base 9 1 v L.length (L.map Value.string)) (hbig : L.length ≤ 1000000000000) (hB : base ≤ w.heap.size) :
    Calls Tryz.prog 63 #[v] w fun e w' => e = .returned (.tuple #[]) ∧ ∃ Ls : List ByteArray, Ls.Perm L ∧ Ls.Pairwise (fun x y => Sp.less y x = false) ∧ w'.ownsRow base 9 1 v Ls.length (Ls.map Value.string) ∧ w.grownBy w' v.ownBlock := by
  rcases h.2 with ⟨rfl, h0⟩ | ⟨g, cap, cur, rfl, hbg, hg, hc, hm, hs, ht⟩
  · have e : L = [] := List.length_eq_zero_iff.1 h0
    subst e
    refine (Tryz.sort_Strings_none none 0 w).mono ?_
    rintro e w' ⟨rfl, rfl⟩
    exact ⟨rfl, [], List.Perm.refl _, List.Pairwise.nil, h, grownBy_refl _ _⟩
  · obtain ⟨hv, hbase⟩ := Vec.of_own (en := Value.string) (xs := L) h
    obtain ⟨Ls, hp, hsrt, hms⟩ := Nf.sort_str L
    have hH : Go.Sort.Holds encStr w g 0 (L.map fun x : ByteArray => x.data.toList).toArray := fun j hj => by
      have hj' : j < L.length := by simpa using hj
      have h1 := hv.cell hj'
      have h2 := hv.free j
      rw [Nat.zero_add]
      refine ⟨?_, h2⟩
      rw [h1]
      simp [encStr, hj']
    have hcall := Tryz.sort_Strings g 0 cap (L.map fun x : ByteArray => x.data.toList) w hH hv.lt (by simp; omega)
    rw [List.length_map] at hcall
    refine hcall.mono ?_
    rintro e w' ⟨rfl, n, os, rfl⟩
    rw [hms]
    have hL : Ls.length = L.length := hp.length_eq
    obtain ⟨h1, h2⟩ := Vec.sorted (en := encStr) (α := List UInt8) (A := fun i => (L.getD i default).data.toList) (m := n) (os := os) (by
      obtain ⟨cur, a1, a2, a3, a4, a5⟩ := hv
      exact ⟨cur, a1, a2, a3, a4, fun i hi => by rw [a5 i hi]⟩) (Ls.map fun x : ByteArray => x.data.toList).toArray (by simp [hL])
    refine ⟨rfl, Ls, hp, hsrt, ?_, h2⟩
    have h3 := h1.own hbase
    have e : ((List.range L.length).map fun i => encStr ((Ls.map fun x : ByteArray => x.data.toList).toArray.getD i default)) = Ls.map Value.string := by
      apply List.ext_getElem
      · simp [hL]
      · intro i a b
        have : i < Ls.length := by simpa using b
        simp [encStr, this]
    rw [e] at h3
    rw [hL]; exact h3

set_option maxHeartbeats 4000000 in
set_option maxRecDepth 100000 in
theorem symbols_any (w : World) (eb db : Nat) (R : Nat → List (ByteArray × Nat)) (g : Nf.Gr) (ao : Option Addr) (n cap : Nat) (L : List Nat) (hG : Nf.RfAt w eb db R g) (hL : Nf.Seq Nf.num w ao n L) (hP : Nf.Pool g.N L) :
    Calls Tryz.prog 36 #[Nf.rfVal eb db g.N, .slice ao n cap] w (Nf.SyPost g L w) := by
  have hp : Nf.SyPost g L w = fun e w' => ∃ v S, e = .returned v ∧ w'.ownsRow w.heap.size 9 1 v (List.length S) (S.map Value.string) ∧ Sp.Asc S ∧ (∀ s, s ∈ S ↔ s ≠ Nf.eps ∧ ∃ p, p ∈ L ∧ ∃ q, (p, s, q) ∈ g.arcs) ∧ S.length ≤ 3000000000 ∧ Below w.heap.size w w' := rfl
  rw [hp]
  have hN := hG.small
  have hn : n ≤ g.N := by have := hP.len; rw [hL.1] at this; exact this
  have HG := Sp.hid hG
  have HL := Sp.hid hL
  have Hlt := Sp.hid hP.lt
  have Hlen := Sp.hid hL.1
  clear hG hL hP hp
  unfold Nf.rfVal
  obtain ⟨w1, hw1⟩ : ∃ w1, w.alloc (.cells #[.int .i64 0, .slice (some ⟨eb, 0, none⟩) g.N g.N, .slice (some ⟨db, 0, none⟩) g.N g.N] 71) = w1 := ⟨_, rfl⟩
  obtain ⟨gB, hgB⟩ : ∃ gB, w.heap.size = gB := ⟨_, rfl⟩
  have HC0 : Nf.SyAt w w1 gB eb db g.N [] (.slice none 0 0) := by
    rw [← hw1, ← hgB]
    exact ⟨Nf.Below.heap_new w _, World.ownsRow_nil _ _ _ _, (Below.refl _ w).alloc (Nat.le_refl _) _⟩
  have HC0 := Sp.hid HC0
  have Hw1 := Sp.hid hw1
  have HgB := Sp.hid hgB
  clear hw1 hgB
  go_enter Tryz.func36, Tryz.ntmps36
  go_wp2_with fail
  rw [Hw1.out]
  rw [show (⟨w.heap.size, 0, none⟩ : Addr) = ⟨gB, 0, none⟩ by rw [HgB.out]]
  go_loopw [5, 6, 7, 8] (fun o i _ _ wr => ∃ (k : Nat) (lv : Value) (O : List ByteArray), i = .int .i64 k ∧ k ≤ n ∧ lv = o ∧ Nf.SyAt w wr gB eb db g.N O lv ∧ O.length ≤ 1000000 * k ∧ Hid (∀ x, x ∈ O ↔ x ≠ Nf.eps ∧ ∃ p, p ∈ L.take k ∧ ∃ q, (x, q) ∈ R p)) (fun _ i _ _ _ => n - (intOf i).toNat)
  case atStart => exact ⟨0, _, [], rfl, Nat.zero_le _, rfl, HC0.out, Nat.zero_le _, Sp.hid (by simp)⟩
  case round =>
    obtain ⟨k, lv, O, rfl, hk, rfl, hC, hO, Hmem⟩ := hrel
    have HC := Sp.hid hC
    clear hC HC0
    by_cases hkn : k < n
    · obtain ⟨b, off, p, rfl, cp0, hp?, htk⟩ := HL.out.at hkn
      have hpN := Hlt.out p (List.mem_of_getElem? hp?)
      have Hpm := Sp.hid (Nf.take_mem htk)
      have hbw := World.block_lt_of_cell? w _ cp0
      have Hcp := Sp.hid cp0
      obtain ⟨ro, rcap, cE, hrl, hrc⟩ := HG.out.edg p hpN
      have hrb := World.block_lt_of_cell? w _ cE
      have Hrc := Sp.hid hrc
      have HcE := Sp.hid cE
      have i1 : (0 : Int) ≤ (k : Int) := by omega
      have i2 : (k : Int) < (n : Int) := by omega
      have i3 : (0 : Int) ≤ (p : Int) := by omega
      have i4 : (p : Int) < (g.N : Int) := by omega
      clear hp? htk cp0 cE hrc
      go_wp2_with fail
      rename World => wB
      go_loopw [5, 7, 8] (fun o i _ wr => ∃ (m : Nat) (lv : Value) (O : List ByteArray), i = .int .i64 m ∧ lv = o ∧ m ≤ (R p).length ∧ Nf.SyAt w wr gB eb db g.N O lv ∧ O.length ≤ 1000000 * k + m ∧ Hid (∀ x, x ∈ O ↔ x ≠ Nf.eps ∧ ((∃ p, p ∈ L.take k ∧ ∃ q, (x, q) ∈ R p) ∨ ∃ q, (x, q) ∈ (R p).take m))) (fun _ i _ _ => (R p).length - (intOf i).toNat)
      case atStart => exact ⟨0, lv, O, rfl, rfl, Nat.zero_le _, HC.out, Nat.le_trans hO (Nat.le_add_right _ _), Sp.hid (fun x => by rw [Hmem.out x]; simp)⟩
      case round =>
        clear HC Hmem hO
        obtain ⟨m, lv, O, rfl, rfl, hmle, hC, hO, Hmem⟩ := hrel
        have HC := Sp.hid hC
        have hbel := hC.below
        have cG : wr.cell? ⟨gB, 1, none⟩ = some (.slice (some ⟨eb, 0, none⟩) g.N g.N) := Nf.blk_cell (i := 1) hC.gblk rfl
        have cI : wr.cell? ⟨b, off + k, none⟩ = some (.int .i64 p) := by rw [hbel.cell (p := ⟨b, off + k, none⟩) hbw]; exact Hcp.out
        have cE3 : wr.cell? ⟨eb, p, none⟩ = some (.slice ro (R p).length rcap) := by rw [hbel.cell (p := ⟨eb, p, none⟩) hrb]; exact HcE.out
        clear hC hbel
        by_cases hm : m < (R p).length
        · obtain ⟨b2, off2, x, rfl, hx, hxc, htk⟩ := Hrc.out.at hm
          obtain ⟨s, q⟩ := x
          have cX0' : w.cell? ⟨b2, off2 + (m * 2 + 0), none⟩ = some (.string s) := hxc 0 _ rfl
          have cX0 : wr.cell? ⟨b2, off2 + m * 2, none⟩ = some (.string s) := by rw [HC.out.below.cell (p := ⟨b2, off2 + m * 2, none⟩) (World.block_lt_of_cell? w _ cX0')]; exact cX0'
          have i5 : (0 : Int) ≤ (m : Int) := by omega
          have i6 : (m : Int) < ((R p).length : Int) := by omega
          have Htk := Sp.hid htk
          clear hx hxc cX0' htk
          go_wp2_with fail
          go_quiet (fail)
          have HC4 := Sp.hid (HC.out.drewN nq)
          have kG : (wr.drewN nq).cell? ⟨gB, 1, none⟩ = some (.slice (some ⟨eb, 0, none⟩) g.N g.N) := cG
          have kI : (wr.drewN nq).cell? ⟨b, off + k, none⟩ = some (.int .i64 p) := cI
          have kE : (wr.drewN nq).cell? ⟨eb, p, none⟩ = some (.slice (some ⟨b2, off2, none⟩) (R p).length rcap) := cE3
          have kX : (wr.drewN nq).cell? ⟨b2, off2 + m * 2, none⟩ = some (.string s) := cX0
          obtain ⟨wC, hwC⟩ : ∃ wC, wr.drewN nq = wC := ⟨_, rfl⟩
          rw [hwC] at HC4 kG kI kE kX ⊢
          clear hwC cG cI cE3 cX0
          go_wp2_with fail
          go_quiet (fail)
          have HC5 := Sp.hid (HC4.out.drewN nq)
          obtain ⟨wD, hwD⟩ : ∃ wD, wC.drewN nq = wD := ⟨_, rfl⟩
          rw [hwD] at HC5 ⊢
          clear hwD kG kI kE kX HC4 HC
          by_cases hs0 : s = Nf.eps
          · have hzz : s.toList.isEmpty = true := Sp.empty_of_size (Nf.size_eps.2 hs0)
            have Hs0 := Sp.hid hs0
            clear hs0
            go_wp2_with fail
            go_roundw
            case rel =>
              refine ⟨m + 1, _, O, by go_num, rfl, hm, HC5.out, by omega, Sp.hid (fun x => ?_)⟩
              rw [Htk.out, Hmem.out x]
              constructor
              · rintro ⟨h0, h1 | ⟨r, h1⟩⟩
                · exact ⟨h0, .inl h1⟩
                · exact ⟨h0, .inr ⟨r, List.mem_append_left _ h1⟩⟩
              · rintro ⟨h0, h1 | ⟨r, h1⟩⟩
                · exact ⟨h0, .inl h1⟩
                · rcases List.mem_append.1 h1 with h1 | h1
                  · exact ⟨h0, .inr ⟨r, h1⟩⟩
                  · simp at h1; exact absurd (h1.1.trans Hs0.out) h0
            case measure => simp [intOf]; omega
          · have hzz : s.toList.isEmpty = false := Sp.not_empty_of_size (fun h => hs0 (Nf.size_eps.1 h))
            have Hown := Sp.hid (show (wD.alloc (.cells #[.string s] 9)).ownsRow w.heap.size 9 1 lv O.length (O.map Value.string) from (HC5.out.alloc _).list)
            have hBs := HC5.out.below.size
            have hwB : w.heap.size ≤ (wD.alloc (.cells #[.string s] 9)).heap.size := by simp; omega
            have Hs0 := Sp.hid hs0
            clear hs0
            go_wp2_with (first
              | (at_builtin; refine Nf.push_str rfl _ _ rfl w.heap.size lv O rfl Hown.out s ⟨wD.heap.size, 0, none⟩ 1 rfl ?c1 ?c2 ?c3 ?_)
              | fail)
            case c1 => simp [go_sem]
            case c2 => omega
            case c3 => exact hwB
            intro v2 w2 hown2 hgrow2 hat2
            have HC6 := Sp.hid (HC5.out.push hgrow2 (by simpa using hown2))
            clear hown2 hgrow2 hat2
            go_wp2_with fail
            go_roundw
            case rel =>
              refine ⟨m + 1, v2, O ++ [s], by go_num, rfl, hm, HC6.out, by simp; omega, Sp.hid (fun x => ?_)⟩
              rw [Htk.out, List.mem_append, Hmem.out x]
              constructor
              · rintro (⟨h0, h1 | ⟨r, h1⟩⟩ | h1)
                · exact ⟨h0, .inl h1⟩
                · exact ⟨h0, .inr ⟨r, List.mem_append_left _ h1⟩⟩
                · simp at h1; subst h1; exact ⟨Hs0.out, .inr ⟨q, by simp⟩⟩
              · rintro ⟨h0, h1 | ⟨r, h1⟩⟩
                · exact .inl ⟨h0, .inl h1⟩
                · rcases List.mem_append.1 h1 with h1 | h1
                  · exact .inl ⟨h0, .inr ⟨r, h1⟩⟩
                  · simp at h1; right; simp [h1.1]
            case measure => simp [intOf]; omega
        · have Hmm := Sp.hid (show (R p).take m = R p from List.take_of_length_le (by omega))
          go_wp2_with fail
          go_quiet (fail)
          go_wp2_with fail
          go_roundw
          case rel =>
            refine ⟨k + 1, _, O, by go_num, hkn, rfl, HC.out.drewN _, by omega, Sp.hid (fun x => ?_)⟩
            rw [Hmem.out x, Hmm.out]
            constructor
            · rintro ⟨h0, ⟨r, hr, h⟩ | h⟩
              · exact ⟨h0, r, (Hpm.out r).2 (.inl hr), h⟩
              · exact ⟨h0, p, (Hpm.out p).2 (.inr rfl), h⟩
            · rintro ⟨h0, r, hr, h⟩
              rcases (Hpm.out r).1 hr with hr | rfl
              · exact ⟨h0, .inl ⟨r, hr, h⟩⟩
              · exact ⟨h0, .inr h⟩
          case measure => simp [intOf]; omega
    · have Hall := Sp.hid (show ∀ x, x ∈ O ↔ x ≠ Nf.eps ∧ ∃ p, p ∈ L ∧ ∃ q, (p, x, q) ∈ g.arcs from by
        have e : L.take k = L := List.take_of_length_le (by rw [Hlen.out]; omega)
        have h := Hmem.out
        rw [e] at h
        intro x
        rw [h x]
        constructor
        · rintro ⟨h0, r, hr, q, hq⟩; exact ⟨h0, r, hr, q, (HG.out.ed_iff r x q).1 hq⟩
        · rintro ⟨h0, r, hr, q, hq⟩; exact ⟨h0, r, hr, q, (HG.out.ed_iff r x q).2 hq⟩)
      have hOn : O.length ≤ 3000000000 := by omega
      have HOn := Sp.hid hOn
      have hbs := HC.out.below.size
      have HSt := Sp.hid (sortStr_any wr w.heap.size lv O HC.out.list (by omega) hbs)
      clear Hmem hO hOn
      go_wp2_with fail
      refine HSt.out.mono ?_
      rintro e w2 ⟨rfl, Ls, hperm, hsort, hown2, hg2⟩
      have hln : Ls.length = O.length := hperm.length_eq
      have Hbw2 : Hid (Below w.heap.size w w2) := Sp.hid (HC.out.below.grown hg2 hbs (fun k hk => (HC.out.list.lt k hk).1))
      have hL3 : Ls.length ≤ 3000000000 := by have := HOn.out; omega
      obtain ⟨lo, lcap, rfl, hseq, hlc⟩ := Nf.seq_of_own (en := Value.string) hown2 (by unfold maxLen; omega)
      obtain ⟨nl, hnl⟩ : ∃ nl, Ls.length = nl := ⟨_, rfl⟩
      rw [hnl] at hseq hL3 ⊢
      have Hseq := Sp.hid hseq
      have Hnl := Sp.hid hnl
      have Hsort := Sp.hid hsort
      have Hall2 : Hid (∀ x, x ∈ Ls ↔ x ≠ Nf.eps ∧ ∃ p, p ∈ L ∧ ∃ q, (p, x, q) ∈ g.arcs) := Sp.hid (fun x => by rw [hperm.mem_iff]; exact Hall.out x)
      clear hperm hsort hown2 hg2 hln hseq hlc hnl HSt Hall HC hbs HOn
      go_wp2_with fail
      have Hz2 := Sp.hid Hbw2.out.size
      go_loopw [9, 10] (fun o i wr => ∃ (k : Nat) (lv : Value) (T : List ByteArray), i = .int .i64 k ∧ k ≤ nl ∧ lv = o ∧ Hid (wr.ownsRow w2.heap.size 9 1 lv T.length (T.map Value.string)) ∧ T.length ≤ k ∧ Hid (Sp.Asc T) ∧ Hid (∀ x, x ∈ T ↔ x ∈ Ls.take k) ∧ Hid (Below w2.heap.size w2 wr)) (fun _ i _ => nl - (intOf i).toNat)
      case atStart => exact ⟨0, _, [], rfl, Nat.zero_le _, rfl, Sp.hid (World.ownsRow_nil _ _ _ _), Nat.le_refl _, Sp.hid List.Pairwise.nil, Sp.hid (by simp), Sp.hid (Below.refl _ _)⟩
      case round =>
        obtain ⟨k, lv, T, rfl, hk, rfl, Hown, hTk, Hasc, Hm, Hb⟩ := hrel
        by_cases hkn : k < nl
        · obtain ⟨b, off, s, rfl, cs0, hs?, htk⟩ := (Hseq.out.below Hb.out).at hkn
          have cs : wr.cell? ⟨b, off + k, none⟩ = some (.string s) := cs0
          have i1 : (0 : Int) ≤ (k : Int) := by omega
          have i2 : (k : Int) < (nl : Int) := by omega
          have Hs? := Sp.hid hs?
          have Htk := Sp.hid htk
          clear cs0 hs? htk
          have HownP := Sp.hid (show (wr.alloc (.cells #[.string s] 9)).ownsRow w2.heap.size 9 1 lv T.length (T.map Value.string) from Hown.out.alloc _)
          by_cases hk0 : k = 0
          · have Hasc2 := Sp.hid (Nf.asc_next Hsort.out Hs?.out Hasc.out Hm.out (.inl hk0))
            have hb0 : ((k : Int) == 0) = true := by simp [hk0]
            clear hk0
            go_wp2_with fail
            go_quiet (fail)
            have HownQ := Sp.hid (show ((wr.drewN nq).alloc (.cells #[.string s] 9)).ownsRow w2.heap.size 9 1 lv T.length (T.map Value.string) from HownP.out)
            have csq : (wr.drewN nq).cell? ⟨b, off + k, none⟩ = some (.string s) := cs
            have Hbq : Hid (Below w2.heap.size w2 (wr.drewN nq)) := Sp.hid (below_drewN Hb.out _)
            obtain ⟨wD, hwD⟩ : ∃ wD, wr.drewN nq = wD := ⟨_, rfl⟩
            rw [hwD] at HownQ csq Hbq ⊢
            clear hwD cs HownP Hb
            have hBs := Hbq.out.size
            have hwB : w2.heap.size ≤ (wD.alloc (.cells #[.string s] 9)).heap.size := by simp; omega
            go_wp2_with (first
              | (at_builtin; refine Nf.push_str rfl _ _ rfl w2.heap.size lv T rfl HownQ.out s ⟨wD.heap.size, 0, none⟩ 1 rfl ?c1 ?c2 ?c3 ?_)
              | fail)
            case c1 => simp [go_sem]
            case c2 => omega
            case c3 => exact hwB
            intro v2 w5 hown5 hgrow5 hat5
            have Hb5 : Hid (Below w2.heap.size w2 w5) := Sp.hid (by
              have hg := grownBy_trans (World.grownBy_alloc wD (.cells #[.string s] 9) lv.ownBlock) hgrow5
              exact Hbq.out.grown hg hBs (fun k hk => (HownQ.out.lt k hk).1))
            have Hown5 := Sp.hid (show w5.ownsRow w2.heap.size 9 1 v2 (T ++ [s]).length ((T ++ [s]).map Value.string) by simpa using hown5)
            clear hown5 hgrow5 hat5
            go_wp2_with fail
            go_roundw
            case rel => exact ⟨k + 1, v2, T ++ [s], by go_num, hkn, rfl, Hown5, by simp; omega, Hasc2, Sp.hid (fun x => by rw [Htk.out, List.mem_append, List.mem_append, Hm.out x]), Hb5⟩
            case measure => simp [intOf]; omega
          · obtain ⟨k1, hk1⟩ : ∃ k1, k = k1 + 1 := ⟨k - 1, by omega⟩
            have s1 : IntKind.i64.wrap ((k : Int) - 1) = (k1 : Int) := by rw [IntWalk.i64_in _ (by omega)]; omega
            have hb0 : ((k : Int) == 0) = false := by simp [hk0]
            obtain ⟨b', off', t, hbo, ct0, ht?, _⟩ := (Hseq.out.below Hb.out).at (show k1 < nl by omega)
            obtain ⟨rfl, rfl⟩ : b = b' ∧ off = off' := by
              simp only [Option.some.injEq, Addr.mk.injEq, and_true] at hbo
              exact hbo
            have ct : wr.cell? ⟨b, off + k1, none⟩ = some (.string t) := ct0
            have i3 : (0 : Int) ≤ (k1 : Int) := by omega
            have i4 : (k1 : Int) < (nl : Int) := by omega
            have Ht? := Sp.hid ht?
            have Hk1 := Sp.hid hk1
            clear hbo ct0 ht?
            by_cases hst : s = t
            · have hzz := str_eq s t hst
              have Hst := Sp.hid hst
              clear hst hk1
              go_wp2_with fail
              go_quiet (fail)
              have Hbq : Hid (Below w2.heap.size w2 (wr.drewN nq)) := Sp.hid (below_drewN Hb.out _)
              have HownQ := Sp.hid (show (wr.drewN nq).ownsRow w2.heap.size 9 1 lv T.length (T.map Value.string) from Hown.out)
              go_wp2_with fail
              go_roundw
              case rel =>
                refine ⟨k + 1, _, T, by go_num, hkn, rfl, HownQ, by omega, Hasc, Sp.hid (fun x => ?_), Hbq⟩
                rw [Htk.out, List.mem_append, Hm.out x]
                constructor
                · exact .inl
                · rintro (h | h)
                  · exact h
                  · simp at h
                    rw [h, Hst.out, Hk1.out]
                    exact List.mem_of_getElem? (i := k1) (by rw [List.getElem?_take_of_lt (by omega)]; exact Ht?.out)
              case measure => simp [intOf]; omega
            · have hzz := str_ne s t hst
              have Hasc2 := Sp.hid (Nf.asc_next Hsort.out Hs?.out Hasc.out Hm.out (.inr ⟨t, by rw [hk1]; exact Ht?.out, hst⟩))
              clear hst hk1
              go_wp2_with fail
              go_quiet (fail)
              have HownQ := Sp.hid (show ((wr.drewN nq).alloc (.cells #[.string s] 9)).ownsRow w2.heap.size 9 1 lv T.length (T.map Value.string) from HownP.out)
              have csq : (wr.drewN nq).cell? ⟨b, off + k, none⟩ = some (.string s) := cs
              have Hbq : Hid (Below w2.heap.size w2 (wr.drewN nq)) := Sp.hid (below_drewN Hb.out _)
              obtain ⟨wD, hwD⟩ : ∃ wD, wr.drewN nq = wD := ⟨_, rfl⟩
              rw [hwD] at HownQ csq Hbq ⊢
              clear hwD cs ct HownP Hb
              have hBs := Hbq.out.size
              have hwB : w2.heap.size ≤ (wD.alloc (.cells #[.string s] 9)).heap.size := by simp; omega
              go_wp2_with (first
                | (at_builtin; refine Nf.push_str rfl _ _ rfl w2.heap.size lv T rfl HownQ.out s ⟨wD.heap.size, 0, none⟩ 1 rfl ?c1 ?c2 ?c3 ?_)
                | fail)
              case c1 => simp [go_sem]
              case c2 => omega
              case c3 => exact hwB
              intro v2 w5 hown5 hgrow5 hat5
              have Hb5 : Hid (Below w2.heap.size w2 w5) := Sp.hid (by
                have hg := grownBy_trans (World.grownBy_alloc wD (.cells #[.string s] 9) lv.ownBlock) hgrow5
                exact Hbq.out.grown hg hBs (fun k hk => (HownQ.out.lt k hk).1))
              have Hown5 := Sp.hid (show w5.ownsRow w2.heap.size 9 1 v2 (T ++ [s]).length ((T ++ [s]).map Value.string) by simpa using hown5)
              clear hown5 hgrow5 hat5
              go_wp2_with fail
              go_roundw
              case rel => exact ⟨k + 1, v2, T ++ [s], by go_num, hkn, rfl, Hown5, by simp; omega, Hasc2, Sp.hid (fun x => by rw [Htk.out, List.mem_append, List.mem_append, Hm.out x]), Hb5⟩
              case measure => simp [intOf]; omega
        · have Hfin : Hid (∀ x, x ∈ T ↔ x ≠ Nf.eps ∧ ∃ p, p ∈ L ∧ ∃ q, (p, x, q) ∈ g.arcs) := Sp.hid (fun x => by
            have e : Ls.take k = Ls := List.take_of_length_le (by rw [Hnl.out]; omega)
            have h := Hm.out x
            rw [e] at h
            rw [h]; exact Hall2.out x)
          have hT9 : T.length ≤ 3000000000 := by omega
          go_wp2_with fail
          go_ret
          exact ⟨_, T, rfl, Nf.own_base Hown.out Hz2.out, Hasc.out, Hfin.out, hT9, Hbw2.out.trans (Hb.out.mono Hz2.out)⟩
end Go.Proofs.YtpoblcmjfcpiaaaGreat
