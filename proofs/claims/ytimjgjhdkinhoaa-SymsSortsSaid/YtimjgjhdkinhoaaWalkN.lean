/-
  The set that syms makes of a row of strings: those that are kept, sorted, compacted.
-/
import Derived.Test.YtimjgjhdkinhoaaWalkM
import Derived.Test.YtimjgjhdkinhoaaSpecF
import Derived.Test.YtimjgjhdkinhoaaCompactS
import Derived.Test.YtimjgjhdkinhoaaShelf
set_option linter.unusedVariables false
namespace Go.Proofs.Ytimjgjhdkinhoaa
open Go.RowKit Go.Sort

def NCRes (R : List ByteArray) (w w' : World) (v : Value) : Prop := ∃ ao n cap, v = .slice ao n cap ∧ Sp.Row w' ao n R ∧ n ≤ cap ∧ Sp.NC ao cap ∧ Below w.heap.size w w'

abbrev CMPF : Value := .func (.func 71) #[] #[]

theorem cmp_enters : ∀ args w, (callFunc 71 args).run Try.prog w = .ok (.enter 71 args) w :=
  enters_of Try.func71 (by kernel_rfl) rfl
theorem eq_enters : ∀ args w, (callFunc 95 args).run Try.prog w = .ok (.enter 95 args) w :=
  enters_of Try.func95 (by kernel_rfl) rfl

theorem compareS_any (x y : ByteArray) (w : World) : Calls Try.prog 71 #[.string x, .string y] w fun e w' => e = .returned (.int .i64 (Sp.cmpS x y)) ∧ w' = w :=
  (Try.strings_Compare x y w).mono fun e w' ⟨h1, h2⟩ => ⟨by rw [h1, Sp.compare_cmpS], h2⟩

theorem cmpReadsS (blk off size : Nat) (w : World) : CmpReads Try.prog 71 #[] Value.string Sp.cmpS blk off size w :=
  fun m os dk _ x y => (compareS_any x y _).mono fun e w' ⟨h1, h2⟩ => ⟨h1, 0, h2⟩

set_option maxHeartbeats 1000000 in
theorem eqS_any (x y : ByteArray) (c : Nat) (w : World) (hc : w.cell? ⟨c, 0, none⟩ = some CMPF) :
    Calls Try.prog 95 #[.string x, .string y, .pointer (some ⟨c, 0, none⟩)] w fun e w' => e = .returned (.bool (Sp.eqS x y)) ∧ w' = w := by
  have hC := Sp.hid (compareS_any x y)
  have he := Sp.hid (show Sp.eqS x y = (Sp.cmpS x y == 0) by unfold Sp.eqS; by_cases h : Sp.cmpS x y = 0 <;> simp [h])
  rw [he.out]
  generalize Sp.cmpS x y = r at hC
  go_enter Try.func95, Try.ntmps95
  go_wp2_with (first | (go_at_call 71; refine (hC.out _).mono ?_; rintro e w' ⟨rfl, rfl⟩))
  go_ret
  exact ⟨rfl, rfl⟩

set_option maxHeartbeats 2000000 in
set_option maxRecDepth 100000 in
theorem set_any (ao : Option Addr) (n cap : Nat) (l : List ByteArray) (w : World) (h : Sp.Row w ao n l) (hn : n ≤ 1000) (p : ByteArray → Bool) (qk : Nat) (lb : Array Value)
    (ek : ∀ args w, (callFunc qk args).run Try.prog w = .ok (.enter qk args) w)
    (hk : ∀ W, Below w.heap.size w W → ∀ x ∈ l, Calls Try.prog qk (#[.string x] ++ lb) W fun e w' => e = .returned (.bool (p x)) ∧ w' = W) :
    Calls Try.prog 69 #[.slice ao n cap, CMPF, .func (.func qk) #[] lb] w fun e w' => ∃ v R, e = .returned v ∧ Sp.SetOf R l p ∧ R.length ≤ n ∧ NCRes R w w' v := by
  obtain ⟨i0, hi, hz0, hz1, hz2⟩ := info_parts strInfo
  have hlen : l.length = n := h.1
  have Hlen := Sp.hid hlen
  have HK := Sp.hid hk
  have Hs := Sp.hid h.2.2.2
  clear hlen hk
  go_enter Try.func69, Try.ntmps69
  go_wp2_with fail
  go_loopw [7, 9, 12] (fun v _ i wr => ∃ k : Nat, k ≤ n ∧ i = .int .i64 k ∧ wr.ownsRow (w.heap.size + 1) 9 1 v ((l.take k).filter p).length (((l.take k).filter p).map Value.string) ∧ Below w.heap.size w wr ∧ wr.cell? ⟨w.heap.size, 0, none⟩ = some CMPF) (fun _ _ i _ => n - (intOf i).toNat)
  case atStart => exact ⟨0, Nat.zero_le _, rfl, World.ownsRow_nil _ _ _ _, (Below.refl _ w).alloc (Nat.le_refl _) _, by simp⟩
  case round =>
    obtain ⟨k, hk, rfl, hown, hbel, hcell⟩ := hrel
    have hsz := hbel.size
    have hcs := World.block_lt_of_cell? wr _ hcell
    have hxl : ((l.take k).filter p).length ≤ k := Nat.le_trans (List.length_filter_le _ _) (by simp; omega)
    by_cases hlt : k < n
    · obtain ⟨b, off, s, rfl, hc0, hs, hl, ht⟩ := h.at hlt
      have hc : wr.cell? ⟨b, off + k, none⟩ = some (.string s) := by rw [hbel.cell (World.block_lt_of_cell? w _ hc0)]; exact hc0
      have hmem : s ∈ l := List.mem_of_getElem? hl
      have HK1 := Sp.hid (fun W hW => HK.out W hW s hmem)
      obtain ⟨xs, hxs⟩ : ∃ xs, (l.take k).filter p = xs := ⟨_, rfl⟩
      rw [hxs] at hown hxl
      cases hp : p s with
      | false =>
        have hf := Sp.hid (show (l.take (k + 1)).filter p = xs by rw [ht, List.filter_append, hxs]; simp [hp])
        rw [hp] at HK1
        clear hl ht hc0 hxs hp hmem
        go_wp2_with fail
        refine (HK1.out _ hbel).mono ?_
        rintro e w1 ⟨rfl, rfl⟩
        go_wp2_with fail
        go_roundw
        case rel => exact ⟨k + 1, hlt, by go_num, by rw [hf.out]; exact hown, hbel, hcell⟩
        case measure => simp [intOf]; omega
      | true =>
        have hf := Sp.hid (show (l.take (k + 1)).filter p = xs ++ [s] by rw [ht, List.filter_append, hxs]; simp [hp])
        rw [hp] at HK1
        clear hl ht hc0 hxs hp hmem
        go_wp2_with fail
        refine (HK1.out _ hbel).mono ?_
        rintro e w1 ⟨rfl, rfl⟩
        go_wp2_with (at_builtin; refine wpList_append_own _ rfl _ _ 22 rfl (w.heap.size + 1) 9 i0 (.string ⟨#[]⟩) 1 16 Try.underlying22 hi hz0 hz1 hz2 rfl (by decide) _ _ _ rfl (hown.alloc _) ⟨w1.heap.size, 0, none⟩ 1 1 [.string s] rfl rfl ?c1 ?c2 ?c3 ?c4 ?c5 ?_)
        case c1 =>
          intro j u hj
          match j, hj with
          | 0, hj => simp at hj; subst hj; simp [Addr.add]
        case c2 => first | rfl | trivial | (intro u hu; simp at hu; subst hu; rfl)
        case c3 => unfold maxLen; omega
        case c4 => omega
        case c5 => first | omega | (simp; omega)
        intro v' w2 hown' hgrow _
        have hown2 : w2.ownsRow (w.heap.size + 1) 9 1 v' (xs ++ [s]).length ((xs ++ [s]).map Value.string) := by simpa using hown'
        have hbel2 : Below w.heap.size w w2 := (hbel.alloc (by omega) _).grown hgrow (by simp; omega) (fun k hk => by have := (hown.lt k hk).1; omega)
        have hbel3 : Below (w.heap.size + 1) w1 w2 := ((Below.refl _ w1).alloc (by omega) _).grown hgrow (by simp; omega) (fun k hk => (hown.lt k hk).1)
        have hcell2 : w2.cell? ⟨w.heap.size, 0, none⟩ = some CMPF := by rw [hbel3.cell (by simp)]; exact hcell
        clear hown' hgrow hown hbel hsz hbel3 hcell hcs
        go_wp2_with fail
        go_roundw
        case rel => exact ⟨k + 1, hlt, by go_num, by rw [hf.out]; exact hown2, hbel2, hcell2⟩
        case measure => simp [intOf]; omega
    · have hk' : k = n := by omega
      subst hk'
      have hkl := Sp.hid (show (l.take k).filter p = l.filter p by rw [List.take_of_length_le (by rw [Hlen.out]; omega)])
      rw [hkl.out] at hown hxl
      have hfin := Sp.hid (Sp.sorted_set l p)
      have hsm : ∀ x ∈ l.filter p, x.size ≤ maxLen := fun x hx => Hs.out x (List.mem_filter.1 hx).1
      have Hsm := Sp.hid hsm
      clear hsm
      obtain ⟨xs, hxs⟩ : ∃ xs, l.filter p = xs := ⟨_, rfl⟩
      rw [hxs] at hown hxl hfin Hsm
      clear hkl hxs
      rcases hown.2 with ⟨rfl, h0⟩ | ⟨g, cap2, cur, rfl, hgb, hrest⟩
      · have hx0 : xs = [] := List.length_eq_zero_iff.1 h0
        subst hx0
        have hfin := Sp.hid (show Sp.SetOf [] l p by have := hfin.out; rwa [show compactOf Sp.eqS (Sp.sortS []) = [] by simp [Sp.sortS, compactOf]] at this)
        have HN : ∀ fv W, Calls Try.prog 93 #[.slice none 0 0, fv] W fun e w' => e = .returned (.tuple #[]) ∧ w' = W := fun fv W => AnyF.slices_SortFunc_none (P := Try.prog) (ρ := Try.sortS_ren) { Try.sortS with } none 0 fv W
        have HC := Sp.hid (fun fv W => compactS_none none 0 fv W)
        have HN := Sp.hid HN
        clear hown h0
        go_wp2_with fail
        refine (HN.out _ _).mono ?_
        rintro e w1 ⟨rfl, rfl⟩
        go_wp2_with fail
        refine (HC.out _ _).mono ?_
        rintro e w2 ⟨rfl, rfl⟩
        go_wp2_with fail
        go_ret
        exact ⟨_, [], rfl, hfin.out, Nat.zero_le _, none, 0, 0, rfl, ⟨rfl, by decide, fun h => absurd h (by omega), by simp⟩, Nat.le_refl _, fun _ => rfl, hbel⟩
      · obtain ⟨hV, _⟩ := Vec.of_own hown
        have hgw : g ≠ w.heap.size := by omega
        have hH : Holds Value.string wr g 0 xs.toArray := Vec.holds (d := xs.toArray) hV
        have HS0 := Any.slices_SortFunc_total Try.sortS Value.string (fun _ => rfl) Sp.cmpS Sp.swoS 71 #[] g 0 cap2 xs.toArray wr cmp_enters (cmpReadsS g 0 xs.toArray.size wr).lays hH hV.lt (by simp; omega) Sp.totS
        have HS : Calls Try.prog 93 #[.slice (some ⟨g, 0, none⟩) xs.length cap2, CMPF] wr fun e w' => e = .returned (.tuple #[]) ∧ Vec Value.string w' g 9 cap2 xs.length (fun i => (Sp.sortS xs).getD i default) ∧ wr.grownBy w' (some g) := by
          refine HS0.mono fun e w' ⟨he, q, os, hw⟩ => ⟨he, ?_⟩
          have h := hV.sorted q (Sp.sortS xs).toArray os (by simp [Sp.sortS_len])
          rw [hw]
          refine ⟨h.1.congr fun i hi => ?_, h.2⟩
          simp [List.getD]
        have HS := Sp.hid HS
        have hup := Sp.hid (show upTo (fun i => (Sp.sortS xs).getD i default) xs.length = Sp.sortS xs by rw [← Sp.sortS_len xs]; exact upTo_getD _)
        have hgb' := Sp.hid hgb
        clear HS0 hH hV hown hrest hgb
        go_wp2_with fail
        refine HS.out.mono ?_
        rintro e w1 ⟨rfl, hv1, hg1⟩
        have hcell1 : w1.cell? ⟨w.heap.size, 0, none⟩ = some CMPF := by
          rw [World.cell?_of_block (hg1.block _ hcs (fun e => hgw (by injection e with e; exact e.symm)))]; exact hcell
        have hcs1 := World.block_lt_of_cell? w1 _ hcell1
        have HC := Sp.hid (compactS_any Sp.eqS 95 #[.pointer (some ⟨w.heap.size, 0, none⟩)] eq_enters g cap2 xs.length _ w1 hv1 (fun W hW i j _ _ => eqS_any _ _ w.heap.size W (by
          rw [World.cell?_of_block (hW.block _ hcs1 (fun e => hgw (by injection e with e; exact e.symm)))]; exact hcell1)))
        have Hv1 := Sp.hid hv1
        have Hg1 := Sp.hid hg1
        clear hv1 hg1
        go_wp2_with fail
        refine HC.out.mono ?_
        rintro e w2 ⟨m, B, rfl, hv2, hB, hg2⟩
        rw [hup.out] at hB
        rw [← hB] at hfin
        have Hv2 := Sp.hid hv2
        have Hg2 := Sp.hid hg2
        have HB := Sp.hid hB
        clear hv2 hg2 hB
        go_wp2_with fail
        go_ret
        have hmem : ∀ x ∈ upTo B m, x.size ≤ maxLen := fun x hx => by
          rw [HB.out, (Sp.compactOf_asc (Sp.sortS_asc xs)).2, Sp.sortS_mem] at hx
          exact Hsm.out x hx
        refine ⟨_, upTo B m, rfl, hfin.out, ?_, some ⟨g, 0, none⟩, m, cap2, rfl, Vec.row Hv2.out hmem, Hv2.out.le.1, fun h => (by cases h), hbel.grown (grownBy_trans Hg1.out Hg2.out) hsz (fun k hk => by injection hk with hk; have := hgb'.out; omega)⟩
        rw [HB.out]
        have := compactOf_le Sp.eqS (Sp.sortS xs)
        rw [Sp.sortS_len] at this
        omega

end Go.Proofs.Ytimjgjhdkinhoaa
