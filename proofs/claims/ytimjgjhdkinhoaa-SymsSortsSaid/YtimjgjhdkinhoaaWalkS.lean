/-
  The set that syms makes of a row of words: sorted, compacted; and a copy of a slice.
-/
import Derived.Test.YtimjgjhdkinhoaaWalkO
import Derived.Test.YtimjgjhdkinhoaaSortW
import Derived.Test.YtimjgjhdkinhoaaCompactW
set_option linter.unusedVariables false
namespace Go.Proofs.Ytimjgjhdkinhoaa
open Go.RowKit Go.Sort

theorem rowInfo : (Try.prog.info? 22).map (fun i => (i.zero, i.size, i.bytes)) = some (some (.slice none 0 0), 1, 24) := by kernel_rfl

theorem eqW_enters : ∀ args w, (callFunc 91 args).run Try.prog w = .ok (.enter 91 args) w :=
  enters_of Try.func91 (by kernel_rfl) rfl
theorem sorted1_enters : ∀ args w, (callFunc 64 args).run Try.prog w = .ok (.enter 64 args) w :=
  enters_of Try.func64 (by kernel_rfl) rfl
theorem sorted1_any (x : Value) (w : World) :
    Calls Try.prog 64 #[x] w fun e w' => e = .returned (.bool true) ∧ w' = w := by
  go_enter Try.func64, Try.ntmps64
  go_wp2_with fail
  go_ret
  exact ⟨rfl, rfl⟩

set_option maxHeartbeats 1000000 in
theorem eqW_any (x y : Lst) (c : Nat) (w : World) (hx : Sp.Row w x.ao x.n x.l) (hy : Sp.Row w y.ao y.n y.l) (hc : w.cell? ⟨c, 0, none⟩ = some CMPW) :
    Calls Try.prog 91 #[.slice x.ao x.n x.cap, .slice y.ao y.n y.cap, .pointer (some ⟨c, 0, none⟩)] w fun e w' => e = .returned (.bool (Sp.eqE x y)) ∧ w' = w := by
  have hC := Sp.hid (fun w1 (e : w1 = w) => (compare_any x.ao y.ao x.n y.n x.cap y.cap x.l y.l w1 (by rw [e]; exact hx) (by rw [e]; exact hy)))
  have he := Sp.hid (show Sp.eqE x y = (Sp.cmp x.l y.l == 0) by unfold Sp.eqE Sp.eqL; by_cases h : Sp.cmp x.l y.l = 0 <;> simp [h])
  rw [he.out]
  generalize Sp.cmp x.l y.l = r at hC
  obtain ⟨xo, xn, xc, xl⟩ := x
  obtain ⟨yo, yn, yc, yl⟩ := y
  clear he
  go_enter Try.func91, Try.ntmps91
  go_wp2_with (first | (go_at_call 26; refine (hC.out _ rfl).mono ?_; rintro e w' ⟨rfl, rfl⟩))
  go_ret
  exact ⟨rfl, rfl⟩

/-- What set leaves of words. -/
def SetWRes (els : List Lst) (w w' : World) (v : Value) : Prop :=
  Below w.heap.size w w' ∧ ((els = [] ∧ v = .slice none 0 0) ∨ ∃ g m cap B, v = .slice (some ⟨g, 0, none⟩) m cap ∧ w.heap.size ≤ g ∧ m ≤ els.length ∧ Vec Lst.val w' g 22 cap m B ∧ Sp.SetL (Sp.lists (upTo B m)) (Sp.lists els) ∧ ∀ x ∈ upTo B m, x ∈ els)

set_option maxHeartbeats 2000000 in
set_option maxRecDepth 100000 in
theorem setW_any (ao : Option Addr) (n cap : Nat) (els : List Lst) (w : World) (h : Sp.RowE w ao n els) (hn : n ≤ 1000) :
    Calls Try.prog 63 #[.slice ao n cap, CMPW, .func (.func 64) #[] #[]] w fun e w' => ∃ v, e = .returned v ∧ SetWRes els w w' v := by
  obtain ⟨i0, hi, hz0, hz1, hz2⟩ := info_parts rowInfo
  have hlen : els.length = n := h.1
  have Hlen := Sp.hid hlen
  have Hrow := Sp.hid h.2.2.2
  have HK := Sp.hid sorted1_any
  clear hlen
  go_enter Try.func63, Try.ntmps63
  go_wp2_with fail
  go_loopw [7, 9, 12] (fun v _ i wr => ∃ k : Nat, k ≤ n ∧ i = .int .i64 k ∧ wr.ownsRow (w.heap.size + 1) 22 1 v (els.take k).length ((els.take k).map Lst.val) ∧ Below w.heap.size w wr ∧ wr.cell? ⟨w.heap.size, 0, none⟩ = some CMPW) (fun _ _ i _ => n - (intOf i).toNat)
  case atStart => exact ⟨0, Nat.zero_le _, rfl, World.ownsRow_nil _ _ _ _, (Below.refl _ w).alloc (Nat.le_refl _) _, by simp⟩
  case round =>
    obtain ⟨k, hk, rfl, hown, hbel, hcell⟩ := hrel
    have hsz := hbel.size
    have hcs := World.block_lt_of_cell? wr _ hcell
    have hxl : (els.take k).length ≤ k := by simp; omega
    by_cases hlt : k < n
    · obtain ⟨b, off, x, rfl, hc0, _, hl, ht⟩ := h.at hlt
      have hc : wr.cell? ⟨b, off + k, none⟩ = some (.slice x.ao x.n x.cap) := by rw [hbel.cell (World.block_lt_of_cell? w _ hc0)]; exact hc0
      obtain ⟨xs, hxs⟩ : ∃ xs, els.take k = xs := ⟨_, rfl⟩
      rw [hxs] at hown hxl ht
      have Ht := Sp.hid ht
      clear hl hc0 hxs ht
      go_wp2_with fail
      refine (HK.out _ _).mono ?_
      rintro e w1 ⟨rfl, rfl⟩
      go_wp2_with (at_builtin; refine wpList_append_own _ rfl _ _ 42 rfl (w.heap.size + 1) 22 i0 (.slice none 0 0) 1 24 Try.underlying42 hi hz0 hz1 hz2 rfl (by decide) _ _ _ rfl (hown.alloc _) ⟨w1.heap.size, 0, none⟩ 1 1 [.slice x.ao x.n x.cap] rfl rfl ?c1 ?c2 ?c3 ?c4 ?c5 ?_)
      case c1 =>
        intro j u hj
        match j, hj with
        | 0, hj => simp at hj; subst hj; simp [Addr.add]
      case c2 => first | rfl | trivial | (intro u hu; simp at hu; subst hu; rfl)
      case c3 => unfold maxLen; omega
      case c4 => omega
      case c5 => first | omega | (simp; omega)
      intro v' w2 hown' hgrow _
      have hown2 : w2.ownsRow (w.heap.size + 1) 22 1 v' (xs ++ [x]).length ((xs ++ [x]).map Lst.val) := by simpa [Lst.val] using hown'
      have hbel2 : Below w.heap.size w w2 := (hbel.alloc (by omega) _).grown hgrow (by simp; omega) (fun k hk => by have := (hown.lt k hk).1; omega)
      have hbel3 : Below (w.heap.size + 1) w1 w2 := ((Below.refl _ w1).alloc (by omega) _).grown hgrow (by simp; omega) (fun k hk => (hown.lt k hk).1)
      have hcell2 : w2.cell? ⟨w.heap.size, 0, none⟩ = some CMPW := by rw [hbel3.cell (by simp)]; exact hcell
      clear hown' hgrow hown hbel hsz hbel3 hcell hcs
      go_wp2_with fail
      go_roundw
      case rel => exact ⟨k + 1, hlt, by go_num, by rw [Ht.out]; exact hown2, hbel2, hcell2⟩
      case measure => simp [intOf]; omega
    · have hk' : k = n := by omega
      subst hk'
      have hkl := Sp.hid (show els.take k = els by rw [List.take_of_length_le (by rw [Hlen.out]; omega)])
      rw [hkl.out] at hown hxl
      clear hkl
      rcases hown.2 with ⟨rfl, h0⟩ | ⟨g, cap2, cur, rfl, hgb, hrest⟩
      · have hx0 : els = [] := List.length_eq_zero_iff.1 h0
        have HN : ∀ fv W, Calls Try.prog 89 #[.slice none 0 0, fv] W fun e w' => e = .returned (.tuple #[]) ∧ w' = W := fun fv W => AnyF.slices_SortFunc_none (P := Try.prog) (ρ := Try.sortW_ren) { Try.sortW with } none 0 fv W
        have HC := Sp.hid (fun fv W => compactW_none none 0 fv W)
        have HN := Sp.hid HN
        have Hx0 := Sp.hid hx0
        clear hown h0 hx0
        go_wp2_with fail
        refine (HN.out _ _).mono ?_
        rintro e w1 ⟨rfl, rfl⟩
        go_wp2_with fail
        refine (HC.out _ _).mono ?_
        rintro e w2 ⟨rfl, rfl⟩
        go_wp2_with fail
        go_ret
        exact ⟨_, rfl, hbel, .inl ⟨Hx0.out, rfl⟩⟩
      · obtain ⟨hV, _⟩ := Vec.of_own hown
        have hgw : g ≠ w.heap.size := by omega
        have HS := Sp.hid (sortW_any els Hrow.out wr hbel g cap2 hV (by omega) (by have := Hlen.out; omega))
        have hgb' := Sp.hid hgb
        clear hV hown hrest hgb
        go_wp2_with fail
        refine HS.out.mono ?_
        rintro e w1 ⟨rfl, ds, hperm, hsorted, hv1, hg1⟩
        have hcell1 : w1.cell? ⟨w.heap.size, 0, none⟩ = some CMPW := by
          rw [World.cell?_of_block (hg1.block _ hcs (fun e => hgw (by injection e with e; exact e.symm)))]; exact hcell
        have hcs1 := World.block_lt_of_cell? w1 _ hcell1
        have hbel1 : Below w.heap.size w w1 := hbel.grown hg1 hsz (fun k hk => by injection hk with hk; have := hgb'.out; omega)
        have hdl : ds.length = els.length := hperm.length_eq
        have hrow1 : ∀ W, w1.grownBy W (some g) → ∀ i, i < els.length → Sp.Row W (ds.getD i default).ao (ds.getD i default).n (ds.getD i default).l := fun W hW i hi => by
          have hm : ds.getD i default ∈ els := by
            rw [← hperm.mem_iff]
            have : i < ds.length := by omega
            rw [List.getD, List.getElem?_eq_getElem this]
            exact List.getElem_mem this
          exact (Hrow.out _ hm).below (hbel1.grown hW hbel1.size (fun k hk => by injection hk with hk; have := hgb'.out; omega))
        have HC := Sp.hid (compactW_any Sp.eqE 91 #[.pointer (some ⟨w.heap.size, 0, none⟩)] eqW_enters g cap2 els.length _ w1 hv1 (fun W hW i j hi hj => eqW_any _ _ w.heap.size W (hrow1 W hW i hi) (hrow1 W hW j hj) (by
          rw [World.cell?_of_block (hW.block _ hcs1 (fun e => hgw (by injection e with e; exact e.symm)))]; exact hcell1)))
        have hup := Sp.hid (show upTo (fun i => ds.getD i default) els.length = ds by rw [← hdl]; exact upTo_getD _)
        have Hperm := Sp.hid hperm
        have Hsorted := Sp.hid hsorted
        have Hb1 := Sp.hid hbel1
        clear hv1 hg1 hrow1 hperm hsorted hdl hcell1 hcs1 hbel1
        go_wp2_with fail
        refine HC.out.mono ?_
        rintro e w2 ⟨m, B, rfl, hv2, hB, hg2⟩
        rw [hup.out] at hB
        have Hv2 := Sp.hid hv2
        have Hg2 := Sp.hid hg2
        have HB := Sp.hid hB
        clear hv2 hg2 hB
        go_wp2_with fail
        go_ret
        have hset := Sp.compactOfL_asc Hsorted.out
        refine ⟨_, rfl, Hb1.out.grown Hg2.out Hb1.out.size (fun k hk => by injection hk with hk; have := hgb'.out; omega), .inr ⟨g, m, cap2, B, rfl, by have := hgb'.out; omega, ?_, Hv2.out, ⟨?_, fun x => ?_⟩, fun x hx => ?_⟩⟩
        · have h1 := congrArg List.length HB.out
          rw [upTo_len] at h1
          have h2 := compactOf_le Sp.eqE ds
          have h3 := Hperm.out.length_eq
          omega
        · rw [HB.out, Sp.compactOf_lists]; exact hset.1
        · rw [HB.out, Sp.compactOf_lists, hset.2]
          exact (Hperm.out.map Lst.l).mem_iff
        · rw [HB.out] at hx
          exact Hperm.out.mem_iff.1 (Sp.compact_mem _ _ _ hx)
end Go.Proofs.Ytimjgjhdkinhoaa
