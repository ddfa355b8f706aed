/-
  The walk of Is: a set of texts as a map.
-/
import Derived.Test.YtimjgjhdkinhoaaWalkA
import Derived.Test.YtimjgjhdkinhoaaSpecO
import Derived.Maps.OwnOps
import Derived.Maps.OwnSet
import Derived.Maps.Views
set_option linter.unusedVariables false
namespace Go.Proofs.Ytimjgjhdkinhoaa
open Go.RowKit Go.Maps Go.WideMaps Go.WideElems

def Sp.inL (sig : List ByteArray) (s : ByteArray) : Bool := sig.any fun x => x.data.toList == s.data.toList
def Sp.isF (l sig : List ByteArray) : Bool := l.all (Sp.inL sig)
theorem Sp.inL_snoc (l : List ByteArray) (x s : ByteArray) : Sp.inL (l ++ [x]) s = (Sp.inL l s || x.data.toList == s.data.toList) := by simp [Sp.inL]
abbrev KEY (s : ByteArray) : Lit := .string s.data.toList
def Sp.setM (l : List ByteArray) : DataW Unit := Maps.setOf (.lit (.bool true)) (l.map KEY)

theorem Sp.key_ok (l : List ByteArray) : ∀ x ∈ l.map KEY, WideAt.IsKeyLit x := by
  intro x hx
  obtain ⟨s, _, rfl⟩ := List.mem_map.1 hx
  trivial
theorem Sp.setM_isMap (l : List ByteArray) : Maps.IsMap (Sp.setM l) := (Maps.tidy_setOf _ _ (Sp.key_ok l)).isMap
theorem Sp.setM_snoc (l : List ByteArray) (s : ByteArray) : Sp.setM (l ++ [s]) = (Sp.setM l).put (KEY s) (.lit (.bool true)) := by
  unfold Sp.setM
  rw [List.map_append]
  exact Maps.setOf_snoc _ _ _
theorem Sp.setM_at (s : ByteArray) : ∀ (r l : List ByteArray), l = r.reverse → (Sp.setM l).atKey (KEY s) (.lit (.bool false)) = .lit (.bool (Sp.inL l s))
  | [], _, rfl => by
    show (DataW.map []).atKey _ _ = _
    rfl
  | x :: r, _, rfl => by
    rw [List.reverse_cons, Sp.setM_snoc]
    by_cases e : s = x
    · subst e
      rw [Maps.atKey_put_same (Sp.setM_isMap _) (k := KEY s) (show WideAt.IsKeyLit (KEY s) from trivial), Sp.inL_snoc]
      simp
    · rw [Maps.atKey_put_other (by intro hh; apply e; injection hh with hh; exact Sp.ba_ext hh), Sp.setM_at s r _ rfl, Sp.inL_snoc]
      have : (x.data.toList == s.data.toList) = false := by
        cases hh : x.data.toList == s.data.toList with
        | false => rfl
        | true => exact absurd (Sp.ba_ext (by simpa using hh)).symm e
      rw [this, Bool.or_false]

theorem run_makeMap_sized {k e : TypeId} {t : TypeId} (ht : Try.prog.underlying t = some (.map k e)) (n : Int) (w : World) :
    (Instr.makeMap t (some (.int .i64 n))).run Try.prog w = .ok (.map (some w.heap.size)) (w.alloc (.map #[] 0)) := by
  simp [Instr.makeMap, run_underlying ht, asInt, asIntOf]

theorem boolZero (w : World) : (zeroValue 4).run Try.prog w = .ok (.bool false) w := Try.zeroValue4 w

theorem is1_enters : ∀ args w, (callFunc 62 args).run Try.prog w = .ok (.enter 62 args) w :=
  fun args w => by simp [go_sem]

set_option maxHeartbeats 400000 in
set_option maxRecDepth 100000 in
theorem is1_any (s : ByteArray) (sig : List ByteArray) (b c n : Nat) (w : World) (hs : s.size ≤ maxLen) (hm : w.ownsMap Try.prog 9 (plainElem Try.prog 4) b n (Sp.setM sig)) (hc : w.cell? ⟨c, 0, none⟩ = some (.map (some b))) :
    Calls Try.prog 62 (#[.string s] ++ #[.pointer (some ⟨c, 0, none⟩)]) w fun e w' => e = .returned (.bool (!Sp.inL sig s)) ∧ w = w' := by
  obtain ⟨v, ps, hrun, hv⟩ := hm.lookup (string_keyed Try.underlying9) Try.underlying69 (boolZero w) (plainElem_bool Try.underlying4 false) (keyOf_string_mk Try.underlying9 hs)
  rw [Sp.setM_at s sig.reverse sig (by simp)] at hv
  obtain rfl : v = .bool (Sp.inL sig s) := by
    unfold plainElem at hv
    rw [Try.underlying4] at hv
    cases v <;> simp at hv
    rw [hv.1]
  show Calls Try.prog 62 #[.string s, .pointer (some ⟨c, 0, none⟩)] w _
  have Hv := Sp.hid hv
  clear hv
  go_enter Try.func62, Try.ntmps62
  go_wp2
  go_ret
  exact ⟨by first | rfl | simp, rfl⟩

set_option maxHeartbeats 1000000 in
set_option maxRecDepth 100000 in
theorem is_any (ao : Option Addr) (n cap : Nat) (l : List ByteArray) (bo : Option Addr) (m cbp : Nat) (sig : List ByteArray) (w : World) (hl : Sp.Row w ao n l) (hg : Sp.Row w bo m sig) :
    Calls Try.prog 31 #[.slice ao n cap, .slice bo m cbp] w fun e w' => e = .returned (.bool (Sp.isF l sig)) ∧ Below w.heap.size w w' := by
  have hn := hl.le
  have hm := hg.le
  have hmm := run_makeMap_sized Try.underlying69
  have b0 : Below w.heap.size w ((w.alloc (.map #[] 0)).alloc (.cells #[.map (some w.heap.size)] 69)) :=
    ((Below.refl _ w).alloc (Nat.le_refl _) _).alloc (by simp) _
  have m0 : ((w.alloc (.map #[] 0)).alloc (.cells #[.map (some w.heap.size)] 69)).ownsMap Try.prog 9 (plainElem Try.prog 4) w.heap.size 0 (Sp.setM []) :=
    (World.ownsMap_made w Try.prog 9 (plainElem Try.prog 4)).alloc _
  have c0 : ((w.alloc (.map #[] 0)).alloc (.cells #[.map (some w.heap.size)] 69)).heap[w.heap.size + 1]? = some (.cells #[.map (some w.heap.size)] 69 (0, 0)) := by
    have := heap_alloc_new (w.alloc (.map #[] 0)) (.cells #[.map (some w.heap.size)] 69)
    simpa using this
  go_enter Try.func31, Try.ntmps31
  go_wp2_with fail
  go_loopw [7, 13] (fun _ i wr => ∃ k : Nat, k ≤ m ∧ i = .int .i64 k ∧ wr.ownsMap Try.prog 9 (plainElem Try.prog 4) w.heap.size k (Sp.setM (sig.take k)) ∧ wr.heap[w.heap.size + 1]? = some (.cells #[.map (some w.heap.size)] 69 (0, 0)) ∧ Below w.heap.size w wr) (fun _ i _ => m - (intOf i).toNat)
  case atStart => exact ⟨0, Nat.zero_le _, rfl, m0, c0, b0⟩
  case round =>
    obtain ⟨k, hk, rfl, hown, hbox, hbel⟩ := hrel
    have hcell : wr.cell? ⟨w.heap.size + 1, 0, none⟩ = some (.map (some w.heap.size)) := cell_of_one hbox
    have Hbox := Sp.hid hbox
    clear hbox
    have hrow := hg.below hbel
    by_cases hlt : k < m
    · obtain ⟨b, off, s, rfl, hc, hs, hk?, ht⟩ := hrow.at hlt
      have hkey := keyOf_string_mk Try.underlying9 hs
      have Ht := Sp.hid ht
      clear hk? ht hrow m0 c0 b0
      go_wp2_with (at_mapUpdate; refine wpList_mapUpdate_own _ rfl _ _ _ 69 rfl 9 4 (string_keyed Try.underlying9) Try.underlying69 _ w.heap.size k _ rfl hown (by unfold maxLen; omega) _ _ _ rfl rfl hkey _ [] (plainElem_bool Try.underlying4 true) ?_; intro w1 hown1 hgrow1)
      have hown2 := Sp.hid (show w1.ownsMap Try.prog 9 (plainElem Try.prog 4) w.heap.size (k + 1) (Sp.setM (sig.take (k + 1))) by rw [Ht.out, Sp.setM_snoc]; exact hown1)
      have hbox2 := Sp.hid ((hgrow1.block (w.heap.size + 1) (lt_of_block Hbox.out) (by simp)).trans Hbox.out)
      have hbel2 := Sp.hid (hbel.grown hgrow1 hbel.size (fun k hk => by cases hk; exact Nat.le_refl _))
      clear hown1 hgrow1 hown hbel
      go_wp2
      go_roundw
      case rel => exact ⟨k + 1, by omega, by go_num, hown2.out, hbox2.out, hbel2.out⟩
      case measure => simp [intOf]; omega
    · have hk' : sig.take k = sig := List.take_of_length_le (by rw [hg.1]; omega)
      rw [hk'] at hown
      clear hk' hrow m0 c0 b0
      have hlr := hl.below hbel
      have HC := Sp.hid (containsFunc_any (fun s => !Sp.inL sig s) 62 #[.pointer (some ⟨w.heap.size + 1, 0, none⟩)] is1_enters ao n cap l wr hlr (fun s hs => is1_any s sig w.heap.size (w.heap.size + 1) k wr (hl.2.2.2 s hs) hown hcell))
      have hf := Sp.hid (show (!l.any fun s => !Sp.inL sig s) = Sp.isF l sig by simp [Sp.isF, List.all_eq_not_any_not])
      clear hlr hown
      go_wp2_with fail
      refine HC.out.mono ?_
      rintro e w1 ⟨rfl, rfl⟩
      go_wp2
      go_ret
      exact ⟨by rw [← hf.out]; rfl, hbel⟩

set_option maxHeartbeats 400000 in
theorem refIn_any (s : ByteArray) (ao : Option Addr) (n cap : Nat) (l : List ByteArray) (w : World) (h : Sp.Row w ao n l) :
    Calls Try.prog 75 #[.string s, .slice ao n cap] w fun e w' => e = .returned (.bool (Sp.inL l s)) ∧ w = w' := by
  have hn := h.le
  go_enter Try.func75, Try.ntmps75
  go_wp2_with fail
  go_loop [5] (fun i => ∃ k : Nat, k ≤ n ∧ i = .int .i64 k ∧ Sp.inL (l.take k) s = false) (fun i => n - (intOf i).toNat)
  case atStart => exact ⟨0, Nat.zero_le _, rfl, rfl⟩
  case round =>
    obtain ⟨k, hk, rfl, hall⟩ := hrel
    have Hall := Sp.hid hall
    clear hall
    by_cases hlt : k < n
    · obtain ⟨b, off, x, rfl, hc, hs, hk?, ht⟩ := h.at hlt
      cases hb : x.data.toList == s.data.toList with
      | true =>
        have hf := Sp.hid (show Sp.inL l s = true from Sp.any_true_of hk? hb)
        have hb' : (x.toList == s.toList) = true := by rw [ByteArray.toList_eq, ByteArray.toList_eq]; exact hb
        clear hk? ht hb
        go_wp2
        go_ret
        exact ⟨by rw [hf.out]; rfl, rfl⟩
      | false =>
        have hs1 := Sp.hid (show Sp.inL (l.take (k + 1)) s = false by rw [ht, Sp.inL_snoc, Hall.out, hb]; rfl)
        have hb' : (x.toList == s.toList) = false := by rw [ByteArray.toList_eq, ByteArray.toList_eq]; exact hb
        clear hk? ht hb
        go_wp2
        go_round
        case rel => exact ⟨k + 1, by omega, by go_num, hs1.out⟩
        case measure => simp [intOf]; omega
    · have hk' : l.take k = l := List.take_of_length_le (by rw [h.1]; omega)
      have hf := Sp.hid (show Sp.inL l s = false by have h := Hall.out; rwa [hk'] at h)
      clear hk'
      go_wp2
      go_ret
      exact ⟨by rw [hf.out]; rfl, rfl⟩

set_option maxHeartbeats 400000 in
theorem refIs_any (ao : Option Addr) (n cap : Nat) (l : List ByteArray) (bo : Option Addr) (m cbp : Nat) (sig : List ByteArray) (w : World) (h : Sp.Row w ao n l) (hg : Sp.Row w bo m sig) :
    Calls Try.prog 38 #[.slice ao n cap, .slice bo m cbp] w fun e w' => e = .returned (.bool (Sp.isF l sig)) ∧ w = w' := by
  have hn := h.le
  go_enter Try.func38, Try.ntmps38
  go_wp2_with fail
  go_loop [5] (fun i => ∃ k : Nat, k ≤ n ∧ i = .int .i64 k ∧ Sp.isF (l.take k) sig = true) (fun i => n - (intOf i).toNat)
  case atStart => exact ⟨0, Nat.zero_le _, rfl, rfl⟩
  case round =>
    obtain ⟨k, hk, rfl, hall⟩ := hrel
    have Hall := Sp.hid hall
    clear hall
    by_cases hlt : k < n
    · obtain ⟨b, off, s, rfl, hc, hs, hk?, ht⟩ := h.at hlt
      cases hb : Sp.inL sig s with
      | false =>
        have hf' := Sp.hid (show Sp.isF l sig = false from Sp.all_false_of hk? hb)
        clear hk? ht
        go_wp2_with (go_at_call 75; refine (refIn_any s bo m cbp sig _ hg).mono ?_; rintro e w' ⟨rfl, rfl⟩)
        go_ret
        exact ⟨by rw [hf'.out]; rfl, rfl⟩
      | true =>
        have hs1 := Sp.hid (show Sp.isF (l.take (k + 1)) sig = true by rw [ht]; unfold Sp.isF; rw [Sp.all_snoc, show (l.take k).all (Sp.inL sig) = true from Hall.out, hb]; rfl)
        clear hk? ht
        go_wp2_with (go_at_call 75; refine (refIn_any s bo m cbp sig _ hg).mono ?_; rintro e w' ⟨rfl, rfl⟩)
        go_round
        case rel => exact ⟨k + 1, by omega, by go_num, hs1.out⟩
        case measure => simp [intOf]; omega
    · have hk' : l.take k = l := List.take_of_length_le (by rw [h.1]; omega)
      have hf' := Sp.hid (show Sp.isF l sig = true by have h := Hall.out; rwa [hk'] at h)
      clear hk'
      go_wp2
      go_ret
      exact ⟨by rw [hf'.out]; rfl, rfl⟩

end Go.Proofs.Ytimjgjhdkinhoaa
