/-
  Lists of words: the error of the first word that has one; what Sorted leaves.
-/
import Derived.Test.YtpoblcmjfcpiaaaGreatMgSpecL
import Derived.Test.YtpoblcmjfcpiaaaGreatMgWalkA
import Derived.Test.YtpoblcmjfcpiaaaGreatMgSpecOSpecE
import Derived.Maps.OwnOps
import Derived.Maps.OwnSet
import Derived.Maps.Views
import Derived.Test.YtpoblcmjfcpiaaaGreatMgWalkB
import Derived.Test.YtpoblcmjfcpiaaaGreatMgAuMemAuGrAuNet
set_option linter.unusedVariables false
namespace Go.Proofs.YtpoblcmjfcpiaaaGreat
open Go.RowKit Go.Sort

/-- The error of the first word that has one. -/
def Sp.errWords : List (List ByteArray) → Int
  | [] => 0
  | l :: r => if Sp.errWord l = 0 then Sp.errWords r else Sp.errWord l
theorem Sp.errWords_bad : ∀ {ll : List (List ByteArray)} {k : Nat} {l : List ByteArray}, (∀ x ∈ ll.take k, Sp.errWord x = 0) → ll[k]? = some l → Sp.errWord l ≠ 0 → Sp.errWords ll = Sp.errWord l
  | [], k, l, _, h, _ => by simp at h
  | x :: r, 0, l, _, h, hne => by simp at h; subst h; unfold Sp.errWords; rw [if_neg hne]
  | x :: r, k + 1, l, hall, h, hne => by
    unfold Sp.errWords
    rw [if_pos (hall x (by simp))]
    exact Sp.errWords_bad (k := k) (fun y hy => hall y (by rw [List.take_succ_cons]; exact List.mem_cons_of_mem _ hy)) (by simpa using h) hne
theorem Sp.errWords_good : ∀ {ll : List (List ByteArray)}, (∀ x ∈ ll, Sp.errWord x = 0) → Sp.errWords ll = 0
  | [], _ => rfl
  | x :: r, h => by unfold Sp.errWords; rw [if_pos (h x (by simp))]; exact Sp.errWords_good fun y hy => h y (by simp [hy])

def PostW (ll : List (List ByteArray)) (w : World) (e : Ending) (w' : World) : Prop :=
  ∃ v LL, e = .returned (.tuple #[v, .int .i64 (if 200 < ll.length then 3 else Sp.errWords ll)]) ∧ (if 200 < ll.length then LL = [] else if Sp.errWords ll = 0 then Sp.SetL LL ll else LL = []) ∧
    ∃ bo m cap, v = .slice bo m cap ∧ Sp.Row2 w' bo m LL ∧ Below w.heap.size w w'

theorem Sp.row2_nil (w : World) : Sp.Row2 w none 0 [] := ⟨rfl, by decide, fun h => absurd h (by omega)⟩

theorem Vec.below {α : Type} {en : α → Value} {w w' : World} {g : Nat} {e : TypeId} {cap n : Nat} {A : Nat → α} (h : Vec en w g e cap n A) (hb : Below w.heap.size w w') : Vec en w' g e cap n A := by
  have hl := h.lt
  obtain ⟨cur, h1, h2⟩ := h
  exact ⟨cur, by rw [hb.block g hl]; exact h1, h2⟩
theorem Sp.Row.grown {w w' : World} {g : Nat} {ao : Option Addr} {n : Nat} {l : List ByteArray} (h : Sp.Row w ao n l) (hg : w.grownBy w' (some g)) (hne : 0 < n → ∀ a, ao = some a → a.block ≠ g) : Sp.Row w' ao n l := by
  obtain ⟨h1, h2, h3, h4⟩ := h
  refine ⟨h1, h2, fun hn => ?_, h4⟩
  obtain ⟨b, off, e, hc⟩ := h3 hn
  have hb : b ≠ g := hne hn _ e
  refine ⟨b, off, e, fun i hi => ?_⟩
  have hci := hc i hi
  rw [World.cell?_of_block (hg.block b (World.block_lt_of_cell? w _ hci) (fun e => hb (by injection e)))]
  exact hci
end Go.Proofs.YtpoblcmjfcpiaaaGreat

/-
  The walk of Is: a set of texts as a map.
-/
set_option linter.unusedVariables false
namespace Go.Proofs.YtpoblcmjfcpiaaaGreat
open Go.RowKit Go.Maps Go.WideMaps Go.WideElems

def Sp.inL (sig : List ByteArray) (s : ByteArray) : Bool := sig.any fun x => x.data.toList == s.data.toList
def Sp.isF (l sig : List ByteArray) : Bool := l.all (Sp.inL sig)
theorem Sp.inL_snoc (l : List ByteArray) (x s : ByteArray) : Sp.inL (l ++ [x]) s = (Sp.inL l s || x.data.toList == s.data.toList) := by simp [Sp.inL]
abbrev KEY (s : ByteArray) : Lit := .string s.data.toList
def Sp.setM (l : List ByteArray) : DataW Unit := Maps.setOf (.lit (.bool true)) (l.map KEY)

theorem Sp.key_ok (l : List ByteArray) : ∀ x ∈ l.map KEY, WideAt.IsKeyLit x := by
  intro x hx
  obtain ⟨s, _, rfl⟩ := List.mem_map.1 hx
  trivial
theorem Sp.setM_isMap (l : List ByteArray) : Maps.IsMap (Sp.setM l) := (Maps.tidy_setOf _ _ (Sp.key_ok l)).isMap
theorem Sp.setM_snoc (l : List ByteArray) (s : ByteArray) : Sp.setM (l ++ [s]) = (Sp.setM l).put (KEY s) (.lit (.bool true)) := by
  unfold Sp.setM
  rw [List.map_append]
  exact Maps.setOf_snoc _ _ _
theorem Sp.setM_at (s : ByteArray) : ∀ (r l : List ByteArray), l = r.reverse → (Sp.setM l).atKey (KEY s) (.lit (.bool false)) = .lit (.bool (Sp.inL l s))
  | [], _, rfl => by
    show (DataW.map []).atKey _ _ = _
    rfl
  | x :: r, _, rfl => by
    rw [List.reverse_cons, Sp.setM_snoc]
    by_cases e : s = x
    · subst e
      rw [Maps.atKey_put_same (Sp.setM_isMap _) (k := KEY s) (show WideAt.IsKeyLit (KEY s) from trivial), Sp.inL_snoc]
      simp
    · rw [Maps.atKey_put_other (by intro hh; apply e; injection hh with hh; exact Sp.ba_ext hh), Sp.setM_at s r _ rfl, Sp.inL_snoc]
      have : (x.data.toList == s.data.toList) = false := by
        cases hh : x.data.toList == s.data.toList with
        | false => rfl
        | true => exact absurd (Sp.ba_ext (by simpa using hh)).symm e
      rw [this, Bool.or_false]

theorem run_makeMap_sized {k e : TypeId} {t : TypeId} (ht : Tryz.prog.underlying t = some (.map k e)) (n : Int) (w : World) :
    (Instr.makeMap t (some (.int .i64 n))).run Tryz.prog w = .ok (.map (some w.heap.size)) (w.alloc (.map #[] 0)) := by
  simp [Instr.makeMap, run_underlying ht, asInt, asIntOf]

theorem boolZero (w : World) : (zeroValue 4).run Tryz.prog w = .ok (.bool false) w := Tryz.zeroValue4 w

theorem is1_enters : ∀ args w, (callFunc 99 args).run Tryz.prog w = .ok (.enter 99 args) w :=
  fun args w => by simp [go_sem]

set_option maxHeartbeats 400000 in
set_option maxRecDepth 100000 in
theorem is1_any (s : ByteArray) (sig : List ByteArray) (b c n : Nat) (w : World) (hs : s.size ≤ maxLen) (hm : w.ownsMap Tryz.prog 9 (plainElem Tryz.prog 4) b n (Sp.setM sig)) (hc : w.cell? ⟨c, 0, none⟩ = some (.map (some b))) :
    Calls Tryz.prog 99 (#[.string s] ++ #[.pointer (some ⟨c, 0, none⟩)]) w fun e w' => e = .returned (.bool (!Sp.inL sig s)) ∧ w = w' := by
  obtain ⟨v, ps, hrun, hv⟩ := hm.lookup (string_keyed Tryz.underlying9) Tryz.underlying136 (boolZero w) (plainElem_bool Tryz.underlying4 false) (keyOf_string_mk Tryz.underlying9 hs)
  rw [Sp.setM_at s sig.reverse sig (by simp)] at hv
  obtain rfl : v = .bool (Sp.inL sig s) := by
    unfold plainElem at hv
    rw [Tryz.underlying4] at hv
    cases v <;> simp at hv
    rw [hv.1]
  show Calls Tryz.prog 99 #[.string s, .pointer (some ⟨c, 0, none⟩)] w _
  have Hv := Sp.hid hv
  clear hv
  go_enter Tryz.func99, Tryz.ntmps99
  go_wp2
  go_ret
  exact ⟨by first | rfl | simp, rfl⟩

set_option maxHeartbeats 1000000 in
set_option maxRecDepth 100000 in
theorem is_any (ao : Option Addr) (n cap : Nat) (l : List ByteArray) (bo : Option Addr) (m cbp : Nat) (sig : List ByteArray) (w : World) (hl : Sp.Row w ao n l) (hg : Sp.Row w bo m sig) :
    Calls Tryz.prog 76 #[.slice ao n cap, .slice bo m cbp] w fun e w' => e = .returned (.bool (Sp.isF l sig)) ∧ Below w.heap.size w w' := by
  have hn := hl.le
  have hm := hg.le
  have hmm := run_makeMap_sized Tryz.underlying136
  have b0 : Below w.heap.size w ((w.alloc (.map #[] 0)).alloc (.cells #[.map (some w.heap.size)] 136)) :=
    ((Below.refl _ w).alloc (Nat.le_refl _) _).alloc (by simp) _
  have m0 : ((w.alloc (.map #[] 0)).alloc (.cells #[.map (some w.heap.size)] 136)).ownsMap Tryz.prog 9 (plainElem Tryz.prog 4) w.heap.size 0 (Sp.setM []) :=
    (World.ownsMap_made w Tryz.prog 9 (plainElem Tryz.prog 4)).alloc _
  have c0 : ((w.alloc (.map #[] 0)).alloc (.cells #[.map (some w.heap.size)] 136)).heap[w.heap.size + 1]? = some (.cells #[.map (some w.heap.size)] 136 (0, 0)) := by
    have := heap_alloc_new (w.alloc (.map #[] 0)) (.cells #[.map (some w.heap.size)] 136)
    simpa using this
  go_enter Tryz.func76, Tryz.ntmps76
  go_wp2_with fail
  go_loopw [7, 13] (fun _ i wr => ∃ k : Nat, k ≤ m ∧ i = .int .i64 k ∧ wr.ownsMap Tryz.prog 9 (plainElem Tryz.prog 4) w.heap.size k (Sp.setM (sig.take k)) ∧ wr.heap[w.heap.size + 1]? = some (.cells #[.map (some w.heap.size)] 136 (0, 0)) ∧ Below w.heap.size w wr) (fun _ i _ => m - (intOf i).toNat)
  case atStart => exact ⟨0, Nat.zero_le _, rfl, m0, c0, b0⟩
  case round =>
    obtain ⟨k, hk, rfl, hown, hbox, hbel⟩ := hrel
    have hcell : wr.cell? ⟨w.heap.size + 1, 0, none⟩ = some (.map (some w.heap.size)) := cell_of_one hbox
    have Hbox := Sp.hid hbox
    clear hbox
    have hrow := hg.below hbel
    by_cases hlt : k < m
    · obtain ⟨b, off, s, rfl, hc, hs, hk?, ht⟩ := hrow.at hlt
      have hkey := keyOf_string_mk Tryz.underlying9 hs
      have Ht := Sp.hid ht
      clear hk? ht hrow m0 c0 b0
      go_wp2_with (at_mapUpdate; refine wpList_mapUpdate_own _ rfl _ _ _ 136 rfl 9 4 (string_keyed Tryz.underlying9) Tryz.underlying136 _ w.heap.size k _ rfl hown (by unfold maxLen; omega) _ _ _ rfl rfl hkey _ [] (plainElem_bool Tryz.underlying4 true) ?_; intro w1 hown1 hgrow1)
      have hown2 := Sp.hid (show w1.ownsMap Tryz.prog 9 (plainElem Tryz.prog 4) w.heap.size (k + 1) (Sp.setM (sig.take (k + 1))) by rw [Ht.out, Sp.setM_snoc]; exact hown1)
      have hbox2 := Sp.hid ((hgrow1.block (w.heap.size + 1) (lt_of_block Hbox.out) (by simp)).trans Hbox.out)
      have hbel2 := Sp.hid (hbel.grown hgrow1 hbel.size (fun k hk => by cases hk; exact Nat.le_refl _))
      clear hown1 hgrow1 hown hbel
      go_wp2
      go_roundw
      case rel => exact ⟨k + 1, by omega, by go_num, hown2.out, hbox2.out, hbel2.out⟩
      case measure => simp [intOf]; omega
    · have hk' : sig.take k = sig := List.take_of_length_le (by rw [hg.1]; omega)
      rw [hk'] at hown
      clear hk' hrow m0 c0 b0
      have hlr := hl.below hbel
      have HC := Sp.hid (containsFunc_any (fun s => !Sp.inL sig s) 99 #[.pointer (some ⟨w.heap.size + 1, 0, none⟩)] is1_enters ao n cap l wr hlr (fun s hs => is1_any s sig w.heap.size (w.heap.size + 1) k wr (hl.2.2.2 s hs) hown hcell))
      have hf := Sp.hid (show (!l.any fun s => !Sp.inL sig s) = Sp.isF l sig by simp [Sp.isF, List.all_eq_not_any_not])
      clear hlr hown
      go_wp2_with fail
      refine HC.out.mono ?_
      rintro e w1 ⟨rfl, rfl⟩
      go_wp2
      go_ret
      exact ⟨by rw [← hf.out]; rfl, hbel⟩

end Go.Proofs.YtpoblcmjfcpiaaaGreat

/-
  The walk of validateWords: the error of an alphabet, or else that of words over it.
-/
set_option linter.unusedVariables false
set_option linter.unusedSimpArgs false
namespace Go.Proofs.YtpoblcmjfcpiaaaGreat
open Go.RowKit
namespace Nf
noncomputable def errAll (sig : List ByteArray) (L : List (List ByteArray)) : Int :=
  if Sp.errAlpha sig ≠ 0 then Sp.errAlpha sig else if 200 < L.length then 3 else if Sp.errWords L ≠ 0 then Sp.errWords L else if L.any (fun v => !Sp.isF v sig) = true then 4 else 0
theorem errAll_alpha {sig : List ByteArray} {L : List (List ByteArray)} (h : Sp.errAlpha sig ≠ 0) : errAll sig L = Sp.errAlpha sig := by unfold errAll; rw [if_pos h]
theorem errAll_many {sig : List ByteArray} {L : List (List ByteArray)} (h : Sp.errAlpha sig = 0) (h2 : 200 < L.length) : errAll sig L = 3 := by unfold errAll; rw [if_neg (by simpa using h), if_pos h2]
theorem errAll_word {sig : List ByteArray} {L : List (List ByteArray)} (h : Sp.errAlpha sig = 0) (h2 : ¬ 200 < L.length) (h3 : Sp.errWords L ≠ 0) : errAll sig L = Sp.errWords L := by unfold errAll; rw [if_neg (by simpa using h), if_neg h2, if_pos h3]
theorem errAll_none {sig : List ByteArray} {L : List (List ByteArray)} (h : Sp.errAlpha sig = 0) (h2 : ¬ 200 < L.length) (h3 : Sp.errWords L = 0) (h4 : L.any (fun v => !Sp.isF v sig) = true) : errAll sig L = 4 := by unfold errAll; rw [if_neg (by simpa using h), if_neg h2, if_neg (by simpa using h3), if_pos h4]
theorem errAll_ok {sig : List ByteArray} {L : List (List ByteArray)} (h : Sp.errAlpha sig = 0) (h2 : ¬ 200 < L.length) (h3 : Sp.errWords L = 0) (h4 : L.any (fun v => !Sp.isF v sig) = false) : errAll sig L = 0 := by unfold errAll; rw [if_neg (by simpa using h), if_neg h2, if_neg (by simpa using h3), if_neg (by simp [h4])]
theorem lists_snoc {els : List Lst} {k : Nat} {x : Lst} (h : els.take (k + 1) = els.take k ++ [x]) : (Sp.lists els).take (k + 1) = (Sp.lists els).take k ++ [x.l] := by
  unfold Sp.lists
  rw [← List.map_take, h, List.map_append, List.map_take]
  rfl
theorem lists_get {els : List Lst} {k : Nat} {x : Lst} (h : els[k]? = some x) : (Sp.lists els)[k]? = some x.l := by unfold Sp.lists; rw [List.getElem?_map, h]; rfl
end Nf

def IdxPostW (p : List ByteArray → Bool) (l : List (List ByteArray)) (w : World) (e : Ending) (w' : World) : Prop :=
  ∃ i : Int, e = .returned (.int .i64 i) ∧ (decide (0 ≤ i) = l.any p) ∧ Below w.heap.size w w'

set_option maxHeartbeats 400000 in
set_option maxRecDepth 100000 in
theorem indexW_any (p : List ByteArray → Bool) (g : Nat) (lb : Array Value) (eg : ∀ args w, (callFunc g args).run Tryz.prog w = .ok (.enter g args) w) (bo : Option Addr) (m cap : Nat) (els : List Lst) (w : World) (h : Sp.RowE w bo m els)
    (hp : ∀ (x : Lst) (w1 : World), x ∈ els → Below w.heap.size w w1 → Calls Tryz.prog g (#[.slice x.ao x.n x.cap] ++ lb) w1 fun e w' => e = .returned (.bool (p x.l)) ∧ Below w1.heap.size w1 w') :
    Calls Tryz.prog 97 #[.slice bo m cap, .func (.func g) #[] lb] w (IdxPostW p (Sp.lists els) w) := by
  have hn := h.2.1
  unfold maxLen at hn
  have Hp := Sp.hid hp
  have Hlen := Sp.hid (show (Sp.lists els).length = m by simp [Sp.lists, h.1])
  clear hp
  go_enter Tryz.func97, Tryz.ntmps97
  go_wp2_with fail
  go_loopw [5, 8] (fun _ i wr => ∃ k : Nat, k ≤ m ∧ i = .int .i64 k ∧ ((Sp.lists els).take k).any p = false ∧ Below w.heap.size w wr) (fun _ i _ => m - (intOf i).toNat)
  case atStart => exact ⟨0, Nat.zero_le _, rfl, rfl, Below.refl _ _⟩
  case round =>
    obtain ⟨k, hk, rfl, hall, hbel⟩ := hrel
    have Hall := Sp.hid hall
    have Hbel := Sp.hid hbel
    clear hall hbel
    by_cases hlt : k < m
    · obtain ⟨b, off, x, rfl, c0, hrx, hk?, ht⟩ := (h.below Hbel.out).at hlt
      have hcall := Sp.hid (Hp.out x wr (List.mem_of_getElem? hk?) Hbel.out)
      obtain ⟨xo, xn, xc, xl⟩ := x
      simp only at c0 hcall
      have hl? := Nf.lists_get hk?
      have hlt2 := Nf.lists_snoc ht
      simp only at hl? hlt2
      cases hb : p xl with
      | true =>
        have hf := Sp.hid (show (Sp.lists els).any p = true from Sp.any_true_of hl? hb)
        have Hb := Sp.hid hb
        clear hk? ht hb hl? hlt2 hrx
        go_wp2_with fail
        refine hcall.out.mono ?_
        rintro e w' ⟨rfl, hb2⟩
        rw [Hb.out]
        have Hb2 := Sp.hid (Hbel.out.trans (hb2.mono Hbel.out.size))
        clear hb2
        go_wp2
        go_ret
        exact ⟨k, rfl, by rw [hf.out]; simp, Hb2.out⟩
      | false =>
        have hs1 := Sp.hid (show ((Sp.lists els).take (k + 1)).any p = false by rw [hlt2, Sp.any_snoc, Hall.out, hb]; rfl)
        have Hb := Sp.hid hb
        clear hk? ht hb hl? hlt2 hrx
        go_wp2_with fail
        refine hcall.out.mono ?_
        rintro e w' ⟨rfl, hb2⟩
        rw [Hb.out]
        have Hb2 := Sp.hid (Hbel.out.trans (hb2.mono Hbel.out.size))
        clear hb2
        go_wp2
        go_roundw
        case rel => exact ⟨k + 1, by omega, by go_num, hs1.out, Hb2.out⟩
        case measure => simp [intOf]; omega
    · have hk' : (Sp.lists els).take k = Sp.lists els := List.take_of_length_le (by rw [Hlen.out]; omega)
      have hf := Sp.hid (show (Sp.lists els).any p = false by have h := Hall.out; rwa [hk'] at h)
      clear hk'
      go_wp2
      go_ret
      exact ⟨-1, rfl, by rw [hf.out]; rfl, Hbel.out⟩

set_option maxHeartbeats 400000 in
theorem containsW_any (p : List ByteArray → Bool) (g : Nat) (lb : Array Value) (eg : ∀ args w, (callFunc g args).run Tryz.prog w = .ok (.enter g args) w) (bo : Option Addr) (m cap : Nat) (els : List Lst) (w : World) (h : Sp.RowE w bo m els)
    (hp : ∀ (x : Lst) (w1 : World), x ∈ els → Below w.heap.size w w1 → Calls Tryz.prog g (#[.slice x.ao x.n x.cap] ++ lb) w1 fun e w' => e = .returned (.bool (p x.l)) ∧ Below w1.heap.size w1 w') :
    Calls Tryz.prog 74 #[.slice bo m cap, .func (.func g) #[] lb] w fun e w' => e = .returned (.bool ((Sp.lists els).any p)) ∧ Below w.heap.size w w' := by
  have Hc := Sp.hid (indexW_any p g lb eg bo m cap els w h hp)
  clear hp eg
  go_enter Tryz.func74, Tryz.ntmps74
  go_wp2_with fail
  refine Hc.out.mono ?_
  rintro e w' ⟨i, rfl, hi, hb⟩
  have Hi := Sp.hid hi
  have Hb := Sp.hid hb
  clear hi hb
  go_wp2
  go_ret
  exact ⟨by rw [← Hi.out]; rfl, Hb.out⟩

set_option maxHeartbeats 400000 in
theorem vw1_any (w : World) (xo : Option Addr) (xn xc : Nat) (xl : List ByteArray) (bx : Nat) (ao : Option Addr) (n cap : Nat) (sig : List ByteArray) (hx : Sp.Row w xo xn xl) (hc : w.cell? ⟨bx, 0, none⟩ = some (.slice ao n cap)) (hs : Sp.Row w ao n sig) :
    Calls Tryz.prog 75 #[.slice xo xn xc, .pointer (some ⟨bx, 0, none⟩)] w fun e w' => e = .returned (.bool (!Sp.isF xl sig)) ∧ Below w.heap.size w w' := by
  have HI := Sp.hid (is_any xo xn xc xl ao n cap sig w hx hs)
  clear hx hs
  obtain ⟨r, hr⟩ : ∃ r, Sp.isF xl sig = r := ⟨_, rfl⟩
  rw [hr] at HI ⊢
  clear hr
  go_enter Tryz.func75, Tryz.ntmps75
  go_wp2_with fail
  refine HI.out.mono ?_
  rintro e w2 ⟨rfl, hb2⟩
  have Hb2 := Sp.hid hb2
  clear hb2
  cases r with
  | true =>
    go_wp2_with fail
    go_ret
    exact ⟨rfl, Hb2.out⟩
  | false =>
    go_wp2_with fail
    go_ret
    exact ⟨rfl, Hb2.out⟩

set_option maxHeartbeats 2000000 in
set_option maxRecDepth 100000 in
theorem validWords_any (w : World) (ao : Option Addr) (n cap : Nat) (sig : List ByteArray) (bo : Option Addr) (m mcap : Nat) (els : List Lst) (h : Sp.Row w ao n sig) (hL : Sp.RowE w bo m els) :
    Calls Tryz.prog 46 #[.slice ao n cap, .slice bo m mcap] w fun e w' => e = .returned (.int .i64 (Nf.errAll sig (Sp.lists els))) ∧ Below w.heap.size w w' := by
  have hm := hL.2.1
  unfold maxLen at hm
  have hb0 : Below w.heap.size w (w.alloc (.cells #[.slice ao n cap] 22)) := (Below.refl _ w).alloc (Nat.le_refl _) _
  have hblk : (w.alloc (.cells #[.slice ao n cap] 22)).heap[w.heap.size]? = some (.cells #[.slice ao n cap] 22 (0, 0)) := Nf.Below.heap_new w _
  have Hlen := Sp.hid (show (Sp.lists els).length = m by simp [Sp.lists, hL.1])
  obtain ⟨w1, hw1⟩ : ∃ w1, w.alloc (.cells #[.slice ao n cap] 22) = w1 := ⟨_, rfl⟩
  rw [hw1] at hb0 hblk
  obtain ⟨bx, hbx⟩ : ∃ bx, w.heap.size = bx := ⟨_, rfl⟩
  have hblk' : w1.heap[bx]? = some (.cells #[.slice ao n cap] 22 (0, 0)) := by rw [← hbx]; exact hblk
  have hV := validate_any ao n cap sig w1 (h.below hb0)
  have HH := Sp.hid (h.below hb0)
  have HL := Sp.hid (hL.below hb0)
  have Hb0 := Sp.hid hb0
  have Hblk := Sp.hid hblk'
  have Hw1 := Sp.hid hw1
  have Hbx := Sp.hid hbx
  have c0 : w1.cell? ⟨bx, 0, none⟩ = some (.slice ao n cap) := Nf.blk_cell (i := 0) hblk' rfl
  obtain ⟨r, hr⟩ : ∃ r, Sp.errAlpha sig = r := ⟨_, rfl⟩
  rw [hr] at hV
  have HV := Sp.hid hV
  have Hr := Sp.hid hr
  clear h hL hb0 hblk hblk' hw1 hbx hV hr
  by_cases h0 : r = 0
  · subst h0
    by_cases h2 : 200 < m
    · have hE := Sp.hid (Nf.errAll_many (L := Sp.lists els) Hr.out (by rw [Hlen.out]; exact h2))
      have hi : (m : Int) > 200 := by omega
      go_enter Tryz.func46, Tryz.ntmps46
      go_wp2_with fail
      rw [Hw1.out, Hbx.out]
      go_wp2_with fail
      refine HV.out.mono ?_
      rintro e w' ⟨rfl, rfl⟩
      go_wp2_with fail
      go_ret
      exact ⟨by first | (rw [hE.out]; done) | (rw [hE.out]; rfl), Hb0.out⟩
    · have H2 := Sp.hid (show ¬ 200 < (Sp.lists els).length by rw [Hlen.out]; exact h2)
      have hg : decide ((m : Int) > 200) = false := by simp; omega
      go_enter Tryz.func46, Tryz.ntmps46
      go_wp2_with fail
      rw [Hw1.out, Hbx.out]
      go_wp2_with fail
      refine HV.out.mono ?_
      rintro e w' ⟨rfl, rfl⟩
      go_wp2_with fail
      go_loopw [7, 8, 19] (fun _ _ i wr => ∃ k : Nat, i = .int .i64 k ∧ k ≤ m ∧ Hid (∀ x ∈ (Sp.lists els).take k, Sp.errWord x = 0) ∧ wr = w1) (fun _ _ i _ => m - (intOf i).toNat)
      case atStart => exact ⟨0, rfl, Nat.zero_le _, Sp.hid (by simp), rfl⟩
      case round =>
        obtain ⟨k, rfl, hk, Hall, rfl⟩ := hrel
        by_cases hkm : k < m
        · obtain ⟨b, off, x, rfl, ca0, hrx, hk?, ht⟩ := HL.out.at hkm
          have hl? := Nf.lists_get hk?
          have hlt2 := Nf.lists_snoc ht
          obtain ⟨xo, xn, xc, xl⟩ := x
          simp only at ca0 hrx hl? hlt2
          have hvw := validateWord_any xo xn xc xl _ hrx
          obtain ⟨s, hs⟩ : ∃ s, Sp.errWord xl = s := ⟨_, rfl⟩
          rw [hs] at hvw
          have HW := Sp.hid hvw
          by_cases hs0 : s = 0
          · subst hs0
            have HA := Sp.hid (show ∀ x ∈ (Sp.lists els).take (k + 1), Sp.errWord x = 0 from fun x hx => by
              rw [hlt2] at hx
              rcases List.mem_append.1 hx with hx | hx
              · exact Hall.out x hx
              · simp at hx; rw [hx]; exact hs)
            clear hk? ht hl? hlt2 hs hrx hvw
            go_wp2_with fail
            refine HW.out.mono ?_
            rintro e w' ⟨rfl, rfl⟩
            go_wp2_with fail
            go_roundw
            case rel => exact ⟨k + 1, by go_num, hkm, HA, by first | rfl | trivial⟩
            case measure => simp [intOf]; omega
          · have he := Sp.errWords_bad Hall.out hl? (by rw [hs]; exact hs0)
            have hE := Sp.hid (show Nf.errAll sig (Sp.lists els) = s by rw [Nf.errAll_word Hr.out H2.out (by rw [he, hs]; exact hs0), he, hs])
            have h3 : (s != 0) = true := by simpa using hs0
            clear hk? ht hl? hlt2 hs hrx hvw he hs0
            go_wp2_with fail
            refine HW.out.mono ?_
            rintro e w' ⟨rfl, rfl⟩
            go_wp2_with fail
            go_ret
            exact ⟨by first | (rw [hE.out]; done) | (rw [hE.out]; rfl), Hb0.out⟩
        · have hW := Sp.errWords_good (ll := Sp.lists els) (fun x hx => Hall.out x (by rw [List.take_of_length_le (by rw [Hlen.out]; omega)]; exact hx))
          have HW := Sp.hid hW
          have HC := Sp.hid (containsW_any (fun v => !Sp.isF v sig) 75 #[.pointer (some ⟨bx, 0, none⟩)] (enters_of Tryz.func75 (by kernel_rfl) rfl) bo m mcap els _ HL.out (fun x w2 hx hb => vw1_any w2 x.ao x.n x.cap x.l bx ao n cap sig ((HL.out.2.2.2 x hx).below hb) (Nf.blk_cell (i := 0) (Nf.blk_below Hblk.out hb (Nf.blk_lt Hblk.out)) rfl) (HH.out.below hb)))
          obtain ⟨an, han⟩ : ∃ an, ((Sp.lists els).any fun v => !Sp.isF v sig) = an := ⟨_, rfl⟩
          rw [han] at HC
          have Han := Sp.hid han
          clear hW han
          cases an with
          | true =>
            have hE := Sp.hid (Nf.errAll_none Hr.out H2.out HW.out Han.out)
            go_wp2_with fail
            refine HC.out.mono ?_
            rintro e w2 ⟨rfl, hb2⟩
            have Hb2 := Sp.hid (Hb0.out.trans (hb2.mono Hb0.out.size))
            clear hb2
            go_wp2_with fail
            go_ret
            exact ⟨by first | (rw [hE.out]; done) | (rw [hE.out]; rfl), Hb2.out⟩
          | false =>
            have hE := Sp.hid (Nf.errAll_ok Hr.out H2.out HW.out Han.out)
            go_wp2_with fail
            refine HC.out.mono ?_
            rintro e w2 ⟨rfl, hb2⟩
            have Hb2 := Sp.hid (Hb0.out.trans (hb2.mono Hb0.out.size))
            clear hb2
            go_wp2_with fail
            go_ret
            exact ⟨by first | (rw [hE.out]; done) | (rw [hE.out]; rfl), Hb2.out⟩
  · have hE := Sp.hid (show Nf.errAll sig (Sp.lists els) = r by rw [Nf.errAll_alpha (by rw [Hr.out]; exact h0), Hr.out])
    have h3 : (r != 0) = true := by simpa using h0
    clear h0
    go_enter Tryz.func46, Tryz.ntmps46
    go_wp2_with fail
    rw [Hw1.out, Hbx.out]
    go_wp2_with fail
    refine HV.out.mono ?_
    rintro e w' ⟨rfl, rfl⟩
    go_wp2_with fail
    go_ret
    exact ⟨by first | (rw [hE.out]; done) | (rw [hE.out]; rfl), Hb0.out⟩
end Go.Proofs.YtpoblcmjfcpiaaaGreat
