/-
  slices.Clone at a slice of strings, and Sorted of package syms.
-/
import Derived.Test.YtimjgjhdkinhoaaWalkS
import Derived.Test.YtimjgjhdkinhoaaWalkR
import Derived.Test.YtimjgjhdkinhoaaWalkA
set_option linter.unusedVariables false
namespace Go.Proofs.Ytimjgjhdkinhoaa
open Go.RowKit Go.Sort

/-- A copy: where it lies. -/
def CopyRes (l : List ByteArray) (w w' : World) (v : Value) : Prop := ∃ ao n cap, v = .slice ao n cap ∧ Sp.Row w' ao n l ∧ n ≤ cap ∧ (∀ a, ao = some a → w.heap.size ≤ a.block) ∧ Below w.heap.size w w'

theorem Sp.row_of_own2 {w : World} {base : Nat} {v : Value} {xs : List ByteArray} (h : w.ownsRow base 9 1 v xs.length (xs.map Value.string)) (hs : ∀ s ∈ xs, s.size ≤ maxLen) (hm : xs.length ≤ maxLen) :
    ∃ ao cap, v = .slice ao xs.length cap ∧ Sp.Row w ao xs.length xs ∧ xs.length ≤ cap ∧ ∀ a, ao = some a → base ≤ a.block := by
  obtain ⟨ao, cap, rfl, h1, h2⟩ := Sp.row_of_own h hs hm
  refine ⟨ao, cap, rfl, h1, h2, fun a ha => ?_⟩
  subst ha
  rcases h.2 with ⟨h0, _⟩ | ⟨g, cap', cur, hv, hb, _⟩
  · cases h0
  · injection hv with hv; injection hv with hv; rw [hv]; exact hb

theorem clone_any (ao : Option Addr) (n cap : Nat) (l : List ByteArray) (w : World) (h : Sp.Row w ao n l) (hn : n ≤ 1000) :
    Calls Try.prog 65 #[.slice ao n cap] w fun e w' => ∃ v, e = .returned v ∧ CopyRes l w w' v := by
  have hl := h.1
  by_cases h0 : n = 0
  · subst h0
    have hl0 : l = [] := List.length_eq_zero_iff.1 hl
    subst hl0
    cases ao with
    | none =>
      refine (Try.slices_Clone_string_nil 0 cap w).mono ?_
      rintro e w' ⟨rfl, rfl⟩
      exact ⟨_, rfl, none, 0, 0, rfl, ⟨rfl, by decide, fun h => absurd h (by omega), by simp⟩, Nat.le_refl _, fun a h => (by cases h), Below.refl _ _⟩
    | some ad =>
      refine (Try.slices_Clone_string_zero ad cap w).mono ?_
      rintro e w' ⟨v, rfl, hown, _, hb⟩
      obtain ⟨o3, c3, hv3, hrow3, hc3, hb3⟩ := Sp.row_of_own2 (xs := []) hown (by simp) (by decide)
      exact ⟨v, rfl, o3, 0, c3, hv3, hrow3, hc3, hb3, hb⟩
  · obtain ⟨b, off, rfl, hc⟩ := h.2.2.1 (by omega)
    refine (Try.slices_Clone_string b off n cap l w (by omega) (by omega) (fun j hj => hc j (by omega))).mono ?_
    rintro e w' ⟨v, rfl, hown, _, hb⟩
    rw [List.take_of_length_le (by omega)] at hown
    have hown : w'.ownsRow w.heap.size 9 1 v l.length (l.map Value.string) := by rw [hl]; exact hown
    obtain ⟨o3, c3, hv3, hrow3, hc3, hb3⟩ := Sp.row_of_own2 hown h.2.2.2 (by unfold maxLen; omega)
    rw [hl] at hv3 hrow3 hc3
    exact ⟨v, rfl, o3, n, c3, hv3, hrow3, hc3, hb3, hb⟩

/-- The error of the first word that has one. -/
def Sp.errWords : List (List ByteArray) → Int
  | [] => 0
  | l :: r => if Sp.errWord l = 0 then Sp.errWords r else Sp.errWord l
theorem Sp.errWords_bad : ∀ {ll : List (List ByteArray)} {k : Nat} {l : List ByteArray}, (∀ x ∈ ll.take k, Sp.errWord x = 0) → ll[k]? = some l → Sp.errWord l ≠ 0 → Sp.errWords ll = Sp.errWord l
  | [], k, l, _, h, _ => by simp at h
  | x :: r, 0, l, _, h, hne => by simp at h; subst h; unfold Sp.errWords; rw [if_neg hne]
  | x :: r, k + 1, l, hall, h, hne => by
    unfold Sp.errWords
    rw [if_pos (hall x (by simp))]
    exact Sp.errWords_bad (k := k) (fun y hy => hall y (by rw [List.take_succ_cons]; exact List.mem_cons_of_mem _ hy)) (by simpa using h) hne
theorem Sp.errWords_good : ∀ {ll : List (List ByteArray)}, (∀ x ∈ ll, Sp.errWord x = 0) → Sp.errWords ll = 0
  | [], _ => rfl
  | x :: r, h => by unfold Sp.errWords; rw [if_pos (h x (by simp))]; exact Sp.errWords_good fun y hy => h y (by simp [hy])

def PostW (ll : List (List ByteArray)) (w : World) (e : Ending) (w' : World) : Prop :=
  ∃ v LL, e = .returned (.tuple #[v, .int .i64 (if 200 < ll.length then 3 else Sp.errWords ll)]) ∧ (if 200 < ll.length then LL = [] else if Sp.errWords ll = 0 then Sp.SetL LL ll else LL = []) ∧
    ∃ bo m cap, v = .slice bo m cap ∧ Sp.Row2 w' bo m LL ∧ Below w.heap.size w w'

theorem Sp.row2_nil (w : World) : Sp.Row2 w none 0 [] := ⟨rfl, by decide, fun h => absurd h (by omega)⟩

theorem Vec.below {α : Type} {en : α → Value} {w w' : World} {g : Nat} {e : TypeId} {cap n : Nat} {A : Nat → α} (h : Vec en w g e cap n A) (hb : Below w.heap.size w w') : Vec en w' g e cap n A := by
  have hl := h.lt
  obtain ⟨cur, h1, h2⟩ := h
  exact ⟨cur, by rw [hb.block g hl]; exact h1, h2⟩
theorem Sp.Row.grown {w w' : World} {g : Nat} {ao : Option Addr} {n : Nat} {l : List ByteArray} (h : Sp.Row w ao n l) (hg : w.grownBy w' (some g)) (hne : 0 < n → ∀ a, ao = some a → a.block ≠ g) : Sp.Row w' ao n l := by
  obtain ⟨h1, h2, h3, h4⟩ := h
  refine ⟨h1, h2, fun hn => ?_, h4⟩
  obtain ⟨b, off, e, hc⟩ := h3 hn
  have hb : b ≠ g := hne hn _ e
  refine ⟨b, off, e, fun i hi => ?_⟩
  have hci := hc i hi
  rw [World.cell?_of_block (hg.block b (World.block_lt_of_cell? w _ hci) (fun e => hb (by injection e)))]
  exact hci

set_option maxHeartbeats 2000000 in
set_option maxRecDepth 100000 in
theorem sorted_any (ao : Option Addr) (n cap : Nat) (els : List Lst) (w : World) (h : Sp.RowE w ao n els) :
    Calls Try.prog 33 #[.slice ao n cap] w (PostW (Sp.lists els) w) := by
  have hn : n ≤ 9223372036854775807 := by have := h.2.1; unfold maxLen at this; exact this
  have hll : (Sp.lists els).length = n := by simp [Sp.lists, h.1]
  have Hll := Sp.hid hll
  have Hlen := Sp.hid h.1
  have Hrow := Sp.hid h.2.2.2
  clear hll
  by_cases h2 : 200 < n
  · go_enter Try.func33, Try.ntmps33
    go_wp2_with fail
    go_ret2
    have hll := Hll.out
    exact ⟨_, [], by rw [if_pos (by omega)]; rfl, by rw [if_pos (by omega)], none, 0, 0, rfl, Sp.row2_nil _, Below.refl _ _⟩
  · go_enter Try.func33, Try.ntmps33
    go_wp2_with fail
    go_loop [5, 6, 15] (fun _ _ i => ∃ k : Nat, k ≤ n ∧ i = .int .i64 k ∧ ∀ x ∈ (Sp.lists els).take k, Sp.errWord x = 0) (fun _ _ i => n - (intOf i).toNat)
    case atStart => exact ⟨0, Nat.zero_le _, rfl, by simp⟩
    case round =>
      obtain ⟨k, hk, rfl, hall⟩ := hrel
      have Hall := Sp.hid hall
      clear hall
      by_cases hlt : k < n
      · obtain ⟨b, off, x, rfl, hc, hrow, hl, ht⟩ := h.at hlt
        have HV := Sp.hid (validateWord_any x.ao x.n x.cap x.l w hrow)
        have hk1 : (Sp.lists els)[k]? = some x.l := by simp [Sp.lists, hl]
        by_cases he : Sp.errWord x.l = 0
        · have hs1 := Sp.hid (show ∀ y ∈ (Sp.lists els).take (k + 1), Sp.errWord y = 0 by
            intro y hy
            have e : (Sp.lists els).take (k + 1) = (Sp.lists els).take k ++ [x.l] := by simp [Sp.lists, ← List.map_take, ht]
            rw [e] at hy
            rcases List.mem_append.1 hy with hy | hy
            · exact Hall.out y hy
            · simp at hy; subst hy; exact he)
          rw [he] at HV
          clear hl ht hk1 he hrow
          go_wp2_with fail
          refine HV.out.mono ?_
          rintro e w1 ⟨rfl, rfl⟩
          go_wp2_with fail
          go_round
          case rel => exact ⟨k + 1, hlt, by go_num, hs1.out⟩
          case measure => simp [intOf]; omega
        · have hf := Sp.hid (show Sp.errWords (Sp.lists els) = Sp.errWord x.l from Sp.errWords_bad Hall.out hk1 he)
          obtain ⟨r, hr⟩ : ∃ r, Sp.errWord x.l = r := ⟨_, rfl⟩
          rw [hr] at HV hf he
          have h1 : (r == 0) = false := by simpa using he
          have He := Sp.hid he
          clear hl ht hk1 he hrow hr
          go_wp2_with fail
          refine HV.out.mono ?_
          rintro e w1 ⟨rfl, rfl⟩
          go_wp2_with fail
          go_ret2
          have hll := Hll.out
          exact ⟨_, [], by rw [if_neg (by omega), hf.out]; rfl, by rw [if_neg (by omega), if_neg (by rw [hf.out]; exact He.out)], none, 0, 0, rfl, Sp.row2_nil _, Below.refl _ _⟩
      · have hk' : k = n := by omega
        have hf := Sp.hid (show Sp.errWords (Sp.lists els) = 0 from Sp.errWords_good fun x hx => Hall.out x (by rw [List.take_of_length_le (by rw [Hll.out]; omega)]; exact hx))
        have hw60 := Sp.hid (show ∀ x ∈ els, x.n ≤ 60 from fun x hx => by
          have h0 : Sp.errWord x.l = 0 := Hall.out x.l (by rw [List.take_of_length_le (by rw [Hll.out]; omega)]; exact List.mem_map_of_mem hx)
          have h1 := (Sp.word_small h0).1
          have h2 := (Hrow.out x hx).1
          omega)
        have HS := Sp.hid (setW_any ao n cap els w h (by omega))
        clear hk'
        go_wp2_with fail
        refine HS.out.mono ?_
        rintro e w1 ⟨v, rfl, hb1, ⟨he0, rfl⟩ | ⟨g, m, cap2, B, rfl, hg, hm, hV, hset, hmem⟩⟩
        · have He0 := Sp.hid he0
          clear he0
          go_wp2_with fail
          go_loop [8, 9, 29] (fun _ _ i => i = .int .i64 (0 : Nat)) (fun _ _ _ => 0)
          case atStart => rfl
          case round =>
            subst hrel
            go_wp2_with fail
            go_ret2
            have hll := Hll.out
            exact ⟨_, [], by rw [if_neg (by omega), hf.out]; rfl, by rw [if_neg (by omega), if_pos hf.out, He0.out]; exact ⟨by simp [Sp.AscL], fun x => Iff.rfl⟩, none, 0, 0, rfl, Sp.row2_nil _, hb1⟩
        · have hmn : m ≤ 200 := by have := Hlen.out; omega
          have hmc := hV.le
          have Hset := Sp.hid hset
          have Hmem := Sp.hid hmem
          have Hg := Sp.hid hg
          have HV := Sp.hid hV
          have Hb1 := Sp.hid hb1
          clear hset hmem hg hV hb1
          go_wp2_with fail
          go_loopw [8, 9, 29] (fun _ _ i wr => ∃ (k : Nat) (B' : Nat → Lst), k ≤ m ∧ i = .int .i64 k ∧ Vec Lst.val wr g 22 cap2 m B' ∧ Sp.lists (upTo B' m) = Sp.lists (upTo B m) ∧ (∀ j, k ≤ j → j < m → B' j = B j) ∧ (∀ j, j < k → Sp.Row wr (B' j).ao (B' j).n (B' j).l ∧ (0 < (B' j).n → ∀ a, (B' j).ao = some a → a.block ≠ g)) ∧ Below w.heap.size w wr) (fun _ _ i _ => m - (intOf i).toNat)
          case atStart => exact ⟨0, B, Nat.zero_le _, rfl, HV.out, rfl, fun _ _ _ => rfl, fun j hj => absurd hj (by omega), Hb1.out⟩
          case round =>
            obtain ⟨k, B', hk, rfl, hVB, hls, hsame, hrows, hbel⟩ := hrel
            have Hls := Sp.hid hls
            have Hrows := Sp.hid hrows
            clear hls hrows
            by_cases hlt : k < m
            · have hBk := hsame k (Nat.le_refl _) hlt
              have hxm : B k ∈ els := Hmem.out _ (List.mem_map.2 ⟨k, List.mem_range.2 hlt, rfl⟩)
              have hc := hVB.cell hlt
              rw [hBk] at hc
              obtain ⟨x, hx⟩ : ∃ x, B k = x := ⟨_, rfl⟩
              rw [hx] at hc hxm hBk
              have hgl := hVB.lt
              have hn60 := hw60.out x hxm
              have HC := Sp.hid (clone_any x.ao x.n x.cap x.l wr ((Hrow.out x hxm).below hbel) (by omega))
              have HVB := Sp.hid hVB
              have Hsame := Sp.hid hsame
              have HBk := Sp.hid hBk
              simp only [Lst.val] at hc
              clear hVB hsame hBk hx hxm
              go_wp2_with fail
              refine HC.out.mono ?_
              rintro e w2 ⟨v, rfl, co, cn, cc, rfl, hrow2, _, hfresh, hb2⟩
              have hV2 := HVB.out.below hb2
              have d3 := hV2.cell hlt
              have f3 := hV2.free k
              have hbel2 := hbel.trans (hb2.mono hbel.size)
              have hsz2 := hbel2.size
              have Hrow2 := Sp.hid hrow2
              have Hfresh := Sp.hid hfresh
              have Hb2 := Sp.hid hb2
              have HV2 := Sp.hid hV2
              rw [HBk.out] at d3
              simp only [Lst.val] at d3
              clear hrow2 hfresh hb2 hV2
              go_wp2_with fail
              go_roundw
              case rel =>
                have hg3 : w2.grownBy (w2.setCell ⟨g, k, none⟩ (.slice co cn cc)) (some g) := grownBy_set k _
                refine ⟨k + 1, fun j => if j = k then ⟨co, cn, cc, x.l⟩ else B' j, hlt, by go_num, HV2.out.set (i := k) (⟨co, cn, cc, x.l⟩ : Lst), ?_, fun j h1 h2 => ?_, fun j hj => ?_, hbel2.grown hg3 hsz2 (fun q hq => by injection hq with hq; have := Hg.out; omega)⟩
                · rw [← Hls.out]
                  unfold Sp.lists upTo
                  rw [List.map_map, List.map_map]
                  apply List.map_congr_left
                  intro j _
                  show (if j = k then (⟨co, cn, cc, x.l⟩ : Lst) else B' j).l = (B' j).l
                  by_cases e : j = k
                  · rw [if_pos e, e, HBk.out]
                  · rw [if_neg e]
                · show (if j = k then (⟨co, cn, cc, x.l⟩ : Lst) else B' j) = B j
                  rw [if_neg (by omega)]; exact Hsame.out j (by omega) h2
                · show Sp.Row _ (if j = k then (⟨co, cn, cc, x.l⟩ : Lst) else B' j).ao (if j = k then (⟨co, cn, cc, x.l⟩ : Lst) else B' j).n (if j = k then (⟨co, cn, cc, x.l⟩ : Lst) else B' j).l ∧ (0 < (if j = k then (⟨co, cn, cc, x.l⟩ : Lst) else B' j).n → ∀ a, (if j = k then (⟨co, cn, cc, x.l⟩ : Lst) else B' j).ao = some a → a.block ≠ g)
                  by_cases e : j = k
                  · rw [if_pos e]
                    have hne : 0 < cn → ∀ a, co = some a → a.block ≠ g := fun _ a ha => by have := Hfresh.out a ha; omega
                    exact ⟨Hrow2.out.grown hg3 hne, hne⟩
                  · rw [if_neg e]
                    have := Hrows.out j (by omega)
                    exact ⟨(this.1.below Hb2.out).grown hg3 this.2, this.2⟩
              case measure => simp [intOf]; omega
            · have hk' : k = m := by omega
              have HVB := Sp.hid hVB
              clear hVB hsame hk'
              go_wp2_with fail
              go_ret2
              have hll := Hll.out
              refine ⟨_, Sp.lists (upTo B' m), by rw [if_neg (by omega), hf.out]; rfl, by rw [if_neg (by omega), if_pos hf.out, Hls.out]; exact Hset.out, some ⟨g, 0, none⟩, m, cap2, rfl, Sp.RowE.row2 ⟨upTo_len _ _, by unfold maxLen; omega, fun _ => ⟨g, 0, rfl, fun i y hy => ?_⟩, fun y hy => ?_⟩, hbel⟩
              · have him : i < m := by have := (List.getElem?_eq_some_iff.1 hy).1; rwa [upTo_len] at this
                rw [upTo_get _ him] at hy
                cases hy
                rw [Nat.zero_add]; exact HVB.out.cell him
              · obtain ⟨j, hj, rfl⟩ := List.mem_map.1 hy
                exact (Hrows.out j (by rw [List.mem_range] at hj; omega)).1

end Go.Proofs.Ytimjgjhdkinhoaa
