/-
  The reference's Into: a word put into words in order.
-/
import Derived.Test.YtimjgjhdkinhoaaWalkU
import Derived.IntWalk
set_option linter.unusedVariables false
namespace Go.Proofs.Ytimjgjhdkinhoaa
open Go.RowKit

theorem Sp.asc_at {els : List Lst} (h : Sp.AscL (Sp.lists els)) {i j : Nat} {a b : Lst} (hi : els[i]? = some a) (hj : els[j]? = some b) (hij : i < j) : Sp.ltL a.l b.l = true := by
  obtain ⟨hi1, hi2⟩ := List.getElem?_eq_some_iff.1 hi
  obtain ⟨hj1, hj2⟩ := List.getElem?_eq_some_iff.1 hj
  unfold Sp.AscL Sp.lists at h
  rw [List.pairwise_iff_getElem] at h
  have := h i j (by simpa using hi1) (by simpa using hj1) hij
  simpa [hi2, hj2] using this

def Sp.Lo (els : List Lst) (x : List ByteArray) (lo : Nat) : Prop := ∀ j y, els[j]? = some y → j < lo → Sp.ltL y.l x = true
def Sp.Hi (els : List Lst) (x : List ByteArray) (hi : Nat) : Prop := ∀ j y, els[j]? = some y → hi ≤ j → Sp.ltL x y.l = true

theorem Sp.lo_step {els : List Lst} {x : List ByteArray} {mid : Nat} {y : Lst} (h : Sp.AscL (Sp.lists els)) (hy : els[mid]? = some y) (hc : Sp.cmp y.l x = -1) : Sp.Lo els x (mid + 1) := by
  intro j z hz hj
  have hyx := (Sp.ltL_iff y.l x).2 hc
  by_cases e : j = mid
  · subst e; rw [hy] at hz; cases hz; exact hyx
  · exact Sp.ltL_trans (Sp.asc_at h hz hy (by omega)) hyx
theorem Sp.hi_step {els : List Lst} {x : List ByteArray} {mid : Nat} {y : Lst} (h : Sp.AscL (Sp.lists els)) (hy : els[mid]? = some y) (hc : Sp.cmp y.l x = 1) : Sp.Hi els x mid := by
  intro j z hz hj
  have hyx : Sp.ltL x y.l = true := (Sp.ltL_iff x y.l).2 (by rw [Sp.cmp_neg y.l x, hc])
  by_cases e : j = mid
  · subst e; rw [hy] at hz; cases hz; exact hyx
  · exact Sp.ltL_trans hyx (Sp.asc_at h hy hz (by omega))
theorem Sp.insert_asc {els : List Lst} {x : Lst} {lo : Nat} (h : Sp.AscL (Sp.lists els)) (h1 : Sp.Lo els x.l lo) (h2 : Sp.Hi els x.l lo) :
    Sp.AscL (Sp.lists (els.take lo ++ [x] ++ els.drop lo)) ∧ ∀ y, y ∈ Sp.lists (els.take lo ++ [x] ++ els.drop lo) ↔ y ∈ Sp.lists els ∨ y = x.l := by
  have hp : ∀ a ∈ els.take lo, Sp.ltL a.l x.l = true := by
    intro a ha
    obtain ⟨i, hi, rfl⟩ := List.mem_iff_getElem.1 ha
    simp at hi
    exact h1 i _ (by rw [List.getElem_take]; exact List.getElem?_eq_getElem (by omega)) (by omega)
  have hq : ∀ a ∈ els.drop lo, Sp.ltL x.l a.l = true := by
    intro a ha
    obtain ⟨i, hi, rfl⟩ := List.mem_iff_getElem.1 ha
    simp at hi
    exact h2 (lo + i) _ (by rw [List.getElem_drop]; exact List.getElem?_eq_getElem (by omega)) (by omega)
  have hsplit : Sp.AscL (Sp.lists (els.take lo) ++ Sp.lists (els.drop lo)) := by
    unfold Sp.lists at *; rw [← List.map_append, List.take_append_drop]; exact h
  unfold Sp.AscL at hsplit ⊢
  rw [List.pairwise_append] at hsplit
  unfold Sp.lists at *
  constructor
  · rw [List.append_assoc, List.map_append, List.map_append, List.pairwise_append]
    refine ⟨hsplit.1, ?_, ?_⟩
    · show (x.l :: (els.drop lo).map Lst.l).Pairwise _
      rw [List.pairwise_cons]
      refine ⟨fun b hb => ?_, hsplit.2.1⟩
      obtain ⟨z, hz, rfl⟩ := List.mem_map.1 hb
      exact hq z hz
    · intro a ha b hb
      obtain ⟨z, hz, rfl⟩ := List.mem_map.1 ha
      rcases List.mem_append.1 hb with hb | hb
      · simp at hb; subst hb; exact hp z hz
      · exact hsplit.2.2 _ ha b hb
  · intro y
    rw [List.map_append, List.map_append]
    have : y ∈ els.map Lst.l ↔ y ∈ (els.take lo).map Lst.l ∨ y ∈ (els.drop lo).map Lst.l := by
      rw [← List.mem_append, ← List.map_append, List.take_append_drop]
    rw [this, List.mem_append, List.mem_append]
    simp only [List.map_cons, List.map_nil, List.mem_singleton]
    constructor
    · rintro ((h | h) | h)
      · exact .inl (.inl h)
      · exact .inr h
      · exact .inl (.inr h)
    · rintro ((h | h) | h)
      · exact .inl (.inl h)
      · exact .inr h
      · exact .inl (.inr h)

def IntoRes (els : List Lst) (x : List ByteArray) (w w' : World) (v : Value) : Prop :=
  ∃ bo m cap els', v = .slice bo m cap ∧ Sp.RowE w' bo m els' ∧ m ≤ cap ∧ 0 < m ∧ Below w.heap.size w w' ∧ m ≤ els.length + 1 ∧ Sp.AscL (Sp.lists els') ∧ ∀ y, y ∈ Sp.lists els' ↔ y ∈ Sp.lists els ∨ y = x

set_option maxHeartbeats 4000000 in
set_option maxRecDepth 100000 in
theorem refInto_any (ao : Option Addr) (n cap : Nat) (els : List Lst) (x : Lst) (w : World) (h : Sp.RowE w ao n els) (hcap : n ≤ cap) (hnc : n = 0 → ao = none ∧ cap = 0) (hx : Sp.Row w x.ao x.n x.l) (hn : n ≤ 1000) (hasc : Sp.AscL (Sp.lists els)) :
    Calls Try.prog 92 #[.slice ao n cap, .slice x.ao x.n x.cap] w fun e w' => ∃ v, e = .returned v ∧ IntoRes els x.l w w' v := by
  obtain ⟨i0, hi, hz0, hz1, hz2⟩ := info_parts rowInfo
  have Hlen := Sp.hid h.1
  have Hasc := Sp.hid hasc
  have Hrw := Sp.hid h.2.2.2
  clear hasc
  go_enter Try.func92, Try.ntmps92
  go_wp2_with fail
  go_loopw [5, 6] (fun a b wr => ∃ lo hi : Nat, lo ≤ hi ∧ hi ≤ n ∧ a = .int .i64 lo ∧ b = .int .i64 hi ∧ Sp.Lo els x.l lo ∧ Sp.Hi els x.l hi ∧ Below w.heap.size w wr) (fun a b _ => (intOf b).toNat - (intOf a).toNat)
  case atStart => exact ⟨0, n, Nat.zero_le _, Nat.le_refl _, rfl, rfl, fun j y _ hj => absurd hj (by omega), fun j y hy hj => absurd (List.getElem?_eq_some_iff.1 hy).1 (by rw [Hlen.out]; omega), Below.refl _ _⟩
  case round =>
    obtain ⟨lo, hi, hlh, hhn, rfl, rfl, hlo, hhi, hbel⟩ := hrel
    have Hlo := Sp.hid hlo
    have Hhi := Sp.hid hhi
    clear hlo hhi
    by_cases hlt : lo < hi
    · have hh := h.below hbel
      obtain ⟨mid, hmid⟩ : ∃ mid, (lo + hi) / 2 = mid := ⟨_, rfl⟩
      have w1 : IntKind.i64.wrap ((lo : Int) + hi) = (lo : Int) + hi := IntWalk.i64_in _ (by omega)
      have w2 : ((lo : Int) + hi).tdiv 2 = mid := by rw [← hmid, Int.tdiv_eq_ediv_of_nonneg (by omega)]; omega
      have hm1 : lo ≤ mid := by omega
      have hm2 : mid < hi := by omega
      obtain ⟨b, off, y, rfl, hc, hrow, hy, _⟩ := hh.at (k := mid) (by omega)
      have HC := Sp.hid (refCompare_any y.ao x.ao y.n x.n y.cap x.cap y.l x.l wr hrow (hx.below hbel))
      have Hy := Sp.hid hy
      clear hmid hh hy hrow
      rcases Sp.cmp_vals y.l x.l with hcv | hcv | hcv
      · have hst := Sp.hid (Sp.lo_step Hasc.out Hy.out hcv)
        rw [hcv] at HC
        clear hcv
        go_wp2_with fail
        refine HC.out.mono ?_
        rintro e w2 ⟨rfl, hq⟩
        have hb2 := hbel.trans ((Sp.below_of_drew hq).mono hbel.size)
        clear hq hbel
        go_wp2_with fail
        go_roundw
        case rel => exact ⟨mid + 1, hi, by omega, hhn, by go_num, rfl, hst.out, Hhi.out, hb2⟩
        case measure => simp [intOf]; omega
      · have hmem := Sp.hid (show x.l ∈ Sp.lists els by rw [← Sp.cmp_eq hcv]; exact List.mem_map_of_mem (List.mem_of_getElem? Hy.out))
        rw [hcv] at HC
        clear hcv
        go_wp2_with fail
        refine HC.out.mono ?_
        rintro e w2 ⟨rfl, hq⟩
        have hb2 := hbel.trans ((Sp.below_of_drew hq).mono hbel.size)
        clear hq hbel
        go_wp2_with fail
        go_ret
        exact ⟨_, rfl, _, n, cap, els, rfl, h.below hb2, hcap, by omega, hb2, by rw [Hlen.out]; omega, Hasc.out, fun y => ⟨fun h => .inl h, fun h => h.elim id (fun e => by rw [e]; exact hmem.out)⟩⟩
      · have hst := Sp.hid (Sp.hi_step Hasc.out Hy.out hcv)
        rw [hcv] at HC
        clear hcv
        go_wp2_with fail
        refine HC.out.mono ?_
        rintro e w2 ⟨rfl, hq⟩
        have hb2 := hbel.trans ((Sp.below_of_drew hq).mono hbel.size)
        clear hq hbel
        go_wp2_with fail
        go_roundw
        case rel => exact ⟨lo, mid, hm1, by omega, rfl, by go_num, Hlo.out, hst.out, hb2⟩
        case measure => simp [intOf]; omega
    · have hlh' : hi = lo := by omega
      subst hlh'
      have hins := Sp.hid (Sp.insert_asc Hasc.out Hlo.out Hhi.out)
      have hown0 : (wr.alloc (.cells #[] 22)).ownsRow wr.heap.size 22 1 (.slice (some ⟨wr.heap.size, 0, none⟩) 0 0) ([] : List Lst).length (([] : List Lst).map Lst.val) :=
        ⟨rfl, .inr ⟨wr.heap.size, 0, #[], rfl, Nat.le_refl _, by rw [show (wr.alloc (.cells #[] 22)).heap = wr.heap.push (.cells #[] 22 (0, 0)) from rfl]; simp, Nat.le_refl _, by decide, rfl, rfl⟩⟩
      have ba : Below wr.heap.size wr (wr.alloc (.cells #[] 22)) := (Below.refl _ wr).alloc (Nat.le_refl _) _
      have hla := ba.size
      by_cases hn0 : n = 0
      · obtain ⟨rfl, rfl⟩ := hnc hn0
        subst hn0
        have he0 : els = [] := List.length_eq_zero_iff.1 Hlen.out
        subst he0
        have hhi0 : hi = 0 := by omega
        subst hhi0
        clear hlh hhn
        go_wp2_with (at_builtin; refine append_words rfl _ _ rfl wr.heap.size _ [] rfl hown0 none 0 0 [] rfl rfl (.inl ⟨rfl, rfl, rfl⟩) (by simp) hla ?_)
        intro v2 w2 hown2 hgrow2
        have b2 : Below wr.heap.size wr w2 := ba.grown hgrow2 hla (fun k hk => (hown0.lt k hk).1)
        have hown2 : w2.ownsRow wr.heap.size 22 1 v2 (([] : List Lst)).length ((([] : List Lst)).map Lst.val) := by simpa using hown2
        have hsz2 := b2.size
        have hc2 : ∀ j y, [x][j]? = some y → (w2.alloc (.cells #[.slice x.ao x.n x.cap] 22)).cell? ((⟨w2.heap.size, 0, none⟩ : Addr).add j) = some y.val := by
          intro j y hj
          match j, hj with
          | 0, hj => simp at hj; subst hj; simp [Addr.add, Lst.val]
        have ba2 : Below wr.heap.size wr (w2.alloc (.cells #[.slice x.ao x.n x.cap] 22)) := b2.alloc hsz2 _
        have hla2 := ba2.size
        have hown2a := hown2.alloc (.cells #[.slice x.ao x.n x.cap] 22 (0, 0))
        have hll : (([] : List Lst) : List Lst).length + 1 ≤ 100000 := by simp
        have HC2 := Sp.hid hc2
        clear hgrow2 ba hown0 hla hc2
        go_wp2_with (at_builtin; refine append_words rfl _ _ rfl wr.heap.size v2 (([] : List Lst)) rfl hown2a (some ⟨w2.heap.size, 0, none⟩) 1 1 [x] rfl rfl (.inr ⟨_, rfl, HC2.out⟩) hll hla2 ?_)
        intro v3 w3 hown3 hgrow3
        have b3 : Below wr.heap.size wr w3 := ba2.grown hgrow3 hla2 (fun k hk => (hown2a.lt k hk).1)
        have hown3 : w3.ownsRow wr.heap.size 22 1 v3 (([] : List Lst) ++ [x]).length ((([] : List Lst) ++ [x]).map Lst.val) := by simpa using hown3
        have hsz3 := b3.size
        have hll3 : (([] : List Lst) ++ [x] : List Lst).length + 0 ≤ 100000 := by simp
        clear hgrow3 hown2 hown2a ba2 hla2 b2 hll hsz2 HC2
        go_wp2_with (at_builtin; refine append_words rfl _ _ rfl wr.heap.size v3 (([] : List Lst) ++ [x]) rfl hown3 none 0 0 [] rfl rfl (.inl ⟨rfl, rfl, rfl⟩) hll3 hsz3 ?_)
        intro v4 w4 hown4 hgrow4
        have b4 : Below wr.heap.size wr w4 := b3.grown hgrow4 hsz3 (fun k hk => (hown3.lt k hk).1)
        have b5 := hbel.trans (b4.mono hbel.size)
        have hown4 : w4.ownsRow wr.heap.size 22 1 v4 (([] : List Lst) ++ [x] ++ ([] : List Lst)).length ((([] : List Lst) ++ [x] ++ ([] : List Lst)).map Lst.val) := by simpa using hown4
        have hlen4 : (([] : List Lst) ++ [x] ++ ([] : List Lst) : List Lst).length = 0 + 1 := by simp
        have hrows : ∀ y ∈ (([] : List Lst) ++ [x] ++ ([] : List Lst) : List Lst), Sp.Row w4 y.ao y.n y.l := by
          intro y hy
          have : y = x := by simpa using hy
          subst this
          exact hx.below b5
        obtain ⟨o4, c4, hv4, hrow4, hc4, _⟩ := Sp.rowE_of_own hown4 hrows (by unfold maxLen; omega)
        rw [hlen4] at hv4 hrow4 hc4
        subst hv4
        have Hrow4 := Sp.hid hrow4
        have hlen5 := Hlen.out
        clear hgrow4 hown3 hown4 b3 b4 hsz3 hll3 hrows hrow4 hlen4
        go_wp2_with fail
        go_ret
        exact ⟨_, rfl, o4, _, c4, _, rfl, Hrow4.out, hc4, by omega, b5, by omega, by simpa using hins.out⟩
      · obtain ⟨b, off, rfl, hc⟩ := h.2.2.1 (by omega)
        have hca : ∀ i y, els[i]? = some y → wr.cell? ⟨b, off + i, none⟩ = some y.val := fun i y hy => by
          rw [hbel.cell (World.block_lt_of_cell? w _ (hc i y hy))]; exact hc i y hy
        have Hca := Sp.hid hca
        have hsrc1 : ∀ j y, (els.take hi)[j]? = some y → (wr.alloc (.cells #[] 22)).cell? ((⟨b, off, none⟩ : Addr).add j) = some y.val := by
          intro j y hj
          have hj' : els[j]? = some y := by
            rw [List.getElem?_take] at hj
            split at hj
            · exact hj
            · cases hj
          rw [show (⟨b, off, none⟩ : Addr).add j = ⟨b, off + j, none⟩ from by unfold Addr.add; split <;> simp_all, ba.cell (World.block_lt_of_cell? wr _ (Hca.out j y hj'))]
          exact Hca.out j y hj'
        have Hsrc1 := Sp.hid hsrc1
        have htl : (els.take hi).length = hi := by simp; have := Hlen.out; omega
        have Htl := Sp.hid htl
        clear hlh hsrc1 hca hc htl
        go_wp2_with (at_builtin; refine append_words rfl _ _ rfl wr.heap.size _ [] rfl hown0 (some ⟨b, off, none⟩) hi _ (els.take hi) rfl Htl.out (.inr ⟨_, rfl, Hsrc1.out⟩) (by simp; omega) hla ?_)
        intro v2 w2 hown2 hgrow2
        have b2 : Below wr.heap.size wr w2 := ba.grown hgrow2 hla (fun k hk => (hown0.lt k hk).1)
        have hown2 : w2.ownsRow wr.heap.size 22 1 v2 (els.take hi).length ((els.take hi).map Lst.val) := by simpa using hown2
        have hsz2 := b2.size
        have hc2 : ∀ j y, [x][j]? = some y → (w2.alloc (.cells #[.slice x.ao x.n x.cap] 22)).cell? ((⟨w2.heap.size, 0, none⟩ : Addr).add j) = some y.val := by
          intro j y hj
          match j, hj with
          | 0, hj => simp at hj; subst hj; simp [Addr.add, Lst.val]
        have ba2 : Below wr.heap.size wr (w2.alloc (.cells #[.slice x.ao x.n x.cap] 22)) := b2.alloc hsz2 _
        have hla2 := ba2.size
        have hown2a := hown2.alloc (.cells #[.slice x.ao x.n x.cap] 22 (0, 0))
        have hll : (els.take hi : List Lst).length + 1 ≤ 100000 := by simp; omega
        have HC2 := Sp.hid hc2
        clear hgrow2 ba hown0 hla hc2
        go_wp2_with (at_builtin; refine append_words rfl _ _ rfl wr.heap.size v2 (els.take hi) rfl hown2a (some ⟨w2.heap.size, 0, none⟩) 1 1 [x] rfl rfl (.inr ⟨_, rfl, HC2.out⟩) hll hla2 ?_)
        intro v3 w3 hown3 hgrow3
        have b3 : Below wr.heap.size wr w3 := ba2.grown hgrow3 hla2 (fun k hk => (hown2a.lt k hk).1)
        have hown3 : w3.ownsRow wr.heap.size 22 1 v3 (els.take hi ++ [x]).length ((els.take hi ++ [x]).map Lst.val) := by simpa using hown3
        have hsz3 := b3.size
        have hll3 : (els.take hi ++ [x] : List Lst).length + (n - hi) ≤ 100000 := by simp; omega
        clear hgrow3 hown2 hown2a ba2 hla2 b2 hll hsz2 HC2
        go_wp2_with (at_builtin; refine append_words rfl _ _ rfl wr.heap.size v3 (els.take hi ++ [x]) rfl hown3 _ (n - hi) _ (els.drop hi) rfl ?_ ?_ ?_ hsz3 ?_)
        case refine_1 => simp; have := Hlen.out; omega
        case refine_2.inl =>
          intro j y hy
          have h0 := (List.getElem?_eq_some_iff.1 hy).1
          have := Hlen.out
          omega
        case refine_2.inr =>
          intro j y hy
          rw [show off + hi + j = off + (hi + j) by omega, b3.cell (World.block_lt_of_cell? wr _ (Hca.out _ y hy))]
          exact Hca.out _ y hy
        case refine_3 => simp; omega
        all_goals
          intro v4 w4 hown4 hgrow4
          have b4 : Below wr.heap.size wr w4 := b3.grown hgrow4 hsz3 (fun k hk => (hown3.lt k hk).1)
          have b5 := hbel.trans (b4.mono hbel.size)
          have hown4 : w4.ownsRow wr.heap.size 22 1 v4 (els.take hi ++ [x] ++ els.drop hi).length ((els.take hi ++ [x] ++ els.drop hi).map Lst.val) := by simpa using hown4
          have hlen4 : (els.take hi ++ [x] ++ els.drop hi : List Lst).length = n + 1 := by have := Hlen.out; simp; omega
          have hrows : ∀ y ∈ (els.take hi ++ [x] ++ els.drop hi : List Lst), Sp.Row w4 y.ao y.n y.l := by
            intro y hy
            have : y ∈ els ∨ y = x := by
              rcases List.mem_append.1 hy with hy | hy
              · rcases List.mem_append.1 hy with hy | hy
                · exact .inl (List.mem_of_mem_take hy)
                · simp at hy; exact .inr hy
              · exact .inl (List.mem_of_mem_drop hy)
            rcases this with hy | rfl
            · exact (Hrw.out y hy).below b5
            · exact hx.below b5
          obtain ⟨o4, c4, hv4, hrow4, hc4, _⟩ := Sp.rowE_of_own hown4 hrows (by unfold maxLen; omega)
          rw [hlen4] at hv4 hrow4 hc4
          subst hv4
          have Hrow4 := Sp.hid hrow4
          have hlen5 := Hlen.out
          clear hgrow4 hown3 hown4 b3 b4 hsz3 hll3 hrows hrow4 hlen4
          go_wp2_with fail
          go_ret
          exact ⟨_, rfl, o4, _, c4, _, rfl, Hrow4.out, hc4, by omega, b5, by omega, hins.out⟩

end Go.Proofs.Ytimjgjhdkinhoaa
