/-
  The reference's Words, Into and Shortlex.
-/
import Derived.Test.YtpoblcmjfcpiaaaGreatMgErwIsYVw
import Derived.Test.YtpoblcmjfcpiaaaGreatMgWalkB
import Derived.Test.YtpoblcmjfcpiaaaGreatMgSpecOSpecE
import Derived.Test.YtpoblcmjfcpiaaaGreatMgAuClAuVAuWp
import Derived.Laws.AppendOwnNone
import Derived.Test.YtpoblcmjfcpiaaaGreatMgReSameSw
import Derived.IntWalk
import Derived.Deep.QuietTactic
import Derived.BigQuiet
set_option linter.unusedVariables false
namespace Go.Proofs.YtpoblcmjfcpiaaaGreat
open Go.RowKit

def Sp.NC (ao : Option Addr) (cap : Nat) : Prop := ao = none → cap = 0

theorem refWords_any (ao : Option Addr) (n cap : Nat) (els : List Lst) (w : World) (h : Sp.RowE w ao n els) :
    Calls Tryz.prog 51 #[.slice ao n cap] w fun e w' => e = .returned (.int .i64 (Sp.errWords (Sp.lists els))) ∧ w = w' := by
  have hn : n ≤ 9223372036854775807 := by have := h.2.1; unfold maxLen at this; exact this
  have Hll := Sp.hid (show (Sp.lists els).length = n by simp [Sp.lists, h.1])
  go_enter Tryz.func51, Tryz.ntmps51
  go_wp2_with fail
  go_loop [3, 4] (fun i _ => ∃ k : Nat, k ≤ n ∧ i = .int .i64 k ∧ ∀ x ∈ (Sp.lists els).take k, Sp.errWord x = 0) (fun i _ => n - (intOf i).toNat)
  case atStart => exact ⟨0, Nat.zero_le _, rfl, by simp⟩
  case round =>
    obtain ⟨k, hk, rfl, hall⟩ := hrel
    have Hall := Sp.hid hall
    clear hall
    by_cases hlt : k < n
    · obtain ⟨b, off, x, rfl, hc, hrow, hl, ht⟩ := h.at hlt
      have HV := Sp.hid (refValidateWord_any x.ao x.n x.cap x.l w hrow)
      have hk1 : (Sp.lists els)[k]? = some x.l := by simp [Sp.lists, hl]
      by_cases he : Sp.errWord x.l = 0
      · have hs1 := Sp.hid (show ∀ y ∈ (Sp.lists els).take (k + 1), Sp.errWord y = 0 by
          intro y hy
          have e : (Sp.lists els).take (k + 1) = (Sp.lists els).take k ++ [x.l] := by simp [Sp.lists, ← List.map_take, ht]
          rw [e] at hy
          rcases List.mem_append.1 hy with hy | hy
          · exact Hall.out y hy
          · simp at hy; subst hy; exact he)
        rw [he] at HV
        clear hl ht hk1 he hrow
        go_wp2_with fail
        refine HV.out.mono ?_
        rintro e w1 ⟨rfl, rfl⟩
        go_wp2_with fail
        go_round
        case rel => exact ⟨k + 1, hlt, by go_num, hs1.out⟩
        case measure => simp [intOf]; omega
      · have hf := Sp.hid (show Sp.errWords (Sp.lists els) = Sp.errWord x.l from Sp.errWords_bad Hall.out hk1 he)
        obtain ⟨r, hr⟩ : ∃ r, Sp.errWord x.l = r := ⟨_, rfl⟩
        rw [hr] at HV hf he
        have h1 : (r == 0) = false := by simpa using he
        clear hl ht hk1 he hrow hr
        go_wp2_with fail
        refine HV.out.mono ?_
        rintro e w1 ⟨rfl, rfl⟩
        go_wp2_with fail
        go_ret
        exact ⟨by rw [hf.out]; rfl, rfl⟩
    · have hk' : k = n := by omega
      have hf := Sp.hid (show Sp.errWords (Sp.lists els) = 0 from Sp.errWords_good fun x hx => Hall.out x (by rw [List.take_of_length_le (by rw [Hll.out]; omega)]; exact hx))
      clear hk'
      go_wp2_with fail
      go_ret
      exact ⟨by rw [hf.out]; rfl, rfl⟩

/-- Words appended to a row of the call's own. -/
theorem append_words {w : World} {ops : Array Oper} {rest : List Oper} {o : Oper} {a : Act} {Q : Exit → Act → World → Prop} (hgd : o.guard = none) (s x : Operand)
    (ho : o.op = .call { callee := .builtin .append, args := #[s, x], argTypes := #[38, 38] })
    (base : Nat) (v : Value) (xs : List Lst) (hs : a.eval s = v) (hown : w.ownsRow base 22 1 v xs.length (xs.map Lst.val))
    (ao : Option Addr) (n cap : Nat) (l : List Lst) (hx : a.eval x = .slice ao n cap) (hl : l.length = n)
    (hsrc : (ao = none ∧ n = 0 ∧ cap = 0) ∨ ∃ ad, ao = some ad ∧ ∀ j y, l[j]? = some y → w.cell? (ad.add j) = some y.val) (hbig : xs.length + n ≤ 100000) (hbase : base ≤ w.heap.size)
    (h : ∀ v' w', w'.ownsRow base 22 1 v' (xs ++ l).length ((xs ++ l).map Lst.val) → w.grownBy w' v.ownBlock → wpList Tryz.prog ops Q rest (a.put o.dst v') w') : wpList Tryz.prog ops Q (o :: rest) a w := by
  obtain ⟨i0, hi, hz0, hz1, hz2⟩ := info_parts Nf.rowInfoS
  rcases hsrc with ⟨rfl, rfl, rfl⟩ | ⟨ad, rfl, hc⟩
  · have hl0 : l = [] := List.length_eq_zero_iff.1 hl
    subst hl0
    refine wpList_append_own_none hgd s x 38 ho base 22 i0 1 Tryz.underlying38 hi v _ _ hs hown hx (h v w ?_ ⟨rfl, rfl, rfl, Nat.le_refl _, fun _ _ _ => rfl⟩)
    rw [List.append_nil]; exact hown
  · have hnews : ∀ j u, (l.map Lst.val)[j]? = some u → w.cell? (ad.add j) = some u := by
      intro i u hu
      simp only [List.getElem?_map, Option.map_eq_some_iff] at hu
      obtain ⟨y, hy, rfl⟩ := hu
      exact hc i y hy
    refine wpList_append_own w hgd s x 38 ho base 22 i0 (.slice none 0 0) 1 24 Tryz.underlying38 hi hz0 hz1 hz2 rfl (by decide) v _ _ hs hown ad n cap (l.map Lst.val) hx (by simp; omega) hnews (fun u hu => by obtain ⟨s, _, rfl⟩ := List.mem_map.1 hu; rfl) (by unfold maxLen; omega) (by omega) hbase ?_
    intro v' w' hown' hgrow _
    exact h v' w' (by simpa [hl] using hown') hgrow

/-- A row of the call's own as words. -/
theorem Sp.rowE_of_own {w : World} {base : Nat} {v : Value} {xs : List Lst} (h : w.ownsRow base 22 1 v xs.length (xs.map Lst.val)) (hs : ∀ x ∈ xs, Sp.Row w x.ao x.n x.l) (hm : xs.length ≤ maxLen) :
    ∃ ao cap, v = .slice ao xs.length cap ∧ Sp.RowE w ao xs.length xs ∧ xs.length ≤ cap ∧ Sp.NC ao cap := by
  have hc := @World.ownsRow.cells _ _ _ _ _ _ _ h
  rcases h.2 with ⟨rfl, h0⟩ | ⟨g, cap, cur, rfl, _, _, hcap, _⟩
  · rw [h0]
    exact ⟨none, 0, rfl, ⟨h0, by decide, fun h => absurd h (by omega), hs⟩, Nat.le_refl _, fun _ => rfl⟩
  · refine ⟨some ⟨g, 0, none⟩, cap, rfl, ⟨rfl, hm, fun _ => ⟨g, 0, rfl, fun i x hx => ?_⟩, hs⟩, hcap, fun h => by cases h⟩
    have h1 := hc (g := g) rfl i x.val (by simp [hx])
    have e : (⟨g, 0, none⟩ : Addr).add i = ⟨g, 0 + i, none⟩ := by unfold Addr.add; split <;> simp_all
    rw [e] at h1
    exact h1

end Go.Proofs.YtpoblcmjfcpiaaaGreat

/-
  The reference's Into: a word put into words in order.
-/
set_option linter.unusedVariables false
namespace Go.Proofs.YtpoblcmjfcpiaaaGreat
open Go.RowKit

theorem Sp.asc_at {els : List Lst} (h : Sp.AscL (Sp.lists els)) {i j : Nat} {a b : Lst} (hi : els[i]? = some a) (hj : els[j]? = some b) (hij : i < j) : Sp.ltL a.l b.l = true := by
  obtain ⟨hi1, hi2⟩ := List.getElem?_eq_some_iff.1 hi
  obtain ⟨hj1, hj2⟩ := List.getElem?_eq_some_iff.1 hj
  unfold Sp.AscL Sp.lists at h
  rw [List.pairwise_iff_getElem] at h
  have := h i j (by simpa using hi1) (by simpa using hj1) hij
  simpa [hi2, hj2] using this

def Sp.Lo (els : List Lst) (x : List ByteArray) (lo : Nat) : Prop := ∀ j y, els[j]? = some y → j < lo → Sp.ltL y.l x = true
def Sp.Hi (els : List Lst) (x : List ByteArray) (hi : Nat) : Prop := ∀ j y, els[j]? = some y → hi ≤ j → Sp.ltL x y.l = true

theorem Sp.lo_step {els : List Lst} {x : List ByteArray} {mid : Nat} {y : Lst} (h : Sp.AscL (Sp.lists els)) (hy : els[mid]? = some y) (hc : Sp.cmp y.l x = -1) : Sp.Lo els x (mid + 1) := by
  intro j z hz hj
  have hyx := (Sp.ltL_iff y.l x).2 hc
  by_cases e : j = mid
  · subst e; rw [hy] at hz; cases hz; exact hyx
  · exact Sp.ltL_trans (Sp.asc_at h hz hy (by omega)) hyx
theorem Sp.hi_step {els : List Lst} {x : List ByteArray} {mid : Nat} {y : Lst} (h : Sp.AscL (Sp.lists els)) (hy : els[mid]? = some y) (hc : Sp.cmp y.l x = 1) : Sp.Hi els x mid := by
  intro j z hz hj
  have hyx : Sp.ltL x y.l = true := (Sp.ltL_iff x y.l).2 (by rw [Sp.cmp_neg y.l x, hc])
  by_cases e : j = mid
  · subst e; rw [hy] at hz; cases hz; exact hyx
  · exact Sp.ltL_trans hyx (Sp.asc_at h hy hz (by omega))
theorem Sp.insert_asc {els : List Lst} {x : Lst} {lo : Nat} (h : Sp.AscL (Sp.lists els)) (h1 : Sp.Lo els x.l lo) (h2 : Sp.Hi els x.l lo) :
    Sp.AscL (Sp.lists (els.take lo ++ [x] ++ els.drop lo)) ∧ ∀ y, y ∈ Sp.lists (els.take lo ++ [x] ++ els.drop lo) ↔ y ∈ Sp.lists els ∨ y = x.l := by
  have hp : ∀ a ∈ els.take lo, Sp.ltL a.l x.l = true := by
    intro a ha
    obtain ⟨i, hi, rfl⟩ := List.mem_iff_getElem.1 ha
    simp at hi
    exact h1 i _ (by rw [List.getElem_take]; exact List.getElem?_eq_getElem (by omega)) (by omega)
  have hq : ∀ a ∈ els.drop lo, Sp.ltL x.l a.l = true := by
    intro a ha
    obtain ⟨i, hi, rfl⟩ := List.mem_iff_getElem.1 ha
    simp at hi
    exact h2 (lo + i) _ (by rw [List.getElem_drop]; exact List.getElem?_eq_getElem (by omega)) (by omega)
  have hsplit : Sp.AscL (Sp.lists (els.take lo) ++ Sp.lists (els.drop lo)) := by
    unfold Sp.lists at *; rw [← List.map_append, List.take_append_drop]; exact h
  unfold Sp.AscL at hsplit ⊢
  rw [List.pairwise_append] at hsplit
  unfold Sp.lists at *
  constructor
  · rw [List.append_assoc, List.map_append, List.map_append, List.pairwise_append]
    refine ⟨hsplit.1, ?_, ?_⟩
    · show (x.l :: (els.drop lo).map Lst.l).Pairwise _
      rw [List.pairwise_cons]
      refine ⟨fun b hb => ?_, hsplit.2.1⟩
      obtain ⟨z, hz, rfl⟩ := List.mem_map.1 hb
      exact hq z hz
    · intro a ha b hb
      obtain ⟨z, hz, rfl⟩ := List.mem_map.1 ha
      rcases List.mem_append.1 hb with hb | hb
      · simp at hb; subst hb; exact hp z hz
      · exact hsplit.2.2 _ ha b hb
  · intro y
    rw [List.map_append, List.map_append]
    have : y ∈ els.map Lst.l ↔ y ∈ (els.take lo).map Lst.l ∨ y ∈ (els.drop lo).map Lst.l := by
      rw [← List.mem_append, ← List.map_append, List.take_append_drop]
    rw [this, List.mem_append, List.mem_append]
    simp only [List.map_cons, List.map_nil, List.mem_singleton]
    constructor
    · rintro ((h | h) | h)
      · exact .inl (.inl h)
      · exact .inr h
      · exact .inl (.inr h)
    · rintro ((h | h) | h)
      · exact .inl (.inl h)
      · exact .inr h
      · exact .inl (.inr h)

def IntoRes (els : List Lst) (x : List ByteArray) (w w' : World) (v : Value) : Prop :=
  ∃ bo m cap els', v = .slice bo m cap ∧ Sp.RowE w' bo m els' ∧ m ≤ cap ∧ 0 < m ∧ Below w.heap.size w w' ∧ m ≤ els.length + 1 ∧ Sp.AscL (Sp.lists els') ∧ ∀ y, y ∈ Sp.lists els' ↔ y ∈ Sp.lists els ∨ y = x

set_option maxHeartbeats 4000000 in
set_option maxRecDepth 100000 in
theorem refInto_any (ao : Option Addr) (n cap : Nat) (els : List Lst) (x : Lst) (w : World) (h : Sp.RowE w ao n els) (hcap : n ≤ cap) (hnc : n = 0 → ao = none ∧ cap = 0) (hx : Sp.Row w x.ao x.n x.l) (hn : n ≤ 1000) (hasc : Sp.AscL (Sp.lists els)) :
    Calls Tryz.prog 81 #[.slice ao n cap, .slice x.ao x.n x.cap] w fun e w' => ∃ v, e = .returned v ∧ IntoRes els x.l w w' v := by
  obtain ⟨i0, hi, hz0, hz1, hz2⟩ := info_parts Nf.rowInfoS
  have Hlen := Sp.hid h.1
  have Hasc := Sp.hid hasc
  have Hrw := Sp.hid h.2.2.2
  clear hasc
  go_enter Tryz.func81, Tryz.ntmps81
  go_wp2_with fail
  go_loopw [5, 6] (fun a b wr => ∃ lo hi : Nat, lo ≤ hi ∧ hi ≤ n ∧ a = .int .i64 lo ∧ b = .int .i64 hi ∧ Sp.Lo els x.l lo ∧ Sp.Hi els x.l hi ∧ Below w.heap.size w wr) (fun a b _ => (intOf b).toNat - (intOf a).toNat)
  case atStart => exact ⟨0, n, Nat.zero_le _, Nat.le_refl _, rfl, rfl, fun j y _ hj => absurd hj (by omega), fun j y hy hj => absurd (List.getElem?_eq_some_iff.1 hy).1 (by rw [Hlen.out]; omega), Below.refl _ _⟩
  case round =>
    obtain ⟨lo, hi, hlh, hhn, rfl, rfl, hlo, hhi, hbel⟩ := hrel
    have Hlo := Sp.hid hlo
    have Hhi := Sp.hid hhi
    clear hlo hhi
    by_cases hlt : lo < hi
    · have hh := h.below hbel
      obtain ⟨mid, hmid⟩ : ∃ mid, (lo + hi) / 2 = mid := ⟨_, rfl⟩
      have w1 : IntKind.i64.wrap ((lo : Int) + hi) = (lo : Int) + hi := IntWalk.i64_in _ (by omega)
      have w2 : ((lo : Int) + hi).tdiv 2 = mid := by rw [← hmid, Int.tdiv_eq_ediv_of_nonneg (by omega)]; omega
      have hm1 : lo ≤ mid := by omega
      have hm2 : mid < hi := by omega
      obtain ⟨b, off, y, rfl, hc, hrow, hy, _⟩ := hh.at (k := mid) (by omega)
      have HC := Sp.hid (refCompare_any y.ao x.ao y.n x.n y.cap x.cap y.l x.l wr hrow (hx.below hbel))
      have Hy := Sp.hid hy
      clear hmid hh hy hrow
      rcases Sp.cmp_vals y.l x.l with hcv | hcv | hcv
      · have hst := Sp.hid (Sp.lo_step Hasc.out Hy.out hcv)
        rw [hcv] at HC
        clear hcv
        go_wp2_with fail
        refine HC.out.mono ?_
        rintro e w2 ⟨rfl, hq⟩
        have hb2 := hbel.trans ((Sp.below_of_drew hq).mono hbel.size)
        clear hq hbel
        go_wp2_with fail
        go_roundw
        case rel => exact ⟨mid + 1, hi, by omega, hhn, by go_num, rfl, hst.out, Hhi.out, hb2⟩
        case measure => simp [intOf]; omega
      · have hmem := Sp.hid (show x.l ∈ Sp.lists els by rw [← Sp.cmp_eq hcv]; exact List.mem_map_of_mem (List.mem_of_getElem? Hy.out))
        rw [hcv] at HC
        clear hcv
        go_wp2_with fail
        refine HC.out.mono ?_
        rintro e w2 ⟨rfl, hq⟩
        have hb2 := hbel.trans ((Sp.below_of_drew hq).mono hbel.size)
        clear hq hbel
        go_wp2_with fail
        go_ret
        exact ⟨_, rfl, _, n, cap, els, rfl, h.below hb2, hcap, by omega, hb2, by rw [Hlen.out]; omega, Hasc.out, fun y => ⟨fun h => .inl h, fun h => h.elim id (fun e => by rw [e]; exact hmem.out)⟩⟩
      · have hst := Sp.hid (Sp.hi_step Hasc.out Hy.out hcv)
        rw [hcv] at HC
        clear hcv
        go_wp2_with fail
        refine HC.out.mono ?_
        rintro e w2 ⟨rfl, hq⟩
        have hb2 := hbel.trans ((Sp.below_of_drew hq).mono hbel.size)
        clear hq hbel
        go_wp2_with fail
        go_roundw
        case rel => exact ⟨lo, mid, hm1, by omega, rfl, by go_num, Hlo.out, hst.out, hb2⟩
        case measure => simp [intOf]; omega
    · have hlh' : hi = lo := by omega
      subst hlh'
      have hins := Sp.hid (Sp.insert_asc Hasc.out Hlo.out Hhi.out)
      have hown0 : (wr.alloc (.cells #[] 22)).ownsRow wr.heap.size 22 1 (.slice (some ⟨wr.heap.size, 0, none⟩) 0 0) ([] : List Lst).length (([] : List Lst).map Lst.val) :=
        ⟨rfl, .inr ⟨wr.heap.size, 0, #[], rfl, Nat.le_refl _, by rw [show (wr.alloc (.cells #[] 22)).heap = wr.heap.push (.cells #[] 22 (0, 0)) from rfl]; simp, Nat.le_refl _, by decide, rfl, rfl⟩⟩
      have ba : Below wr.heap.size wr (wr.alloc (.cells #[] 22)) := (Below.refl _ wr).alloc (Nat.le_refl _) _
      have hla := ba.size
      by_cases hn0 : n = 0
      · obtain ⟨rfl, rfl⟩ := hnc hn0
        subst hn0
        have he0 : els = [] := List.length_eq_zero_iff.1 Hlen.out
        subst he0
        have hhi0 : hi = 0 := by omega
        subst hhi0
        clear hlh hhn
        go_wp2_with (at_builtin; refine append_words rfl _ _ rfl wr.heap.size _ [] rfl hown0 none 0 0 [] rfl rfl (.inl ⟨rfl, rfl, rfl⟩) (by simp) hla ?_)
        intro v2 w2 hown2 hgrow2
        have b2 : Below wr.heap.size wr w2 := ba.grown hgrow2 hla (fun k hk => (hown0.lt k hk).1)
        have hown2 : w2.ownsRow wr.heap.size 22 1 v2 (([] : List Lst)).length ((([] : List Lst)).map Lst.val) := by simpa using hown2
        have hsz2 := b2.size
        have hc2 : ∀ j y, [x][j]? = some y → (w2.alloc (.cells #[.slice x.ao x.n x.cap] 22)).cell? ((⟨w2.heap.size, 0, none⟩ : Addr).add j) = some y.val := by
          intro j y hj
          match j, hj with
          | 0, hj => simp at hj; subst hj; simp [Addr.add, Lst.val]
        have ba2 : Below wr.heap.size wr (w2.alloc (.cells #[.slice x.ao x.n x.cap] 22)) := b2.alloc hsz2 _
        have hla2 := ba2.size
        have hown2a := hown2.alloc (.cells #[.slice x.ao x.n x.cap] 22 (0, 0))
        have hll : (([] : List Lst) : List Lst).length + 1 ≤ 100000 := by simp
        have HC2 := Sp.hid hc2
        clear hgrow2 ba hown0 hla hc2
        go_wp2_with (at_builtin; refine append_words rfl _ _ rfl wr.heap.size v2 (([] : List Lst)) rfl hown2a (some ⟨w2.heap.size, 0, none⟩) 1 1 [x] rfl rfl (.inr ⟨_, rfl, HC2.out⟩) hll hla2 ?_)
        intro v3 w3 hown3 hgrow3
        have b3 : Below wr.heap.size wr w3 := ba2.grown hgrow3 hla2 (fun k hk => (hown2a.lt k hk).1)
        have hown3 : w3.ownsRow wr.heap.size 22 1 v3 (([] : List Lst) ++ [x]).length ((([] : List Lst) ++ [x]).map Lst.val) := by simpa using hown3
        have hsz3 := b3.size
        have hll3 : (([] : List Lst) ++ [x] : List Lst).length + 0 ≤ 100000 := by simp
        clear hgrow3 hown2 hown2a ba2 hla2 b2 hll hsz2 HC2
        go_wp2_with (at_builtin; refine append_words rfl _ _ rfl wr.heap.size v3 (([] : List Lst) ++ [x]) rfl hown3 none 0 0 [] rfl rfl (.inl ⟨rfl, rfl, rfl⟩) hll3 hsz3 ?_)
        intro v4 w4 hown4 hgrow4
        have b4 : Below wr.heap.size wr w4 := b3.grown hgrow4 hsz3 (fun k hk => (hown3.lt k hk).1)
        have b5 := hbel.trans (b4.mono hbel.size)
        have hown4 : w4.ownsRow wr.heap.size 22 1 v4 (([] : List Lst) ++ [x] ++ ([] : List Lst)).length ((([] : List Lst) ++ [x] ++ ([] : List Lst)).map Lst.val) := by simpa using hown4
        have hlen4 : (([] : List Lst) ++ [x] ++ ([] : List Lst) : List Lst).length = 0 + 1 := by simp
        have hrows : ∀ y ∈ (([] : List Lst) ++ [x] ++ ([] : List Lst) : List Lst), Sp.Row w4 y.ao y.n y.l := by
          intro y hy
          have : y = x := by simpa using hy
          subst this
          exact hx.below b5
        obtain ⟨o4, c4, hv4, hrow4, hc4, _⟩ := Sp.rowE_of_own hown4 hrows (by unfold maxLen; omega)
        rw [hlen4] at hv4 hrow4 hc4
        subst hv4
        have Hrow4 := Sp.hid hrow4
        have hlen5 := Hlen.out
        clear hgrow4 hown3 hown4 b3 b4 hsz3 hll3 hrows hrow4 hlen4
        go_wp2_with fail
        go_ret
        exact ⟨_, rfl, o4, _, c4, _, rfl, Hrow4.out, hc4, by omega, b5, by omega, by simpa using hins.out⟩
      · obtain ⟨b, off, rfl, hc⟩ := h.2.2.1 (by omega)
        have hca : ∀ i y, els[i]? = some y → wr.cell? ⟨b, off + i, none⟩ = some y.val := fun i y hy => by
          rw [hbel.cell (World.block_lt_of_cell? w _ (hc i y hy))]; exact hc i y hy
        have Hca := Sp.hid hca
        have hsrc1 : ∀ j y, (els.take hi)[j]? = some y → (wr.alloc (.cells #[] 22)).cell? ((⟨b, off, none⟩ : Addr).add j) = some y.val := by
          intro j y hj
          have hj' : els[j]? = some y := by
            rw [List.getElem?_take] at hj
            split at hj
            · exact hj
            · cases hj
          rw [show (⟨b, off, none⟩ : Addr).add j = ⟨b, off + j, none⟩ from by unfold Addr.add; split <;> simp_all, ba.cell (World.block_lt_of_cell? wr _ (Hca.out j y hj'))]
          exact Hca.out j y hj'
        have Hsrc1 := Sp.hid hsrc1
        have htl : (els.take hi).length = hi := by simp; have := Hlen.out; omega
        have Htl := Sp.hid htl
        clear hlh hsrc1 hca hc htl
        go_wp2_with (at_builtin; refine append_words rfl _ _ rfl wr.heap.size _ [] rfl hown0 (some ⟨b, off, none⟩) hi _ (els.take hi) rfl Htl.out (.inr ⟨_, rfl, Hsrc1.out⟩) (by simp; omega) hla ?_)
        intro v2 w2 hown2 hgrow2
        have b2 : Below wr.heap.size wr w2 := ba.grown hgrow2 hla (fun k hk => (hown0.lt k hk).1)
        have hown2 : w2.ownsRow wr.heap.size 22 1 v2 (els.take hi).length ((els.take hi).map Lst.val) := by simpa using hown2
        have hsz2 := b2.size
        have hc2 : ∀ j y, [x][j]? = some y → (w2.alloc (.cells #[.slice x.ao x.n x.cap] 22)).cell? ((⟨w2.heap.size, 0, none⟩ : Addr).add j) = some y.val := by
          intro j y hj
          match j, hj with
          | 0, hj => simp at hj; subst hj; simp [Addr.add, Lst.val]
        have ba2 : Below wr.heap.size wr (w2.alloc (.cells #[.slice x.ao x.n x.cap] 22)) := b2.alloc hsz2 _
        have hla2 := ba2.size
        have hown2a := hown2.alloc (.cells #[.slice x.ao x.n x.cap] 22 (0, 0))
        have hll : (els.take hi : List Lst).length + 1 ≤ 100000 := by simp; omega
        have HC2 := Sp.hid hc2
        clear hgrow2 ba hown0 hla hc2
        go_wp2_with (at_builtin; refine append_words rfl _ _ rfl wr.heap.size v2 (els.take hi) rfl hown2a (some ⟨w2.heap.size, 0, none⟩) 1 1 [x] rfl rfl (.inr ⟨_, rfl, HC2.out⟩) hll hla2 ?_)
        intro v3 w3 hown3 hgrow3
        have b3 : Below wr.heap.size wr w3 := ba2.grown hgrow3 hla2 (fun k hk => (hown2a.lt k hk).1)
        have hown3 : w3.ownsRow wr.heap.size 22 1 v3 (els.take hi ++ [x]).length ((els.take hi ++ [x]).map Lst.val) := by simpa using hown3
        have hsz3 := b3.size
        have hll3 : (els.take hi ++ [x] : List Lst).length + (n - hi) ≤ 100000 := by simp; omega
        clear hgrow3 hown2 hown2a ba2 hla2 b2 hll hsz2 HC2
        go_wp2_with (at_builtin; refine append_words rfl _ _ rfl wr.heap.size v3 (els.take hi ++ [x]) rfl hown3 _ (n - hi) _ (els.drop hi) rfl ?_ ?_ ?_ hsz3 ?_)
        case refine_1 => simp; have := Hlen.out; omega
        case refine_2.inl =>
          intro j y hy
          have h0 := (List.getElem?_eq_some_iff.1 hy).1
          have := Hlen.out
          omega
        case refine_2.inr =>
          intro j y hy
          rw [show off + hi + j = off + (hi + j) by omega, b3.cell (World.block_lt_of_cell? wr _ (Hca.out _ y hy))]
          exact Hca.out _ y hy
        case refine_3 => simp; omega
        all_goals
          intro v4 w4 hown4 hgrow4
          have b4 : Below wr.heap.size wr w4 := b3.grown hgrow4 hsz3 (fun k hk => (hown3.lt k hk).1)
          have b5 := hbel.trans (b4.mono hbel.size)
          have hown4 : w4.ownsRow wr.heap.size 22 1 v4 (els.take hi ++ [x] ++ els.drop hi).length ((els.take hi ++ [x] ++ els.drop hi).map Lst.val) := by simpa using hown4
          have hlen4 : (els.take hi ++ [x] ++ els.drop hi : List Lst).length = n + 1 := by have := Hlen.out; simp; omega
          have hrows : ∀ y ∈ (els.take hi ++ [x] ++ els.drop hi : List Lst), Sp.Row w4 y.ao y.n y.l := by
            intro y hy
            have : y ∈ els ∨ y = x := by
              rcases List.mem_append.1 hy with hy | hy
              · rcases List.mem_append.1 hy with hy | hy
                · exact .inl (List.mem_of_mem_take hy)
                · simp at hy; exact .inr hy
              · exact .inl (List.mem_of_mem_drop hy)
            rcases this with hy | rfl
            · exact (Hrw.out y hy).below b5
            · exact hx.below b5
          obtain ⟨o4, c4, hv4, hrow4, hc4, _⟩ := Sp.rowE_of_own hown4 hrows (by unfold maxLen; omega)
          rw [hlen4] at hv4 hrow4 hc4
          subst hv4
          have Hrow4 := Sp.hid hrow4
          have hlen5 := Hlen.out
          clear hgrow4 hown3 hown4 b3 b4 hsz3 hll3 hrows hrow4 hlen4
          go_wp2_with fail
          go_ret
          exact ⟨_, rfl, o4, _, c4, _, rfl, Hrow4.out, hc4, by omega, b5, by omega, hins.out⟩

end Go.Proofs.YtpoblcmjfcpiaaaGreat

/-
  The reference's Shortlex, Sorted and SameWords.
-/
set_option linter.unusedVariables false
namespace Go.Proofs.YtpoblcmjfcpiaaaGreat
open Go.RowKit

set_option maxHeartbeats 1000000 in
theorem refShortlex_any (ao : Option Addr) (n cap : Nat) (els : List Lst) (w : World) (h : Sp.RowE w ao n els) (hn : n ≤ 200) :
    Calls Tryz.prog 52 #[.slice ao n cap] w fun e w' => ∃ v LL, e = .returned v ∧ Sp.SetL LL (Sp.lists els) ∧ ∃ bo m cp, v = .slice bo m cp ∧ Sp.Row2 w' bo m LL ∧ Below w.heap.size w w' := by
  have Hlen := Sp.hid h.1
  go_enter Tryz.func52, Tryz.ntmps52
  go_wp2_with fail
  go_loopw [3, 4] (fun v i wr => ∃ (k : Nat) (bo : Option Addr) (m cp : Nat) (es : List Lst), k ≤ n ∧ i = .int .i64 k ∧ v = .slice bo m cp ∧ Sp.RowE wr bo m es ∧ m ≤ cp ∧ (m = 0 → bo = none ∧ cp = 0) ∧ m ≤ k ∧ Sp.AscL (Sp.lists es) ∧ (∀ y, y ∈ Sp.lists es ↔ y ∈ Sp.lists (els.take k)) ∧ Below w.heap.size w wr) (fun _ i _ => n - (intOf i).toNat)
  case atStart => exact ⟨0, none, 0, 0, [], Nat.zero_le _, rfl, rfl, ⟨rfl, by decide, fun h => absurd h (by omega), by simp⟩, Nat.le_refl _, fun _ => ⟨rfl, rfl⟩, Nat.le_refl _, by simp [Sp.AscL, Sp.lists], fun y => by simp [Sp.lists], Below.refl _ _⟩
  case round =>
    obtain ⟨k, bo, m, cp, es, hk, rfl, rfl, hE, hcp, hnc, hmk, hasc, hmem, hbel⟩ := hrel
    have Hmem := Sp.hid hmem
    have Hasc := Sp.hid hasc
    clear hmem hasc
    by_cases hlt : k < n
    · obtain ⟨b, off, x, rfl, hc, hrow, hl, ht⟩ := (h.below hbel).at hlt
      have HI := Sp.hid (refInto_any bo m cp es x wr hE hcp hnc hrow (by omega) Hasc.out)
      have Ht := Sp.hid ht
      have hesl := Sp.hid hE.1
      have hlm := Sp.hid (show x.l ∈ Sp.lists els from List.mem_map_of_mem (List.mem_of_getElem? hl))
      clear hl ht hrow hnc hE
      go_wp2_with fail
      refine HI.out.mono ?_
      rintro e w2 ⟨v, rfl, bo2, m2, cp2, es2, rfl, hE2, hcp2, hm2, hb2, hml, hasc2, hmem2⟩
      have hb3 := hbel.trans (hb2.mono hbel.size)
      have Hmem2 := Sp.hid hmem2
      have Hasc2 := Sp.hid hasc2
      have HE2 := Sp.hid hE2
      have hml2 : m2 ≤ k + 1 := by have := hesl.out; omega
      clear hb2 hmem2 hasc2 hE2 hbel
      go_wp2_with fail
      go_roundw
      case rel =>
        refine ⟨k + 1, bo2, m2, cp2, es2, hlt, by go_num, rfl, HE2.out, hcp2, fun h => absurd h (by omega), hml2, Hasc2.out, fun y => ?_, hb3⟩
        rw [Hmem2.out, Hmem.out, Ht.out]
        simp [Sp.lists]
      case measure => simp [intOf]; omega
    · have hk' : k = n := by omega
      subst hk'
      have hset := Sp.hid (show Sp.SetL (Sp.lists es) (Sp.lists els) from ⟨Hasc.out, fun y => by rw [Hmem.out, List.take_of_length_le (by rw [Hlen.out]; omega)]⟩)
      have HE := Sp.hid hE
      clear hE
      go_wp2_with fail
      go_ret
      exact ⟨_, Sp.lists es, rfl, hset.out, bo, m, cp, rfl, HE.out.row2, hbel⟩

theorem refSorted_any (ao : Option Addr) (n cap : Nat) (els : List Lst) (w : World) (h : Sp.RowE w ao n els) :
    Calls Tryz.prog 25 #[.slice ao n cap] w (PostW (Sp.lists els) w) := by
  have hn : n ≤ 9223372036854775807 := by have := h.2.1; unfold maxLen at this; exact this
  have Hll := Sp.hid (show (Sp.lists els).length = n by simp [Sp.lists, h.1])
  by_cases h2 : 200 < n
  · go_enter Tryz.func25, Tryz.ntmps25
    go_wp2_with fail
    go_ret2
    have hll := Hll.out
    exact ⟨_, [], by rw [if_pos (by omega)]; rfl, by rw [if_pos (by omega)], none, 0, 0, rfl, Sp.row2_nil _, Below.refl _ _⟩
  · have HW := Sp.hid (refWords_any ao n cap els w h)
    have HS := Sp.hid (refShortlex_any ao n cap els w h (by omega))
    obtain ⟨r, hr⟩ : ∃ r, Sp.errWords (Sp.lists els) = r := ⟨_, rfl⟩
    rw [hr] at HW
    have h200 := Sp.hid (show ¬ 200 < (Sp.lists els).length by rw [Hll.out]; exact h2)
    by_cases h0 : r = 0
    · subst h0
      have Hr := Sp.hid hr
      clear hr
      go_enter Tryz.func25, Tryz.ntmps25
      go_wp2_with fail
      refine HW.out.mono ?_
      rintro e w1 ⟨rfl, rfl⟩
      go_wp2_with fail
      refine HS.out.mono ?_
      rintro e w2 ⟨v, LL, rfl, hset, bo, m, cp, rfl, hrow, hb⟩
      have Hset := Sp.hid hset
      have Hrow := Sp.hid hrow
      clear hset hrow
      go_wp2_with fail
      go_ret2
      exact ⟨_, LL, by rw [if_neg h200.out, Hr.out]; rfl, by rw [if_neg h200.out, if_pos Hr.out]; exact Hset.out, bo, m, cp, rfl, Hrow.out, hb⟩
    · have h1 : (r == 0) = false := by simpa using h0
      have H0 := Sp.hid h0
      have Hr := Sp.hid hr
      clear hr h0
      go_enter Tryz.func25, Tryz.ntmps25
      go_wp2_with fail
      refine HW.out.mono ?_
      rintro e w1 ⟨rfl, rfl⟩
      go_wp2_with fail
      go_ret2
      exact ⟨_, [], by rw [if_neg h200.out, Hr.out]; rfl, by rw [if_neg h200.out, if_neg (by rw [Hr.out]; exact H0.out)], none, 0, 0, rfl, Sp.row2_nil _, Below.refl _ _⟩

set_option maxHeartbeats 1000000 in
theorem sameWords_self (ao bo : Option Addr) (n cap m cbp : Nat) (ll : List (List ByteArray)) (w : World) (h : Sp.Row2 w ao n ll) (g : Sp.Row2 w bo m ll) :
    Calls Tryz.prog 21 #[.slice ao n cap, .slice bo m cbp] w fun e w' => e = .returned (.bool true) ∧ Below w.heap.size w w' := by
  have hnm : m = n := by rw [← h.1, ← g.1]
  subst hnm
  have hn : m ≤ 9223372036854775807 := by have := h.2.1; unfold maxLen at this; exact this
  go_enter Tryz.func21, Tryz.ntmps21
  go_wp2_with fail
  go_loopw [5] (fun i wr => ∃ k : Nat, k ≤ m ∧ i = .int .i64 k ∧ Below w.heap.size w wr) (fun i _ => m - (intOf i).toNat)
  case atStart => exact ⟨0, Nat.zero_le _, rfl, Below.refl _ _⟩
  case round =>
    obtain ⟨k, hk, rfl, hbel⟩ := hrel
    by_cases hlt : k < m
    · obtain ⟨b, off, xo, xn, xc, x, rfl, hc, hx, hl, _⟩ := (h.below hbel).at hlt
      obtain ⟨b2, off2, yo, yn, yc, y, rfl, hc2, hy, hl2, _⟩ := (g.below hbel).at hlt
      rw [hl] at hl2
      cases hl2
      have hcall : ∀ r, Calls Tryz.prog 12 #[.slice xo xn xc, .slice yo yn yc] (wr.drewN r) fun e w' => e = .returned (.bool true) ∧ ∃ q, w' = (wr.drewN r).drewN q := fun r => by
        have := refSame_any xo yo xn yn xc yc x x (wr.drewN r) hx hy
        rw [Sp.ord_self] at this
        exact this
      have Hcall := Sp.hid hcall
      have Hbel := Sp.hid hbel
      have w5 : (k : Int) < m := by omega
      have w6 : 0 ≤ (k : Int) := by omega
      clear hcall hl hx hy hbel
      go_wp2_with fail
      go_quiet ((exact Calls.quiet_of (Hcall.out _)))
      go_wp2_with fail
      go_roundw
      case rel => exact ⟨k + 1, hlt, by go_num, Hbel.out.trans ⟨rfl, rfl, rfl, Nat.le_refl _, fun _ _ => rfl⟩⟩
      case measure => simp [intOf]; omega
    · have hk' : k = m := by omega
      clear hk'
      go_wp2_with fail
      go_ret
      exact ⟨rfl, hbel⟩

end Go.Proofs.YtpoblcmjfcpiaaaGreat
