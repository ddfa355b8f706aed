/-
  The walks of the reference's IsLong (of one list) and Turned.
-/
import Derived.Test.YtnkpgcmjnbgodaaMgReRowReMem
import Derived.WalkKit
import Derived.WalkSpells
import Derived.WalkLawsBesides
set_option linter.unusedVariables false
set_option linter.unusedSimpArgs false
namespace Go.Proofs.Ytnkpgcmjnbgodaa
open Go.RowKit

def Nf.SomeBool (w : World) (e : Ending) (w' : World) : Prop := ∃ r : Bool, e = .returned (.bool r) ∧ w = w'
set_option maxHeartbeats 2000000 in
set_option maxRecDepth 100000 in
theorem isLong_any (w : World) (B : Nat) (wo : Option Addr) (wn wcap : Nat) (W : List ByteArray) (hc : w.cell? ⟨B, 0, none⟩ = some (.slice wo wn wcap)) (hW : Sp.Row w wo wn W) :
    Calls Try.prog 14 #[.slice (some ⟨B, 0, none⟩) 1 1] w (Nf.SomeBool w) := by
  have hn := hW.le
  have HW := Sp.hid hW
  clear hW
  go_enter Try.func14, Try.ntmps14
  go_wp2_with fail
  go_loopw [3, 4, 5] (fun s i _ wr => ∃ (a : Int) (k : Nat), s = .int .i64 a ∧ i = .int .i64 k ∧ k ≤ 1 ∧ wr = w) (fun _ i _ _ => 1 - (intOf i).toNat)
  case atStart => exact ⟨_, 0, rfl, rfl, Nat.zero_le _, rfl⟩
  case round =>
    obtain ⟨a, k, rfl, rfl, hk, rfl⟩ := hrel
    rename World => w
    by_cases hk1 : k < 1
    · have h0 : k = 0 := by omega
      subst h0
      by_cases ha : a ≤ 16384
      · go_wp2_with fail
        go_loopw [3, 5] (fun s j wr => ∃ (a : Int) (m : Nat), s = .int .i64 a ∧ j = .int .i64 m ∧ m ≤ wn ∧ wr = w) (fun _ j _ => wn - (intOf j).toNat)
        case atStart => exact ⟨_, 0, rfl, rfl, Nat.zero_le _, rfl⟩
        case round =>
          clear ha
          obtain ⟨a, m, rfl, rfl, hm, rfl⟩ := hrel
          by_cases hmn : m < wn
          · by_cases ha : a ≤ 16384
            · obtain ⟨b, off, s, rfl, cs, hsz, _, _⟩ := HW.out.at hmn
              go_wp2_with fail
              go_roundw
              case rel => exact ⟨_, m + 1, rfl, by go_num, hmn, trivial⟩
              case measure => simp [intOf]; omega
            · go_wp2_with fail
              go_roundw
              case rel => exact ⟨_, 1, rfl, by go_num, by omega, trivial⟩
              case measure => simp [intOf]
          · go_wp2_with fail
            go_roundw
            case rel => exact ⟨_, 1, rfl, by go_num, by omega, trivial⟩
            case measure => simp [intOf]
      · go_wp2_with fail
        go_ret
        exact ⟨_, rfl, rfl⟩
    · go_wp2_with fail
      go_ret
      exact ⟨_, rfl, rfl⟩

namespace Nf
theorem strInfo : (Try.prog.info? 9).map (fun i => (i.zero, i.size, i.bytes)) = some (some (.string ⟨#[]⟩), 1, 16) := by kernel_rfl
/-- One text appended to a row of the call's own. -/
theorem push_str {w : World} {ops : Array Oper} {rest : List Oper} {o : Oper} {a : Act} {Q : Exit → Act → World → Prop} (hgd : o.guard = none) (s x : Operand)
    (ho : o.op = .call { callee := .builtin .append, args := #[s, x], argTypes := #[22, 22] })
    (base : Nat) (v : Value) (L : List ByteArray) (hs : a.eval s = v) (hown : w.ownsRow base 9 1 v L.length (L.map Value.string))
    (q : ByteArray) (ad : Addr) (c : Nat) (hx : a.eval x = .slice (some ad) 1 c) (hc : w.cell? ad = some (.string q)) (hbig : (L.length + 1) * 16 ≤ 140737488351232) (hbase : base ≤ w.heap.size)
    (h : ∀ v' w', w'.ownsRow base 9 1 v' (L ++ [q]).length ((L ++ [q]).map Value.string) → w.grownBy w' v.ownBlock → (v'.ownBlock = v.ownBlock ∨ v'.ownBlock = some w.heap.size) → wpList Try.prog ops Q rest (a.put o.dst v') w') : wpList Try.prog ops Q (o :: rest) a w := by
  obtain ⟨i0, hi, hz0, hz1, hz2⟩ := info_parts strInfo
  have hnews : ∀ j u, ([Value.string q])[j]? = some u → w.cell? (ad.add j) = some u := by
    intro j u hj
    match j, hj with
    | 0, hj =>
      simp at hj; subst hj
      have : ad.add 0 = ad := by unfold Addr.add; obtain ⟨b, o, sp⟩ := ad; cases sp <;> simp
      rw [this]; exact hc
  refine wpList_append_own_at w hgd s x 22 ho base 9 i0 (.string ⟨#[]⟩) 1 16 Try.underlying22 hi hz0 hz1 hz2 rfl (by decide) v _ _ hs hown ad 1 c [.string q] hx rfl hnews (fun u hu => by simp at hu; subst hu; rfl) (by unfold maxLen; omega) (by omega) hbase ?_
  intro v' w' hown' hgrow _ hat
  exact h v' w' (by simpa using hown') hgrow hat
theorem row_of_own {w : World} {base : Nat} {v : Value} {L : List ByteArray} (h : w.ownsRow base 9 1 v L.length (L.map Value.string)) (hm : L.length ≤ maxLen) (hs : ∀ s ∈ L, s.size ≤ maxLen) : ∃ ao cap, v = .slice ao L.length cap ∧ Sp.Row w ao L.length L ∧ L.length ≤ cap := by
  obtain ⟨ao, cap, hv, hseq, hc⟩ := seq_of_own (en := Value.string) h hm
  refine ⟨ao, cap, hv, ⟨rfl, hm, fun h0 => ?_, hs⟩, hc⟩
  obtain ⟨b, off, e, hcc⟩ := hseq.2.2 h0
  refine ⟨b, off, e, fun i hi => ?_⟩
  rw [hcc i L[i] (by simp [hi])]
  simp [List.getD, hi]
end Nf

set_option maxHeartbeats 2000000 in
set_option maxRecDepth 100000 in
theorem turned_any (w : World) (wo : Option Addr) (wn wcap : Nat) (W : List ByteArray) (hW : Sp.Row w wo wn W) (hr : wn * 16 ≤ 140737488351232) :
    Calls Try.prog 22 #[.slice wo wn wcap] w (fun e w' => ∃ ao cap, e = .returned (.slice ao wn cap) ∧ Sp.Row w' ao wn W.reverse ∧ Below w.heap.size w w') := by
  have HW := Sp.hid hW
  have Hlen := Sp.hid hW.1
  clear hW
  go_enter Try.func22, Try.ntmps22
  go_wp2_with fail
  go_loopw [3, 4] (fun o i wr => ∃ (k : Nat) (lv : Value), k ≤ wn ∧ i = .int .i64 ((wn : Int) - 1 - k) ∧ lv = o ∧ wr.ownsRow w.heap.size 9 1 lv (W.drop (wn - k)).reverse.length ((W.drop (wn - k)).reverse.map Value.string) ∧ Below w.heap.size w wr) (fun _ i _ => (intOf i + 1).toNat)
  case atStart => exact ⟨0, _, Nat.zero_le _, by simp, rfl, by rw [show W.drop (wn - 0) = [] by rw [Nat.sub_zero, ← Hlen.out]; simp]; exact World.ownsRow_nil _ _ _ _, Below.refl _ _⟩
  case round =>
    obtain ⟨k, lv, hk, rfl, rfl, hown, hbel⟩ := hrel
    have Hown := Sp.hid hown
    have Hbel := Sp.hid hbel
    clear hown hbel
    by_cases hkn : k < wn
    · obtain ⟨b, off, s, rfl, cs, hsz, hs?, _⟩ := (HW.out.below Hbel.out).at (k := wn - 1 - k) (by omega)
      have hz := Hbel.out.size
      have e1 : W.drop (wn - (k + 1)) = s :: W.drop (wn - k) := by
        have h1 := (List.getElem?_eq_some_iff.1 hs?)
        obtain ⟨hl, he⟩ := h1
        rw [show wn - (k + 1) = wn - 1 - k by omega, List.drop_eq_getElem_cons hl, he, show wn - 1 - k + 1 = wn - k by omega]
      have E1 := Sp.hid e1
      have hl : (W.drop (wn - k)).reverse.length ≤ k := by simp [Hlen.out]; omega
      have Hl := Sp.hid hl
      have i0 : (0 : Int) ≤ (wn : Int) - 1 - k := by omega
      have i1 : (wn : Int) - 1 - k < (wn : Int) := by omega
      have i2 : ((wn : Int) - 1 - k).toNat = wn - 1 - k := by omega
      have I2 := Sp.hid i2
      have Hown2 := Sp.hid (show (wr.alloc (.cells #[.string s] 9)).ownsRow w.heap.size 9 1 lv (W.drop (wn - k)).reverse.length ((W.drop (wn - k)).reverse.map Value.string) from Hown.out.alloc _)
      have hwB : w.heap.size ≤ (wr.alloc (.cells #[.string s] 9)).heap.size := by simp; omega
      clear hs? e1 hl
      go_wp2_with (at_builtin; refine Nf.push_str rfl _ _ rfl w.heap.size lv (W.drop (wn - k)).reverse rfl Hown2.out s ⟨wr.heap.size, 0, none⟩ 1 rfl ?c1 ?c2 ?c3 ?_)
      case c1 => simp [go_sem]
      case c2 => have := Hl.out; omega
      case c3 => exact hwB
      intro v2 w2 hown2 hgrow2 hat2
      have Hb2 := Sp.hid ((Hbel.out.alloc hz (.cells #[.string s] 9)).grown hgrow2 hwB (fun k hk => (Hown2.out.lt k hk).1))
      have Ho2 := Sp.hid hown2
      clear hown2 hgrow2 hat2
      go_wp2_with fail
      go_roundw
      case rel =>
        refine ⟨k + 1, v2, hkn, by go_num, rfl, ?_, Hb2.out⟩
        rw [E1.out]
        simpa using Ho2.out
      case measure => simp [intOf]; omega
    · have hkk : k = wn := by omega
      have e2 : (W.drop (wn - k)).reverse = W.reverse := by rw [hkk]; simp
      have Hown2 := Sp.hid (show wr.ownsRow w.heap.size 9 1 lv W.reverse.length (W.reverse.map Value.string) by have h := Hown.out; rwa [e2] at h)
      have i0 : (wn : Int) - 1 - k < 0 := by omega
      clear e2 hkk
      go_wp2_with fail
      go_ret
      have hlr : W.reverse.length = wn := by simp [Hlen.out]
      obtain ⟨ao, cap, hv, hrow, _⟩ := Nf.row_of_own Hown2.out (by rw [hlr]; unfold maxLen; omega) (fun s hs => HW.out.2.2.2 s (List.mem_reverse.1 hs))
      rw [hlr] at hv hrow
      exact ⟨ao, cap, by rw [hv]; rfl, hrow, Hbel.out⟩
end Go.Proofs.Ytnkpgcmjnbgodaa
