/-
  The walk of the reference's IsLong (of one list); a text appended to a row of the call's own.
-/
import Derived.Test.YtpoblcmjfcpiaaaGreatMgReRowReMem
import Derived.WalkKit
import Derived.WalkSpells
import Derived.WalkLawsBesides
set_option linter.unusedVariables false
set_option linter.unusedSimpArgs false
namespace Go.Proofs.YtpoblcmjfcpiaaaGreat
open Go.RowKit

def Nf.SomeBool (w : World) (e : Ending) (w' : World) : Prop := ∃ r : Bool, e = .returned (.bool r) ∧ w = w'
set_option maxHeartbeats 2000000 in
set_option maxRecDepth 100000 in
theorem isLong_any (w : World) (B : Nat) (wo : Option Addr) (wn wcap : Nat) (W : List ByteArray) (hc : w.cell? ⟨B, 0, none⟩ = some (.slice wo wn wcap)) (hW : Sp.Row w wo wn W) :
    Calls Tryz.prog 8 #[.slice (some ⟨B, 0, none⟩) 1 1] w (Nf.SomeBool w) := by
  have hn := hW.le
  have HW := Sp.hid hW
  clear hW
  go_enter Tryz.func8, Tryz.ntmps8
  go_wp2_with fail
  go_loopw [3, 4, 5] (fun s i _ wr => ∃ (a : Int) (k : Nat), s = .int .i64 a ∧ i = .int .i64 k ∧ k ≤ 1 ∧ wr = w) (fun _ i _ _ => 1 - (intOf i).toNat)
  case atStart => exact ⟨_, 0, rfl, rfl, Nat.zero_le _, rfl⟩
  case round =>
    obtain ⟨a, k, rfl, rfl, hk, rfl⟩ := hrel
    rename World => w
    by_cases hk1 : k < 1
    · have h0 : k = 0 := by omega
      subst h0
      by_cases ha : a ≤ 16384
      · go_wp2_with fail
        go_loopw [3, 5] (fun s j wr => ∃ (a : Int) (m : Nat), s = .int .i64 a ∧ j = .int .i64 m ∧ m ≤ wn ∧ wr = w) (fun _ j _ => wn - (intOf j).toNat)
        case atStart => exact ⟨_, 0, rfl, rfl, Nat.zero_le _, rfl⟩
        case round =>
          clear ha
          obtain ⟨a, m, rfl, rfl, hm, rfl⟩ := hrel
          by_cases hmn : m < wn
          · by_cases ha : a ≤ 16384
            · obtain ⟨b, off, s, rfl, cs, hsz, _, _⟩ := HW.out.at hmn
              go_wp2_with fail
              go_roundw
              case rel => exact ⟨_, m + 1, rfl, by go_num, hmn, trivial⟩
              case measure => simp [intOf]; omega
            · go_wp2_with fail
              go_roundw
              case rel => exact ⟨_, 1, rfl, by go_num, by omega, trivial⟩
              case measure => simp [intOf]
          · go_wp2_with fail
            go_roundw
            case rel => exact ⟨_, 1, rfl, by go_num, by omega, trivial⟩
            case measure => simp [intOf]
      · go_wp2_with fail
        go_ret
        exact ⟨_, rfl, rfl⟩
    · go_wp2_with fail
      go_ret
      exact ⟨_, rfl, rfl⟩

namespace Nf
theorem strInfo : (Tryz.prog.info? 9).map (fun i => (i.zero, i.size, i.bytes)) = some (some (.string ⟨#[]⟩), 1, 16) := by kernel_rfl
/-- One text appended to a row of the call's own. -/
theorem push_str {w : World} {ops : Array Oper} {rest : List Oper} {o : Oper} {a : Act} {Q : Exit → Act → World → Prop} (hgd : o.guard = none) (s x : Operand)
    (ho : o.op = .call { callee := .builtin .append, args := #[s, x], argTypes := #[22, 22] })
    (base : Nat) (v : Value) (L : List ByteArray) (hs : a.eval s = v) (hown : w.ownsRow base 9 1 v L.length (L.map Value.string))
    (q : ByteArray) (ad : Addr) (c : Nat) (hx : a.eval x = .slice (some ad) 1 c) (hc : w.cell? ad = some (.string q)) (hbig : (L.length + 1) * 16 ≤ 140737488351232) (hbase : base ≤ w.heap.size)
    (h : ∀ v' w', w'.ownsRow base 9 1 v' (L ++ [q]).length ((L ++ [q]).map Value.string) → w.grownBy w' v.ownBlock → (v'.ownBlock = v.ownBlock ∨ v'.ownBlock = some w.heap.size) → wpList Tryz.prog ops Q rest (a.put o.dst v') w') : wpList Tryz.prog ops Q (o :: rest) a w := by
  obtain ⟨i0, hi, hz0, hz1, hz2⟩ := info_parts strInfo
  have hnews : ∀ j u, ([Value.string q])[j]? = some u → w.cell? (ad.add j) = some u := by
    intro j u hj
    match j, hj with
    | 0, hj =>
      simp at hj; subst hj
      have : ad.add 0 = ad := by unfold Addr.add; obtain ⟨b, o, sp⟩ := ad; cases sp <;> simp
      rw [this]; exact hc
  refine wpList_append_own_at w hgd s x 22 ho base 9 i0 (.string ⟨#[]⟩) 1 16 Tryz.underlying22 hi hz0 hz1 hz2 rfl (by decide) v _ _ hs hown ad 1 c [.string q] hx rfl hnews (fun u hu => by simp at hu; subst hu; rfl) (by unfold maxLen; omega) (by omega) hbase ?_
  intro v' w' hown' hgrow _ hat
  exact h v' w' (by simpa using hown') hgrow hat
theorem row_of_own {w : World} {base : Nat} {v : Value} {L : List ByteArray} (h : w.ownsRow base 9 1 v L.length (L.map Value.string)) (hm : L.length ≤ maxLen) (hs : ∀ s ∈ L, s.size ≤ maxLen) : ∃ ao cap, v = .slice ao L.length cap ∧ Sp.Row w ao L.length L ∧ L.length ≤ cap := by
  obtain ⟨ao, cap, hv, hseq, hc⟩ := seq_of_own (en := Value.string) h hm
  refine ⟨ao, cap, hv, ⟨rfl, hm, fun h0 => ?_, hs⟩, hc⟩
  obtain ⟨b, off, e, hcc⟩ := hseq.2.2 h0
  refine ⟨b, off, e, fun i hi => ?_⟩
  rw [hcc i L[i] (by simp [hi])]
  simp [List.getD, hi]
end Nf
end Go.Proofs.YtpoblcmjfcpiaaaGreat
