/-
  The reference's Set and Either.
-/
import Derived.Test.YtimjgjhdkinhoaaWalkP
import Derived.Test.YtimjgjhdkinhoaaSpecG
import Derived.Test.YtimjgjhdkinhoaaWalkF
import Derived.Deep.QuietTactic
import Derived.BigQuiet
import Derived.IntWalk
set_option linter.unusedVariables false
namespace Go.Proofs.Ytimjgjhdkinhoaa
open Go.RowKit

def Sp.lenOf : Value → Nat
  | .slice _ n _ => n
  | _ => 0
theorem Sp.lenOf_own {w : World} {base : Nat} {e : TypeId} {size n : Nat} {v : Value} {xs : List Value} (h : w.ownsRow base e size v n xs) : Sp.lenOf v = n := by
  rcases h.2 with ⟨rfl, rfl⟩ | ⟨g, cap, cur, rfl, _⟩ <;> rfl

set_option maxHeartbeats 4000000 in
set_option maxRecDepth 100000 in
theorem refSet_any (ao : Option Addr) (n cap : Nat) (l : List ByteArray) (w : World) (h : Sp.Row w ao n l) (hn : n ≤ 1000) :
    Calls Try.prog 74 #[.slice ao n cap] w fun e w' => ∃ v R, e = .returned v ∧ Sp.SetOf R l (fun _ => true) ∧ SlRes R w w' v := by
  obtain ⟨i0, hi, hz0, hz1, hz2⟩ := info_parts strInfo
  have Hlen := Sp.hid h.1
  have Hs := Sp.hid h.2.2.2
  go_enter Try.func74, Try.ntmps74
  go_wp2_with fail
  go_loopw [3, 4, 5, 6] (fun v _ _ _ wr => ∃ xs : List ByteArray, wr.ownsRow w.heap.size 9 1 v xs.length (xs.map Value.string) ∧ Below w.heap.size w wr ∧ Sp.SetInv l xs) (fun v _ _ _ _ => n - Sp.lenOf v)
  case atStart => exact ⟨[], World.ownsRow_nil _ _ _ _, Below.refl _ w, Sp.SetInv.start l⟩
  case round =>
    obtain ⟨xs, hown, hbel, hinv⟩ := hrel
    obtain ⟨wo, rfl⟩ : ∃ wo : World, wo = wr := ⟨_, rfl⟩
    have hxl := hinv.len
    rw [Hlen.out] at hxl
    have Hinv := Sp.hid hinv
    have hsm : ∀ x ∈ xs, x.size ≤ maxLen := fun x hx => Hs.out x (hinv.2.1 x hx)
    obtain ⟨oo, oc, rfl, hrow, hocap⟩ := Sp.row_of_own hown hsm (by unfold maxLen; omega)
    have hh := h.below hbel
    clear hinv hsm
    go_wp2_with fail
    go_loopw [4, 5, 6] (fun s f i wr => ∃ (k r : Nat) (o : Option ByteArray), k ≤ n ∧ i = .int .i64 k ∧ s = .string (o.getD ⟨#[]⟩) ∧ f = .bool o.isSome ∧ Sp.best xs (l.take k) = o ∧ wr = wo.drewN r) (fun _ _ i _ => n - (intOf i).toNat)
    case atStart => exact ⟨0, 0, none, Nat.zero_le _, rfl, rfl, rfl, rfl, rfl⟩
    case round =>
      obtain ⟨k, r, o, hk, rfl, rfl, rfl, ho, rfl⟩ := hrel
      have Ho := Sp.hid ho
      clear ho
      by_cases hlt : k < n
      · obtain ⟨b', off, s, rfl, hc, hs, hl, ht⟩ := hh.at hlt
        have hs0 : Sp.best xs (l.take (k + 1)) = Sp.pickR xs o s := by rw [ht, Sp.best_snoc, Ho.out]
        have Hs0 := Sp.hid hs0
        clear hl ht hs0 hh hs
        by_cases hx : xs.length = 0
        · have hx0 : xs = [] := List.length_eq_zero_iff.1 hx
          have hcd := Sp.hid (show Sp.cand xs s = true by rw [hx0]; rfl)
          have e0 : ((xs.length : Int) == 0) = true := by simp; omega
          clear hrow hx0
          cases o with
          | none =>
            have hs1 := Sp.hid (show Sp.best xs (l.take (k + 1)) = some s by rw [Hs0.out]; unfold Sp.pickR; rw [hcd.out, if_pos rfl])
            go_wp2_with fail
            go_quiet (fail)
            go_wp2_with fail
            go_roundw
            case rel => exact ⟨k + 1, _, some s, hlt, by go_num, rfl, rfl, hs1.out, rfl⟩
            case measure => simp [intOf]; omega
          | some b =>
            cases hsb : Sp.less s b with
            | true =>
              have hs1 := Sp.hid (show Sp.best xs (l.take (k + 1)) = some s by rw [Hs0.out]; unfold Sp.pickR; rw [hcd.out, if_pos rfl]; simp only [hsb, if_true])
              have g3 : Op.bytesLess s.toList b.toList = true := hsb
              clear hsb
              go_wp2_with fail
              go_quiet (fail)
              go_wp2_with fail
              go_roundw
              case rel => exact ⟨k + 1, _, some s, hlt, by go_num, rfl, rfl, hs1.out, rfl⟩
              case measure => simp [intOf]; omega
            | false =>
              have hs1 := Sp.hid (show Sp.best xs (l.take (k + 1)) = some b by rw [Hs0.out]; unfold Sp.pickR; rw [hcd.out, if_pos rfl]; simp only [hsb, Bool.false_eq_true, if_false])
              have g3 : Op.bytesLess s.toList b.toList = false := hsb
              clear hsb
              go_wp2_with fail
              go_quiet (fail)
              go_wp2_with fail
              go_roundw
              case rel => exact ⟨k + 1, _, some b, hlt, by go_num, rfl, rfl, hs1.out, rfl⟩
              case measure => simp [intOf]; omega
        · obtain ⟨b2, off2, z, rfl, hc2, _, hlz, htz⟩ := hrow.at (k := xs.length - 1) (by omega)
          have hcz : Sp.cand xs s = Sp.less z s := by
            have : xs = xs.take (xs.length - 1) ++ [z] := by rw [← htz, List.take_of_length_le (by omega)]
            rw [this, Sp.cand_snoc]
          have e0 : ((xs.length : Int) == 0) = false := by rw [beq_eq_false_iff_ne]; omega
          have w1 : IntKind.i64.wrap ((xs.length : Int) - 1) = (xs.length : Int) - 1 := IntWalk.i64_in _ (by omega)
          have w2 : 0 ≤ (xs.length : Int) - 1 := by omega
          have w3 : ((xs.length : Int) - 1).toNat = xs.length - 1 := by omega
          have w4 : (xs.length : Int) - 1 < xs.length := by omega
          have Hcz := Sp.hid hcz
          clear hlz htz hcz hrow
          cases hzs : Sp.less z s with
          | false =>
            have hs1 := Sp.hid (show Sp.best xs (l.take (k + 1)) = o by rw [Hs0.out]; unfold Sp.pickR; rw [Hcz.out, hzs, if_neg (by simp)])
            cases hsz : Sp.less s z with
            | true =>
              have g1 : Op.bytesLess s.toList z.toList = true := hsz
              clear hzs hsz
              go_wp2_with fail
              go_quiet (fail)
              go_wp2_with fail
              go_roundw
              case rel => exact ⟨k + 1, _, o, hlt, by go_num, rfl, rfl, hs1.out, rfl⟩
              case measure => simp [intOf]; omega
            | false =>
              obtain ⟨g1, g2⟩ := Sp.gt_no hsz hzs
              clear hzs hsz
              go_wp2_with fail
              go_quiet (fail)
              go_wp2_with fail
              go_roundw
              case rel => exact ⟨k + 1, _, o, hlt, by go_num, rfl, rfl, hs1.out, rfl⟩
              case measure => simp [intOf]; omega
          | true =>
            have hcd := Sp.hid (show Sp.cand xs s = true by rw [Hcz.out]; exact hzs)
            obtain ⟨g1, g2⟩ := Sp.gt_yes hzs
            clear hzs
            cases o with
            | none =>
              have hs1 := Sp.hid (show Sp.best xs (l.take (k + 1)) = some s by rw [Hs0.out]; unfold Sp.pickR; rw [hcd.out, if_pos rfl])
              go_wp2_with fail
              go_quiet (fail)
              go_wp2_with fail
              go_roundw
              case rel => exact ⟨k + 1, _, some s, hlt, by go_num, rfl, rfl, hs1.out, rfl⟩
              case measure => simp [intOf]; omega
            | some b =>
              cases hsb : Sp.less s b with
              | true =>
                have hs1 := Sp.hid (show Sp.best xs (l.take (k + 1)) = some s by rw [Hs0.out]; unfold Sp.pickR; rw [hcd.out, if_pos rfl]; simp only [hsb, if_true])
                have g3 : Op.bytesLess s.toList b.toList = true := hsb
                clear hsb
                go_wp2_with fail
                go_quiet (fail)
                go_wp2_with fail
                go_roundw
                case rel => exact ⟨k + 1, _, some s, hlt, by go_num, rfl, rfl, hs1.out, rfl⟩
                case measure => simp [intOf]; omega
              | false =>
                have hs1 := Sp.hid (show Sp.best xs (l.take (k + 1)) = some b by rw [Hs0.out]; unfold Sp.pickR; rw [hcd.out, if_pos rfl]; simp only [hsb, Bool.false_eq_true, if_false])
                have g3 : Op.bytesLess s.toList b.toList = false := hsb
                clear hsb
                go_wp2_with fail
                go_quiet (fail)
                go_wp2_with fail
                go_roundw
                case rel => exact ⟨k + 1, _, some b, hlt, by go_num, rfl, rfl, hs1.out, rfl⟩
                case measure => simp [intOf]; omega
      · have hkl := Sp.hid (show Sp.best xs l = o by rw [← Ho.out, List.take_of_length_le (by rw [Hlen.out]; omega)])
        clear hh
        have hown1 : (wo.drewN r).ownsRow w.heap.size 9 1 (.slice oo xs.length oc) xs.length (xs.map Value.string) := hown
        have hbel1 : Below w.heap.size w (wo.drewN r) := hbel.trans ⟨rfl, rfl, rfl, Nat.le_refl _, fun _ _ => rfl⟩
        have hrow1 : Sp.Row (wo.drewN r) oo xs.length xs := hrow
        clear hown hbel hrow
        generalize wo.drewN r = wq at hown1 hbel1 hrow1 ⊢
        have hsz := hbel1.size
        cases o with
        | none =>
          have hd := Sp.hid (Hinv.out.done hkl.out)
          go_wp2_with fail
          go_ret
          exact ⟨_, xs, rfl, hd.out, oo, xs.length, oc, rfl, hrow1, hocap, hbel1⟩
        | some b =>
          obtain ⟨hst, hst2⟩ := Hinv.out.step hkl.out
          have Hst := Sp.hid hst
          rw [Hlen.out] at hst2
          clear hrow1 hst
          go_wp2_with (at_builtin; refine wpList_append_own _ rfl _ _ 22 rfl w.heap.size 9 i0 (.string ⟨#[]⟩) 1 16 Try.underlying22 hi hz0 hz1 hz2 rfl (by decide) _ _ _ rfl (hown1.alloc _) ⟨wq.heap.size, 0, none⟩ 1 1 [.string b] rfl rfl ?c1 ?c2 ?c3 ?c4 ?c5 ?_)
          case c1 =>
            intro j u hj
            match j, hj with
            | 0, hj => simp at hj; subst hj; simp [Addr.add]
          case c2 => first | rfl | trivial | (intro u hu; simp at hu; subst hu; rfl)
          case c3 => unfold maxLen; omega
          case c4 => omega
          case c5 => first | omega | (simp; omega)
          intro v' w2 hown' hgrow _
          have hown2 : w2.ownsRow w.heap.size 9 1 v' (xs ++ [b]).length ((xs ++ [b]).map Value.string) := by simpa using hown'
          have hbel2 : Below w.heap.size w w2 := (hbel1.alloc (by omega) _).grown hgrow (by simp; omega) (fun k hk => (hown1.lt k hk).1)
          have hlv := Sp.lenOf_own hown2
          rw [List.length_append] at hlv
          clear hown' hgrow hown1 hbel1 hsz
          go_wp2_with fail
          go_roundw
          case rel => exact ⟨xs ++ [b], hown2, hbel2, Hst.out⟩
          case measure =>
            have hm : n - Sp.lenOf v' < n - xs.length := by rw [hlv]; simp; omega
            exact hm

end Go.Proofs.Ytimjgjhdkinhoaa
