/-
  The walks of Split: the loops.
-/
import Derived.Test.YtimjgjhdkinhoaaWalkI
set_option linter.unusedVariables false
namespace Go.Proofs.Ytimjgjhdkinhoaa
open Go.RowKit

def PostS3 (xs : List ByteArray) (k : Nat) (err : Int) (w : World) (e : Ending) (w' : World) : Prop := ∃ v, e = .returned (.tuple #[v, .int .i64 k, .int .i64 err]) ∧ SlRes xs w w' v

set_option maxHeartbeats 4000000 in
set_option maxRecDepth 100000 in
theorem split_any (s : ByteArray) (hs : s.size ≤ maxLen) (ao : Option Addr) (n cap : Nat) (sig : List ByteArray) (w : World) (h : Sp.Row w ao n sig) :
    Calls Try.prog 27 #[.string s, .slice ao n cap] w (PostS3 (Sp.splitOf s.data.toList sig).1 (Sp.splitOf s.data.toList sig).2.1 (Sp.splitOf s.data.toList sig).2.2 w) := by
  unfold maxLen at hs
  have hn := h.le
  have hlen : s.data.toList.length = s.size := by simp
  have HV := Sp.hid (validate_any ao n cap sig w h)
  by_cases he : Sp.errAlpha sig = 0
  · have hb0 : (Sp.errAlpha sig != 0) = false := by rw [he]; rfl
    by_cases h4 : 400 < s.size
    · have hf := Sp.hid (show Sp.splitOf s.data.toList sig = ([], 0, 3) by unfold Sp.splitOf; rw [if_pos he, if_pos (by omega)])
      clear he hlen
      go_enter Try.func27, Try.ntmps27
      go_wp2_with fail
      refine HV.out.mono ?_
      rintro e w1 ⟨rfl, rfl⟩
      go_wp2
      go_ret3
      exact ⟨.slice none 0 0, by rw [hf.out]; rfl, by rw [hf.out]; exact SlRes.nil (Below.refl _ _)⟩
    · obtain ⟨hsz40, hsm, hsy, _⟩ := Sp.alpha_small he
      have Hsm := Sp.hid hsm
      have Hsy := Sp.hid hsy
      have He := Sp.hid he
      have H4 := Sp.hid (show ¬ 400 < s.data.toList.length by omega)
      obtain ⟨i0, hi, hz0, hz1, hz2⟩ := info_parts strInfo
      have Hlen := Sp.hid hlen
      clear hlen hsm hsy he hsz40
      go_enter Try.func27, Try.ntmps27
      go_wp2_with fail
      refine HV.out.mono ?_
      rintro e w1 ⟨rfl, rfl⟩
      go_wp2_with fail
      go_loopw [8, 9, 10] (fun v i _ wr => ∃ k : Nat, ∃ xs : List ByteArray, k ≤ s.size ∧ i = .int .i64 k ∧ wr.ownsRow w.heap.size 9 1 v xs.length (xs.map Value.string) ∧ Below w.heap.size w wr ∧ Sp.SGoing sig s.data.toList k xs) (fun _ i _ _ => s.size - (intOf i).toNat)
      case atStart => exact ⟨0, [], Nat.zero_le _, rfl, World.ownsRow_nil _ _ _ _, Below.refl _ _, Sp.SGoing.start _ _⟩
      case round =>
        obtain ⟨k, xs, hk, rfl, hown, hbel, hgo⟩ := hrel
        have hxl : xs.length ≤ 400 := by have := hgo.2.1; omega
        have Hgo := Sp.hid hgo
        have hsz := hbel.size
        have hrow := h.below hbel
        clear hgo
        by_cases hlt : k < s.size
        · obtain ⟨y, hy⟩ : ∃ y, s.extract k s.size = y := ⟨_, rfl⟩
          have hyd := Sp.hid (show y.data.toList = s.data.toList.drop k by rw [← hy]; exact Lib.extract_to_end s k)
          have HL := Sp.hid (longest_any y ao n cap sig wr hrow)
          rw [hyd.out] at HL
          obtain ⟨x, hx⟩ : ∃ x, Sp.longF (s.data.toList.drop k) sig = x := ⟨_, rfl⟩
          rw [hx] at HL
          clear hrow
          by_cases hx0 : x.size = 0
          · have hf := Sp.hid (Sp.splitOf_bad He.out H4.out (Hgo.out.bad (by rw [Hlen.out]; exact hlt) (by rw [hx]; exact hx0)))
            have he1 : x.toList.isEmpty = true := Sp.empty_of_size hx0
            clear hx hx0
            go_wp2_with fail
            refine HL.out.mono ?_
            rintro e w1 ⟨rfl, rfl⟩
            go_wp2
            go_ret3
            exact ⟨.slice none 0 0, by rw [hf.out]; rfl, by rw [hf.out]; exact SlRes.nil hbel⟩
          · have he1 : x.toList.isEmpty = false := Sp.not_empty_of_size hx0
            obtain ⟨hg1, hxm, hkx⟩ := Hgo.out.step (by rw [Hlen.out]; exact hlt) hx hx0
            have hx16 : x.size ≤ 16 := Hsm.out x hxm
            have hxp : 0 < x.size := by omega
            rw [Hlen.out] at hkx
            have Hg1 := Sp.hid hg1
            clear hg1 hxm hx hx0
            go_wp2_with fail
            refine HL.out.mono ?_
            rintro e w1 ⟨rfl, rfl⟩
            go_wp2_with (at_builtin; refine wpList_append_own _ rfl _ _ 22 rfl w.heap.size 9 i0 (.string ⟨#[]⟩) 1 16 Try.underlying22 hi hz0 hz1 hz2 rfl (by decide) _ _ _ rfl (hown.alloc _) ⟨wr.heap.size, 0, none⟩ 1 1 [.string x] rfl rfl ?c1 ?c2 ?c3 ?c4 ?c5 ?_)
            case c1 =>
              intro j u hj
              match j, hj with
              | 0, hj => simp at hj; subst hj; simp [Addr.add]
            case c2 => intro u hu; simp at hu; subst hu; rfl
            case c3 => unfold maxLen; omega
            case c4 => omega
            case c5 => simp; omega
            intro v' w2 hown' hgrow _
            have hown2 : w2.ownsRow w.heap.size 9 1 v' (xs ++ [x]).length ((xs ++ [x]).map Value.string) := by simpa using hown'
            have hbel2 : Below w.heap.size w w2 := (hbel.alloc (by omega) _).grown hgrow (by simp; omega) (fun k hk => (hown.lt k hk).1)
            clear hown' hgrow hown hbel hsz
            go_wp2
            go_roundw
            case rel => exact ⟨k + x.size, xs ++ [x], by omega, by go_num, hown2, hbel2, Hg1.out⟩
            case measure => simp [intOf]; omega
        · have hf := Sp.hid (Sp.splitOf_done He.out H4.out (Hgo.out.done (by rw [Hlen.out]; exact hlt)))
          have hsm := Sp.hid (show ∀ s ∈ xs, s.size ≤ maxLen from fun s hs => by have := Hsm.out s (Hgo.out.2.2.1 s hs); unfold maxLen; omega)
          obtain ⟨ao2, cap2, rfl, hrow2, hcap2⟩ := Sp.row_of_own hown hsm.out (by unfold maxLen; omega)
          have Hrow := Sp.hid hrow2
          clear hrow2 hown hrow
          by_cases h6 : 60 < xs.length
          · have hf2 := Sp.hid (show Sp.splitOf s.data.toList sig = ([], 0, 3) by rw [hf.out, if_pos h6])
            go_wp2
            go_ret3
            exact ⟨.slice none 0 0, by rw [hf2.out]; rfl, by rw [hf2.out]; exact SlRes.nil hbel⟩
          · have hf2 := Sp.hid (show Sp.splitOf s.data.toList sig = (xs, 0, 0) by rw [hf.out, if_neg h6])
            go_wp2
            go_ret3
            exact ⟨.slice ao2 xs.length cap2, by rw [hf2.out]; rfl, by rw [hf2.out]; exact ⟨_, _, _, rfl, Hrow.out, hcap2, hbel⟩⟩
  · have hf := Sp.hid (show Sp.splitOf s.data.toList sig = ([], 0, Sp.errAlpha sig) by unfold Sp.splitOf; rw [if_neg he])
    have hb0 : (Sp.errAlpha sig != 0) = true := by simpa using he
    clear he hlen
    go_enter Try.func27, Try.ntmps27
    go_wp2_with fail
    refine HV.out.mono ?_
    rintro e w1 ⟨rfl, rfl⟩
    go_wp2
    go_ret3
    exact ⟨.slice none 0 0, by rw [hf.out]; rfl, by rw [hf.out]; exact SlRes.nil (Below.refl _ _)⟩

set_option maxHeartbeats 4000000 in
set_option maxRecDepth 100000 in
theorem refSplit_any (s : ByteArray) (hs : s.size ≤ maxLen) (ao : Option Addr) (n cap : Nat) (sig : List ByteArray) (w : World) (h : Sp.Row w ao n sig) :
    Calls Try.prog 28 #[.string s, .slice ao n cap] w (PostS3 (Sp.splitOf s.data.toList sig).1 (Sp.splitOf s.data.toList sig).2.1 (Sp.splitOf s.data.toList sig).2.2 w) := by
  unfold maxLen at hs
  have hn := h.le
  have hlen : s.data.toList.length = s.size := by simp
  have HV := Sp.hid (refValidate_any ao n cap sig w h)
  by_cases he : Sp.errAlpha sig = 0
  · have hb0 : (Sp.errAlpha sig != 0) = false := by rw [he]; rfl
    by_cases h4 : 400 < s.size
    · have hf := Sp.hid (show Sp.splitOf s.data.toList sig = ([], 0, 3) by unfold Sp.splitOf; rw [if_pos he, if_pos (by omega)])
      clear he hlen
      go_enter Try.func28, Try.ntmps28
      go_wp2_with fail
      refine HV.out.mono ?_
      rintro e w1 ⟨rfl, hq⟩
      have hb := Sp.below_of_drew hq
      clear hq
      go_wp2
      go_ret3
      exact ⟨.slice none 0 0, by rw [hf.out]; rfl, by rw [hf.out]; exact SlRes.nil hb⟩
    · obtain ⟨hsz40, hsm, hsy, _⟩ := Sp.alpha_small he
      have Hsm := Sp.hid hsm
      have Hsy := Sp.hid hsy
      have He := Sp.hid he
      have H4 := Sp.hid (show ¬ 400 < s.data.toList.length by omega)
      obtain ⟨i0, hi, hz0, hz1, hz2⟩ := info_parts strInfo
      have Hlen := Sp.hid hlen
      clear hlen hsm hsy he hsz40
      go_enter Try.func28, Try.ntmps28
      go_wp2_with fail
      refine HV.out.mono ?_
      rintro e w1 ⟨rfl, hq⟩
      have hb1 := Sp.below_of_drew hq
      clear hq
      go_wp2_with fail
      go_loopw [8, 9, 10, 11] (fun v i _ _ wr => ∃ k : Nat, ∃ xs : List ByteArray, k ≤ s.size ∧ i = .int .i64 k ∧ wr.ownsRow w.heap.size 9 1 v xs.length (xs.map Value.string) ∧ Below w.heap.size w wr ∧ Sp.SGoing sig s.data.toList k xs) (fun _ i _ _ _ => s.size - (intOf i).toNat)
      case atStart => exact ⟨0, [], Nat.zero_le _, rfl, World.ownsRow_nil _ _ _ _, hb1, Sp.SGoing.start _ _⟩
      case round =>
        obtain ⟨k, xs, hk, rfl, hown, hbel, hgo⟩ := hrel
        have hxl : xs.length ≤ 400 := by have := hgo.2.1; omega
        have Hgo := Sp.hid hgo
        have hsz := hbel.size
        have hrow := h.below hbel
        clear hgo
        by_cases hlt : k < s.size
        · go_wp2_with fail
          go_loop [10, 11] (fun b i => ∃ j : Nat, ∃ t : ByteArray, j ≤ n ∧ i = .int .i64 j ∧ b = .string t ∧ (sig.take j).foldl (Sp.best1 (s.data.toList.drop k)) ⟨#[]⟩ = t ∧ t.size ≤ 16) (fun _ i => n - (intOf i).toNat)
          case atStart => exact ⟨0, ⟨#[]⟩, Nat.zero_le _, rfl, rfl, rfl, by decide⟩
          case round =>
            obtain ⟨j, t, hj, rfl, rfl, hfo, htz⟩ := hrel
            have Hfo := Sp.hid hfo
            clear hfo
            by_cases hjlt : j < n
            · obtain ⟨b2, off2, x, rfl, hc, hs2, hj?, htj⟩ := hrow.at hjlt
              have hx16 : x.size ≤ 16 := Hsm.out x (List.mem_of_getElem? hj?)
              have Ht := Sp.hid (show (sig.take (j + 1)).foldl (Sp.best1 (s.data.toList.drop k)) ⟨#[]⟩ = Sp.best1 (s.data.toList.drop k) t x by rw [htj, List.foldl_append, Hfo.out]; rfl)
              clear hj? htj hs2
              by_cases hz : t.size < x.size
              · have HF := Sp.hid (fits_any s x k wr (by unfold maxLen; omega) (by unfold maxLen; omega) hk)
                cases hp : Sp.pre (s.data.toList.drop k) x with
                | true =>
                  have hs1 := Sp.hid (show (sig.take (j + 1)).foldl (Sp.best1 (s.data.toList.drop k)) ⟨#[]⟩ = x by rw [Ht.out, Sp.best1_yes hz hp])
                  rw [hp] at HF
                  clear hp
                  go_wp2_with fail
                  refine HF.out.mono ?_
                  rintro e w1 ⟨rfl, rfl⟩
                  go_wp2
                  go_round
                  case rel => exact ⟨j + 1, x, by omega, by go_num, rfl, hs1.out, hx16⟩
                  case measure => simp [intOf]; omega
                | false =>
                  have hs1 := Sp.hid (show (sig.take (j + 1)).foldl (Sp.best1 (s.data.toList.drop k)) ⟨#[]⟩ = t by rw [Ht.out, Sp.best1_no hp])
                  rw [hp] at HF
                  clear hp
                  go_wp2_with fail
                  refine HF.out.mono ?_
                  rintro e w1 ⟨rfl, rfl⟩
                  go_wp2
                  go_round
                  case rel => exact ⟨j + 1, t, by omega, by go_num, rfl, hs1.out, htz⟩
                  case measure => simp [intOf]; omega
              · have hs1 := Sp.hid (show (sig.take (j + 1)).foldl (Sp.best1 (s.data.toList.drop k)) ⟨#[]⟩ = t by rw [Ht.out, Sp.best1_small hz])
                go_wp2
                go_round
                case rel => exact ⟨j + 1, t, by omega, by go_num, rfl, hs1.out, htz⟩
                case measure => simp [intOf]; omega
            · have hj' : sig.take j = sig := List.take_of_length_le (by rw [h.1]; omega)
              have hx : Sp.longF (s.data.toList.drop k) sig = t := by have h := Hfo.out; rwa [hj'] at h
              clear hj' hrow
              by_cases hx0 : t.size = 0
              · have hf := Sp.hid (Sp.splitOf_bad He.out H4.out (Hgo.out.bad (by rw [Hlen.out]; exact hlt) (by rw [hx]; exact hx0)))
                have he1 : t.toList.isEmpty = true := Sp.empty_of_size hx0
                clear hx hx0
                go_wp2
                go_ret3
                exact ⟨.slice none 0 0, by rw [hf.out]; rfl, by rw [hf.out]; exact SlRes.nil hbel⟩
              · have he1 : t.toList.isEmpty = false := Sp.not_empty_of_size hx0
                obtain ⟨hg1, hxm, hkx⟩ := Hgo.out.step (by rw [Hlen.out]; exact hlt) hx hx0
                have hxp : 0 < t.size := by omega
                rw [Hlen.out] at hkx
                have Hg1 := Sp.hid hg1
                clear hg1 hxm hx hx0
                go_wp2_with (at_builtin; refine wpList_append_own _ rfl _ _ 22 rfl w.heap.size 9 i0 (.string ⟨#[]⟩) 1 16 Try.underlying22 hi hz0 hz1 hz2 rfl (by decide) _ _ _ rfl (hown.alloc _) ⟨wr.heap.size, 0, none⟩ 1 1 [.string t] rfl rfl ?c1 ?c2 ?c3 ?c4 ?c5 ?_)
                case c2 => first | rfl | trivial | (intro u hu; simp at hu; subst hu; rfl)
                case c3 => unfold maxLen; omega
                case c4 => omega
                case c5 => first | omega | (simp; omega)
                intro v' w2 hown' hgrow _
                have hown2 : w2.ownsRow w.heap.size 9 1 v' (xs ++ [t]).length ((xs ++ [t]).map Value.string) := by simpa using hown'
                have hbel2 : Below w.heap.size w w2 := (hbel.alloc (by omega) _).grown hgrow (by simp; omega) (fun k hk => (hown.lt k hk).1)
                clear hown' hgrow hown hbel hsz
                go_wp2
                go_roundw
                case rel => exact ⟨k + t.size, xs ++ [t], by omega, by go_num, hown2, hbel2, Hg1.out⟩
                case measure => simp [intOf]; omega
        · have hf := Sp.hid (Sp.splitOf_done He.out H4.out (Hgo.out.done (by rw [Hlen.out]; exact hlt)))
          have hsm := Sp.hid (show ∀ s ∈ xs, s.size ≤ maxLen from fun s hs => by have := Hsm.out s (Hgo.out.2.2.1 s hs); unfold maxLen; omega)
          obtain ⟨ao2, cap2, rfl, hrow2, hcap2⟩ := Sp.row_of_own hown hsm.out (by unfold maxLen; omega)
          have Hrow := Sp.hid hrow2
          clear hrow2 hown hrow
          by_cases h6 : 60 < xs.length
          · have hf2 := Sp.hid (show Sp.splitOf s.data.toList sig = ([], 0, 3) by rw [hf.out, if_pos h6])
            go_wp2
            go_ret3
            exact ⟨.slice none 0 0, by rw [hf2.out]; rfl, by rw [hf2.out]; exact SlRes.nil hbel⟩
          · have hf2 := Sp.hid (show Sp.splitOf s.data.toList sig = (xs, 0, 0) by rw [hf.out, if_neg h6])
            go_wp2
            go_ret3
            exact ⟨.slice ao2 xs.length cap2, by rw [hf2.out]; rfl, by rw [hf2.out]; exact ⟨_, _, _, rfl, Hrow.out, hcap2, hbel⟩⟩
  · have hf := Sp.hid (show Sp.splitOf s.data.toList sig = ([], 0, Sp.errAlpha sig) by unfold Sp.splitOf; rw [if_neg he])
    have hb0 : (Sp.errAlpha sig != 0) = true := by simpa using he
    clear he hlen
    go_enter Try.func28, Try.ntmps28
    go_wp2_with fail
    refine HV.out.mono ?_
    rintro e w1 ⟨rfl, hq⟩
    have hb := Sp.below_of_drew hq
    clear hq
    go_wp2
    go_ret3
    exact ⟨.slice none 0 0, by rw [hf.out]; rfl, by rw [hf.out]; exact SlRes.nil hb⟩

end Go.Proofs.Ytimjgjhdkinhoaa
