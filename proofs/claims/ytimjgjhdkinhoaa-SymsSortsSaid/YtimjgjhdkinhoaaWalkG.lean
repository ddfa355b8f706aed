/-
  The walks of Read.
-/
import Derived.Test.YtimjgjhdkinhoaaWalkA
import Derived.Test.YtimjgjhdkinhoaaShelf
import Derived.Test.YtimjgjhdkinhoaaSpecR
import Derived.Lib.IndexBytes
set_option linter.unusedVariables false
namespace Go.Proofs.Ytimjgjhdkinhoaa
open Go.RowKit

theorem strInfo : (Try.prog.info? 9).map (fun i => (i.zero, i.size, i.bytes)) = some (some (.string ⟨#[]⟩), 1, 16) := by kernel_rfl

theorem Sp.row_of_own {w : World} {base : Nat} {v : Value} {xs : List ByteArray} (h : w.ownsRow base 9 1 v xs.length (xs.map Value.string)) (hs : ∀ s ∈ xs, s.size ≤ maxLen) (hm : xs.length ≤ maxLen) :
    ∃ ao cap, v = .slice ao xs.length cap ∧ Sp.Row w ao xs.length xs ∧ xs.length ≤ cap := by
  have hc := @World.ownsRow.cells _ _ _ _ _ _ _ h
  rcases h.2 with ⟨rfl, h0⟩ | ⟨g, cap, cur, rfl, _, _, hcap, _⟩
  · rw [h0]
    exact ⟨none, 0, rfl, ⟨h0, by decide, fun h => absurd h (by omega), hs⟩, Nat.le_refl _⟩
  · refine ⟨some ⟨g, 0, none⟩, cap, rfl, ⟨rfl, hm, fun _ => ⟨g, 0, rfl, fun i hi => ?_⟩, hs⟩, hcap⟩
    have h1 := hc (g := g) rfl i (.string (xs.getD i ByteArray.empty)) (by simp [List.getD, hi])
    have e : (⟨g, 0, none⟩ : Addr).add i = ⟨g, 0 + i, none⟩ := by unfold Addr.add; split <;> simp_all
    rw [e] at h1
    exact h1

/-- A slice of new memory that holds xs. -/
def SlRes (xs : List ByteArray) (w w' : World) (v : Value) : Prop := ∃ ao n cap, v = .slice ao n cap ∧ Sp.Row w' ao n xs ∧ n ≤ cap ∧ Below w.heap.size w w'
def PostSE (xs : List ByteArray) (err : Int) (w : World) (e : Ending) (w' : World) : Prop := ∃ v, e = .returned (.tuple #[v, .int .i64 err]) ∧ SlRes xs w w' v
def PostSB (xs : Option (List ByteArray)) (w : World) (e : Ending) (w' : World) : Prop :=
  match xs with
  | none => e = .returned (.tuple #[.slice none 0 0, .bool false]) ∧ Below w.heap.size w w'
  | some ys => ∃ v, e = .returned (.tuple #[v, .bool true]) ∧ SlRes ys w w' v

theorem SlRes.nil {w w' : World} (h : Below w.heap.size w w') : SlRes [] w w' (.slice none 0 0) :=
  ⟨none, 0, 0, rfl, ⟨rfl, by decide, fun h => absurd h (by omega), by simp⟩, Nat.le_refl _, h⟩

def WrPost (l : List UInt8) (w : World) (e : Ending) (w' : World) : Prop :=
  ∃ x : ByteArray, ∃ k : Nat, e = .returned (.tuple #[.string x, .int .i64 k]) ∧ ((Sp.stepR l = none ∧ k = 0) ∨ (Sp.stepR l = some (x.data.toList, k))) ∧ w = w'

theorem indexByte62 (s : ByteArray) (w : World) :
    Calls Try.prog 85 #[.string s, .int .u8 62] w fun e w' => e = .returned (.int .i64 (Lib.indexByte s.data.toList 62)) ∧ w = w' :=
  (Try.strings_IndexByte s 62 w).mono fun e w' ⟨h1, h2⟩ => ⟨h1, h2.symm⟩

theorem Sp.ext_data (s : ByteArray) (a b : Nat) : (s.extract a b).data.toList = (s.data.toList.drop a).take (b - a) := by
  rw [← Lib.extract_toList, ByteArray.toList_eq]
theorem Sp.getq (s : ByteArray) (k : Nat) (h : k < s.size) : s.data.toList[k]? = some s[k] := by
  rw [List.getElem?_eq_getElem (by simpa using h)]; rfl

set_option maxHeartbeats 1000000 in
theorem written_any (s : ByteArray) (w : World) (h0 : 0 < s.size) (hs : s.size ≤ maxLen) :
    Calls Try.prog 54 #[.string s] w (WrPost s.data.toList w) := by
  unfold maxLen at hs
  have hg := Sp.getq s 0 h0
  have b1 : (s[0].toNat : Int) ≤ 255 := by have := s[0].toNat_lt; omega
  cases hc : Sp.plainI (s[0].toNat : Int) with
  | true =>
    have hf := Sp.hid (Sp.stepR_plain hg hc)
    have hd := Sp.hid (show (s.extract 0 1).data.toList = [s[0]] by
      rw [Sp.ext_data]
      cases hh : s.data.toList with
      | nil => rw [hh] at hg; simp at hg
      | cons c r => rw [hh] at hg; simp at hg; simp [hg])
    clear hg
    go_enter Try.func54, Try.ntmps54
    go_wp2_with (go_at_call 81; refine (isPlain_any _ _ (by omega) (by omega)).mono ?_; rintro e w' ⟨rfl, rfl⟩)
    go_ret2
    exact ⟨s.extract 0 1, 1, rfl, Or.inr (by rw [hd.out]; exact hf.out), rfl⟩
  | false =>
    by_cases h6 : s[0] = 60
    · have hg6 : s.data.toList[0]? = some (60 : UInt8) := by rw [hg, h6]
      have n6 : ((s[0].toNat : Int) != 60) = false := by rw [h6]; rfl
      have H6 := Sp.hid h6
      clear h6 hg
      have hge := Lib.indexByte_ge s.data.toList 62
      obtain ⟨o, ho⟩ : ∃ o, Lib.indexByte s.data.toList 62 = o := ⟨_, rfl⟩
      have HI := Sp.hid (indexByte62 s w)
      rw [ho] at HI hge
      by_cases hneg : o < 0
      · have ho' : Lib.indexByte s.data.toList 62 = -1 := by omega
        have hf := Sp.hid (Sp.stepR_none hg6 (Lib.indexByte_none ho'))
        clear ho ho' hg6
        go_enter Try.func54, Try.ntmps54
        go_wp2_with (first | (go_at_call 81; refine (isPlain_any _ _ (by omega) (by omega)).mono ?_; rintro e w' ⟨rfl, rfl⟩) | (go_at_call 85; refine HI.out.mono ?_; rintro e w' ⟨rfl, rfl⟩))
        go_ret2
        exact ⟨⟨#[]⟩, 0, rfl, Or.inl ⟨hf.out, rfl⟩, rfl⟩
      · obtain ⟨e, rfl⟩ : ∃ e : Nat, o = e := ⟨o.toNat, by omega⟩
        obtain ⟨he, hbe⟩ := Lib.indexByte_some ho
        have hf := Sp.hid (Sp.stepR_found hg6 he hbe)
        have hle : e < s.size := by
          have := (List.getElem?_eq_some_iff.1 he).1
          simpa using this
        have h1e : 1 ≤ e := by
          rcases Nat.eq_zero_or_pos e with h | h
          · subst h; rw [hg6] at he; simp at he
          · exact h
        clear ho hg6 he hbe hge hneg
        obtain ⟨x, hx⟩ : ∃ x, s.extract 1 e = x := ⟨_, rfl⟩
        have hd := Sp.hid (show x.data.toList = (s.data.toList.take e).drop 1 by rw [← hx, Sp.ext_data, List.drop_take])
        have hxs : x.size = e - 1 := by
          have := congrArg List.length hd.out
          simp at this
          omega
        have hx1 : x.size < e := by omega
        have hx2 : e ≤ x.size + 1 := by omega
        have hxm : x.size ≤ maxLen := by unfold maxLen; omega
        clear hxs
        by_cases h3 : e < 3
        · have hf2 := Sp.hid (show Sp.stepR s.data.toList = none by rw [hf.out, if_pos h3])
          go_enter Try.func54, Try.ntmps54
          go_wp2_with (first | (go_at_call 81; refine (isPlain_any _ _ (by omega) (by omega)).mono ?_; rintro e w' ⟨rfl, rfl⟩) | (go_at_call 85; refine HI.out.mono ?_; rintro e w' ⟨rfl, rfl⟩))
          go_ret2
          exact ⟨⟨#[]⟩, 0, rfl, Or.inl ⟨hf2.out, rfl⟩, rfl⟩
        · cases hsy : Sp.isSym x with
          | false =>
            have hf2 := Sp.hid (show Sp.stepR s.data.toList = none by rw [hf.out, if_neg h3, if_neg]; rw [← hd.out, ← Sp.isSym_symL, hsy]; simp)
            go_enter Try.func54, Try.ntmps54
            go_wp2_with (first | (go_at_call 81; refine (isPlain_any _ _ (by omega) (by omega)).mono ?_; rintro e w' ⟨rfl, rfl⟩) | (go_at_call 85; refine HI.out.mono ?_; rintro e w' ⟨rfl, rfl⟩) | (go_at_call 44; refine (isSymbol_any _ _ (by assumption)).mono ?_; rintro e w' ⟨rfl, rfl⟩))
            go_ret2
            exact ⟨⟨#[]⟩, 0, rfl, Or.inl ⟨hf2.out, rfl⟩, rfl⟩
          | true =>
            have hf2 := Sp.hid (show Sp.stepR s.data.toList = some (x.data.toList, e + 1) by rw [hf.out, if_neg h3, if_pos, hd.out]; rw [← hd.out, ← Sp.isSym_symL, hsy])
            go_enter Try.func54, Try.ntmps54
            go_wp2_with (first | (go_at_call 81; refine (isPlain_any _ _ (by omega) (by omega)).mono ?_; rintro e w' ⟨rfl, rfl⟩) | (go_at_call 85; refine HI.out.mono ?_; rintro e w' ⟨rfl, rfl⟩) | (go_at_call 44; refine (isSymbol_any _ _ (by assumption)).mono ?_; rintro e w' ⟨rfl, rfl⟩))
            go_ret2
            exact ⟨x, e + 1, rfl, Or.inr hf2.out, rfl⟩
    · have hf := Sp.hid (Sp.stepR_bad hg hc h6)
      have n6 : ((s[0].toNat : Int) != 60) = true := by
        rw [bne_iff_ne]
        intro hh
        apply h6
        apply UInt8.toNat_inj.1
        show s[0].toNat = 60
        omega
      clear h6 hg
      have HI := Sp.hid (indexByte62 s w)
      go_enter Try.func54, Try.ntmps54
      go_wp2_with (first | (go_at_call 81; refine (isPlain_any _ _ (by omega) (by omega)).mono ?_; rintro e w' ⟨rfl, rfl⟩) | (go_at_call 85; refine HI.out.mono ?_; rintro e w' ⟨rfl, rfl⟩))
      go_ret2
      exact ⟨⟨#[]⟩, 0, rfl, Or.inl ⟨hf.out, rfl⟩, rfl⟩

end Go.Proofs.Ytimjgjhdkinhoaa
