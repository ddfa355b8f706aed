/-
  The walks of Text and of 'known'.
-/
import Derived.Test.YtimjgjhdkinhoaaWalkB
import Derived.Test.YtimjgjhdkinhoaaBuild
set_option linter.unusedVariables false
namespace Go.Proofs.Ytimjgjhdkinhoaa
open Go.RowKit
open Go.Lib (IsBuilder BuilderAt byteCells strCells byteCells_length byteCells_append strCells_eq fresh_isBuilder)

theorem builderLen_any (B b : Nat) (bs : List Value) (w : World) (h : IsBuilder 52 5 B b bs w) :
    Calls Try.prog 49 #[.pointer (some ⟨b, 0, none⟩)] w fun e w' => e = .returned (.int .i64 bs.length) ∧ w = w' :=
  (Try.Builder_Len B b bs w h).mono fun e w' ⟨h1, h2⟩ => ⟨h1, h2.symm⟩

theorem Sp.isBuilder_put {B b : Nat} {l m : List UInt8} {s : ByteArray} {w : World} (h : BuilderAt 52 5 B b (.pointer (some ⟨b, 0, none⟩)) (byteCells l ++ strCells s) w) (e : m = l ++ s.data.toList) :
    IsBuilder 52 5 B b (byteCells m) w := by
  rw [strCells_eq, ← byteCells_append, ← e] at h
  exact Or.inr h

theorem Sp.wrap_data (s : ByteArray) : ((⟨#[60]⟩ : ByteArray) ++ s ++ ⟨#[62]⟩).data.toList = 60 :: (s.data.toList ++ [62]) := by simp [ByteArray.data_append]
theorem Sp.wrap_size (s : ByteArray) : ((⟨#[60]⟩ : ByteArray) ++ s ++ ⟨#[62]⟩).size = s.size + 2 := by
  rw [ByteArray.size_append, ByteArray.size_append]
  show 1 + s.size + 1 = s.size + 2
  omega

set_option maxHeartbeats 1000000 in
theorem text_any (ao : Option Addr) (n cap : Nat) (l : List ByteArray) (w : World) (h : Sp.Row w ao n l) :
    Calls Try.prog 19 #[.slice ao n cap] w fun e w' => e = .returned (.tuple #[.string ⟨(Sp.textOf l).1.toArray⟩, .int .i64 (Sp.textOf l).2]) ∧ Below w.heap.size w w' := by
  have hn := h.le
  by_cases he : Sp.errWord l = 0
  · obtain ⟨hl60, hsm, _⟩ := Sp.word_small he
    have hn60 : n ≤ 60 := by have := h.1; omega
    have hft := Sp.hid (show Sp.textOf l = if 400 < (Sp.written l).length then ([], 3) else (Sp.written l, 0) by unfold Sp.textOf; rw [if_pos he])
    have Hsm := Sp.hid hsm
    clear hsm hl60
    have hb0 : (Sp.errWord l != 0) = false := by rw [he]; rfl
    have HE := Sp.hid he
    clear he
    have h0 : IsBuilder 52 5 w.heap.size w.heap.size (byteCells []) (w.alloc (.cells #[.pointer none, .slice none 0 0] 52)) := fresh_isBuilder 52 5 w
    have b0 : Below w.heap.size w (w.alloc (.cells #[.pointer none, .slice none 0 0] 52)) := (Below.refl _ w).alloc (Nat.le_refl _) _
    have HV := Sp.hid (validateWord_any ao n cap l w h)
    go_enter Try.func19, Try.ntmps19
    go_wp2_with fail
    refine HV.out.mono ?_
    rintro e w' ⟨rfl, rfl⟩
    go_wp2_with fail
    go_loopw [7, 15] (fun _ i wr => ∃ k : Nat, k ≤ n ∧ i = .int .i64 k ∧ IsBuilder 52 5 w.heap.size w.heap.size (byteCells (Sp.written (l.take k))) wr ∧ Below w.heap.size w wr) (fun _ i _ => n - (intOf i).toNat)
    case atStart => exact ⟨0, Nat.zero_le _, rfl, h0, b0⟩
    case round =>
      obtain ⟨k, hk, rfl, hB, hbel⟩ := hrel
      have hrow := h.below hbel
      have hwl : (Sp.written (l.take k)).length ≤ 60 * 18 := by
        have h1 := Sp.written_le (l.take k) (fun s hs => Hsm.out s (List.mem_of_mem_take hs))
        have h2 : (l.take k).length ≤ 60 := by simp; omega
        have h3 := Nat.mul_le_mul_right 18 h2
        omega
      by_cases hlt : k < n
      · obtain ⟨b, off, s, rfl, hc, hs, hk?, ht⟩ := hrow.at hlt
        have hs16 : s.size ≤ 16 := Hsm.out s (List.mem_of_getElem? hk?)
        by_cases h1 : s.size = 1
        · have hb1 : ((s.size : Int) == 1) = true := by rw [h1]; rfl
          have hw1 := Sp.hid (show Sp.written (l.take (k + 1)) = Sp.written (l.take k) ++ s.data.toList by rw [ht, Sp.written_snoc, Sp.put_one h1])
          clear h1 hk? ht
          go_wp2_with fail
          refine (writeString_any w.heap.size w.heap.size _ s _ hB (by rw [byteCells_length]; omega) hbel.size).mono ?_
          rintro e w1 ⟨rfl, hB1, hbel1⟩
          have hB1' := Sp.isBuilder_put (m := Sp.written (l.take (k + 1))) hB1 hw1.out
          have hbel1' := hbel.trans hbel1
          clear hB1 hbel1
          go_wp2
          go_roundw
          case rel => exact ⟨k + 1, by omega, by go_num, hB1', hbel1'⟩
          case measure => simp [intOf]; omega
        · have hb1 : ((s.size : Int) == 1) = false := by simp; omega
          have hw1 := Sp.hid (show Sp.written (l.take (k + 1)) = Sp.written (l.take k) ++ (60 :: (s.data.toList ++ [62])) by rw [ht, Sp.written_snoc, Sp.put_more h1])
          clear h1 hk? ht
          obtain ⟨t, ht'⟩ : ∃ t : ByteArray, (⟨#[60]⟩ : ByteArray) ++ s ++ ⟨#[62]⟩ = t := ⟨_, rfl⟩
          have td := Sp.hid (show t.data.toList = 60 :: (s.data.toList ++ [62]) by rw [← ht']; exact Sp.wrap_data s)
          have tz : t.size = s.size + 2 := by rw [← ht']; exact Sp.wrap_size s
          have tz' : t.size ≤ 18 := by omega
          have Ht := Sp.hid ht'
          clear tz ht'
          go_wp2_with fail
          rw [Ht.out]
          refine (writeString_any w.heap.size w.heap.size _ t _ hB (by rw [byteCells_length]; omega) hbel.size).mono ?_
          rintro e w1 ⟨rfl, hB1, hbel1⟩
          have hB1' := Sp.isBuilder_put (m := Sp.written (l.take (k + 1))) hB1 (by rw [td.out, hw1.out])
          have hbel1' := hbel.trans hbel1
          clear hB1 hbel1
          go_wp2
          go_roundw
          case rel => exact ⟨k + 1, by omega, by go_num, hB1', hbel1'⟩
          case measure => simp [intOf]; omega
      · have hk' : l.take k = l := List.take_of_length_le (by rw [h.1]; omega)
        rw [hk'] at hB hwl
        clear hk'
        by_cases h4 : 400 < (Sp.written l).length
        · have hf := Sp.hid (show Sp.textOf l = ([], 3) by rw [hft.out, if_pos h4])
          go_wp2_with fail
          refine (builderLen_any w.heap.size w.heap.size _ _ hB).mono ?_
          rintro e w1 ⟨rfl, rfl⟩
          rw [byteCells_length]
          go_wp2
          go_ret2
          exact ⟨by rw [hf.out]; rfl, hbel⟩
        · have hf := Sp.hid (show Sp.textOf l = (Sp.written l, 0) by rw [hft.out, if_neg h4])
          go_wp2_with fail
          refine (builderLen_any w.heap.size w.heap.size _ _ hB).mono ?_
          rintro e w1 ⟨rfl, rfl⟩
          rw [byteCells_length]
          go_wp2_with fail
          refine (Try.Builder_String_any w.heap.size w.heap.size _ _ hB hbel.size).mono ?_
          rintro e w1 ⟨rfl, hbel1⟩
          have hbel1' := hbel.trans hbel1
          clear hbel1
          go_wp2
          go_ret2
          exact ⟨by rw [hf.out]; rfl, hbel1'⟩
  · have hft := Sp.hid (show Sp.textOf l = ([], Sp.errWord l) by unfold Sp.textOf; rw [if_neg he])
    have hb0 : (Sp.errWord l != 0) = true := by simpa using he
    have HV := Sp.hid (validateWord_any ao n cap l w h)
    clear he
    go_enter Try.func19, Try.ntmps19
    go_wp2_with fail
    refine HV.out.mono ?_
    rintro e w' ⟨rfl, rfl⟩
    go_wp2
    go_ret2
    exact ⟨by rw [hft.out]; rfl, Below.refl _ _⟩

theorem known_row (w : World) : Sp.Row (w.alloc (.cells #[.string ⟨#[99]⟩, .string ⟨#[97]⟩, .string ⟨#[116]⟩, .string ⟨#[43, 80, 108]⟩] 9)) (some ⟨w.heap.size, 0, none⟩) 4 [⟨#[99]⟩, ⟨#[97]⟩, ⟨#[116]⟩, ⟨#[43, 80, 108]⟩] := by
  refine ⟨rfl, by decide, fun _ => ⟨_, _, rfl, fun i hi => ?_⟩, by decide⟩
  match i, hi with
  | 0, _ => simp
  | 1, _ => simp
  | 2, _ => simp
  | 3, _ => simp

theorem known_text : Sp.textOf [⟨#[99]⟩, ⟨#[97]⟩, ⟨#[116]⟩, ⟨#[43, 80, 108]⟩] = ([99, 97, 116, 60, 43, 80, 108, 62], 0) := by decide +kernel

set_option maxHeartbeats 400000 in
theorem known_any (w : World) :
    Calls Try.prog 14 #[] w fun e w' => e = .returned (.bool true) ∧ Below w.heap.size w w' := by
  have HT := Sp.hid (text_any (some ⟨w.heap.size, 0, none⟩) 4 4 _ _ (known_row w))
  have b0 : Below w.heap.size w (w.alloc (.cells #[.string ⟨#[99]⟩, .string ⟨#[97]⟩, .string ⟨#[116]⟩, .string ⟨#[43, 80, 108]⟩] 9)) := (Below.refl _ w).alloc (Nat.le_refl _) _
  go_enter Try.func14, Try.ntmps14
  go_wp2_with fail
  refine HT.out.mono ?_
  rintro e w1 ⟨rfl, hb1⟩
  rw [known_text]
  have hb := b0.trans (hb1.mono (by simp))
  clear hb1
  go_wp2
  go_ret
  exact ⟨rfl, hb⟩

end Go.Proofs.Ytimjgjhdkinhoaa
