/-
  The walks of Text and Raw in the reference, and of Raw.
-/
import Derived.Test.YtimjgjhdkinhoaaWalkD
set_option linter.unusedVariables false
namespace Go.Proofs.Ytimjgjhdkinhoaa
open Go.RowKit

theorem Sp.mk_of {t : ByteArray} {x : List UInt8} (h : t.data.toList = x) : t = ⟨x.toArray⟩ := by
  subst h; cases t; simp
theorem Sp.size_of {t : ByteArray} {x : List UInt8} (h : t.data.toList = x) : t.size = x.length := by
  subst h; simp
theorem Sp.cat (a b : ByteArray) : (a ++ b).data.toList = a.data.toList ++ b.data.toList := by simp [ByteArray.data_append]

set_option maxHeartbeats 1000000 in
theorem refWritten_any (ao : Option Addr) (n cap : Nat) (l : List ByteArray) (w : World) (h : Sp.Row w ao n l) (hn : n ≤ 60) (hsm : ∀ s ∈ l, s.size ≤ 16) :
    Calls Try.prog 51 #[.slice ao n cap] w fun e w' => e = .returned (.string ⟨(Sp.written l).toArray⟩) ∧ w = w' := by
  have Hsm := Sp.hid hsm
  clear hsm
  go_enter Try.func51, Try.ntmps51
  go_wp2_with fail
  go_loop [3, 4] (fun s i => ∃ k : Nat, ∃ t : ByteArray, k ≤ n ∧ i = .int .i64 k ∧ s = .string t ∧ t.data.toList = Sp.written (l.take k)) (fun _ i => n - (intOf i).toNat)
  case atStart => exact ⟨0, ⟨#[]⟩, Nat.zero_le _, rfl, rfl, rfl⟩
  case round =>
    obtain ⟨k, t, hk, rfl, rfl, ht0⟩ := hrel
    have htz : t.size ≤ 1080 := by
      rw [Sp.size_of ht0]
      have h1 := Sp.written_le (l.take k) (fun s hs => Hsm.out s (List.mem_of_mem_take hs))
      have h2 : (l.take k).length ≤ 60 := by simp; omega
      have h3 := Nat.mul_le_mul_right 18 h2
      omega
    have Ht0 := Sp.hid ht0
    clear ht0
    by_cases hlt : k < n
    · obtain ⟨b, off, s, rfl, hc, hs, hk?, ht⟩ := h.at hlt
      have hs16 : s.size ≤ 16 := Hsm.out s (List.mem_of_getElem? hk?)
      by_cases h1 : s.size = 1
      · have hb1 : ((s.size : Int) == 1) = true := by rw [h1]; rfl
        have hw1 := Sp.hid (show (t ++ s).data.toList = Sp.written (l.take (k + 1)) by rw [ht, Sp.written_snoc, Sp.put_one h1, Sp.cat, Ht0.out])
        clear h1 hk? ht
        go_wp2
        go_round
        case rel => exact ⟨k + 1, _, by omega, by go_num, rfl, hw1.out⟩
        case measure => simp [intOf]; omega
      · have hb1 : ((s.size : Int) == 1) = false := by simp; omega
        have hw1 := Sp.hid (show (t ++ ((⟨#[60]⟩ : ByteArray) ++ s ++ ⟨#[62]⟩)).data.toList = Sp.written (l.take (k + 1)) by rw [ht, Sp.written_snoc, Sp.put_more h1, Sp.cat, Sp.wrap_data, Ht0.out])
        have tz : ((⟨#[60]⟩ : ByteArray) ++ s ++ ⟨#[62]⟩).size ≤ 18 := by rw [Sp.wrap_size]; omega
        clear h1 hk? ht
        go_wp2
        go_round
        case rel => exact ⟨k + 1, _, by omega, by go_num, rfl, hw1.out⟩
        case measure => simp [intOf]; omega
    · have hk' : l.take k = l := List.take_of_length_le (by rw [h.1]; omega)
      have hf := Sp.hid (Sp.mk_of (by rw [Ht0.out, hk'] : t.data.toList = Sp.written l))
      clear hk'
      go_wp2
      go_ret
      exact ⟨by rw [← hf.out]; rfl, rfl⟩

set_option maxHeartbeats 1000000 in
theorem refJoined_any (ao : Option Addr) (n cap : Nat) (l : List ByteArray) (w : World) (h : Sp.Row w ao n l) (hn : n ≤ 60) (hsm : ∀ s ∈ l, s.size ≤ 16) :
    Calls Try.prog 53 #[.slice ao n cap] w fun e w' => e = .returned (.string ⟨(Sp.joined l).toArray⟩) ∧ w = w' := by
  have Hsm := Sp.hid hsm
  clear hsm
  go_enter Try.func53, Try.ntmps53
  go_wp2_with fail
  go_loop [3, 4] (fun s i => ∃ k : Nat, ∃ t : ByteArray, k ≤ n ∧ i = .int .i64 k ∧ s = .string t ∧ t.data.toList = Sp.joined (l.take k)) (fun _ i => n - (intOf i).toNat)
  case atStart => exact ⟨0, ⟨#[]⟩, Nat.zero_le _, rfl, rfl, rfl⟩
  case round =>
    obtain ⟨k, t, hk, rfl, rfl, ht0⟩ := hrel
    have htz : t.size ≤ 960 := by
      rw [Sp.size_of ht0]
      have h1 := Sp.joined_le (l.take k) (fun s hs => Hsm.out s (List.mem_of_mem_take hs))
      have h2 : (l.take k).length ≤ 60 := by simp; omega
      have h3 := Nat.mul_le_mul_right 16 h2
      omega
    have Ht0 := Sp.hid ht0
    clear ht0
    by_cases hlt : k < n
    · obtain ⟨b, off, s, rfl, hc, hs, hk?, ht⟩ := h.at hlt
      have hs16 : s.size ≤ 16 := Hsm.out s (List.mem_of_getElem? hk?)
      have hw1 := Sp.hid (show (t ++ s).data.toList = Sp.joined (l.take (k + 1)) by rw [ht, Sp.joined_snoc, Sp.cat, Ht0.out])
      clear hk? ht
      go_wp2
      go_round
      case rel => exact ⟨k + 1, _, by omega, by go_num, rfl, hw1.out⟩
      case measure => simp [intOf]; omega
    · have hk' : l.take k = l := List.take_of_length_le (by rw [h.1]; omega)
      have hf := Sp.hid (Sp.mk_of (by rw [Ht0.out, hk'] : t.data.toList = Sp.joined l))
      clear hk'
      go_wp2
      go_ret
      exact ⟨by rw [← hf.out]; rfl, rfl⟩

set_option maxHeartbeats 400000 in
theorem refText_any (ao : Option Addr) (n cap : Nat) (l : List ByteArray) (w : World) (h : Sp.Row w ao n l) :
    Calls Try.prog 20 #[.slice ao n cap] w fun e w' => e = .returned (.tuple #[.string ⟨(Sp.textOf l).1.toArray⟩, .int .i64 (Sp.textOf l).2]) ∧ w = w' := by
  have HV := Sp.hid (refValidateWord_any ao n cap l w h)
  by_cases he : Sp.errWord l = 0
  · obtain ⟨hl60, hsm, _⟩ := Sp.word_small he
    have hn60 : n ≤ 60 := by have := h.1; omega
    have hft := Sp.hid (show Sp.textOf l = if 400 < (Sp.written l).length then ([], 3) else (Sp.written l, 0) by unfold Sp.textOf; rw [if_pos he])
    have HW := Sp.hid (refWritten_any ao n cap l w h hn60 hsm)
    have hb0 : (Sp.errWord l != 0) = false := by rw [he]; rfl
    have hlen : (Sp.written l).length ≤ 1080 := by
      have h1 := Sp.written_le l hsm
      have h3 := Nat.mul_le_mul_right 18 hl60
      omega
    clear he hl60 hsm
    obtain ⟨t, ht⟩ : ∃ t : ByteArray, t = ⟨(Sp.written l).toArray⟩ := ⟨_, rfl⟩
    have htz : t.size = (Sp.written l).length := by rw [ht]; exact List.size_toArray
    have Ht := Sp.hid ht
    clear ht
    by_cases h4 : 400 < (Sp.written l).length
    · have hf := Sp.hid (show Sp.textOf l = ([], 3) by rw [hft.out, if_pos h4])
      have hz4 : 400 < t.size := by omega
      have hz5 : t.size ≤ 1080 := by omega
      clear htz
      go_enter Try.func20, Try.ntmps20
      go_wp2_with fail
      refine HV.out.mono ?_
      rintro e w1 ⟨rfl, rfl⟩
      go_wp2_with fail
      refine HW.out.mono ?_
      rintro e w1 ⟨rfl, rfl⟩
      rw [← Ht.out]
      go_wp2
      go_ret2
      exact ⟨by rw [hf.out]; rfl, rfl⟩
    · have hf := Sp.hid (show Sp.textOf l = (Sp.written l, 0) by rw [hft.out, if_neg h4])
      have hz4 : t.size ≤ 400 := by omega
      clear htz
      go_enter Try.func20, Try.ntmps20
      go_wp2_with fail
      refine HV.out.mono ?_
      rintro e w1 ⟨rfl, rfl⟩
      go_wp2_with fail
      refine HW.out.mono ?_
      rintro e w1 ⟨rfl, rfl⟩
      rw [← Ht.out]
      go_wp2
      go_ret2
      exact ⟨by rw [hf.out, ← Ht.out]; rfl, rfl⟩
  · have hft := Sp.hid (show Sp.textOf l = ([], Sp.errWord l) by unfold Sp.textOf; rw [if_neg he])
    have hb0 : (Sp.errWord l != 0) = true := by simpa using he
    clear he
    go_enter Try.func20, Try.ntmps20
    go_wp2_with fail
    refine HV.out.mono ?_
    rintro e w' ⟨rfl, rfl⟩
    go_wp2
    go_ret2
    exact ⟨by rw [hft.out]; rfl, rfl⟩

set_option maxHeartbeats 400000 in
theorem refRaw_any (ao : Option Addr) (n cap : Nat) (l : List ByteArray) (w : World) (h : Sp.Row w ao n l) :
    Calls Try.prog 22 #[.slice ao n cap] w fun e w' => e = .returned (.tuple #[.string ⟨(Sp.rawOf l).1.toArray⟩, .int .i64 (Sp.rawOf l).2]) ∧ w = w' := by
  have HV := Sp.hid (refValidateWord_any ao n cap l w h)
  by_cases he : Sp.errWord l = 0
  · obtain ⟨hl60, hsm, _⟩ := Sp.word_small he
    have hn60 : n ≤ 60 := by have := h.1; omega
    have hft := Sp.hid (show Sp.rawOf l = (Sp.joined l, 0) by unfold Sp.rawOf; rw [if_pos he])
    have HW := Sp.hid (refJoined_any ao n cap l w h hn60 hsm)
    have hb0 : (Sp.errWord l != 0) = false := by rw [he]; rfl
    clear he hl60 hsm
    go_enter Try.func22, Try.ntmps22
    go_wp2_with fail
    refine HV.out.mono ?_
    rintro e w1 ⟨rfl, rfl⟩
    go_wp2_with fail
    refine HW.out.mono ?_
    rintro e w1 ⟨rfl, rfl⟩
    go_wp2
    go_ret2
    exact ⟨by rw [hft.out]; rfl, rfl⟩
  · have hft := Sp.hid (show Sp.rawOf l = ([], Sp.errWord l) by unfold Sp.rawOf; rw [if_neg he])
    have hb0 : (Sp.errWord l != 0) = true := by simpa using he
    clear he
    go_enter Try.func22, Try.ntmps22
    go_wp2_with fail
    refine HV.out.mono ?_
    rintro e w' ⟨rfl, rfl⟩
    go_wp2
    go_ret2
    exact ⟨by rw [hft.out]; rfl, rfl⟩

theorem Sp.join_none : ∀ (xs : List (List UInt8)), Lib.join xs [] = xs.flatten
  | [] => rfl
  | x :: r => by
    rw [Lib.join_cons]
    have : Lib.joinTail [] r = r.flatten := by simp [Lib.joinTail]
    rw [this]; simp
theorem Sp.join_joined (l : List ByteArray) : Lib.join (l.map (·.data.toList)) (⟨#[]⟩ : ByteArray).data.toList = Sp.joined l := by
  rw [show (⟨#[]⟩ : ByteArray).data.toList = [] from rfl, Sp.join_none]
  simp [Sp.joined, List.flatMap]

theorem join_any (ao : Option Addr) (n cap : Nat) (l : List ByteArray) (w : World) (h : Sp.Row w ao n l) (hcap : n ≤ cap) (hn : n ≤ 60) (hsm : ∀ s ∈ l, s.size ≤ 16) :
    Calls Try.prog 52 #[.slice ao n cap, .string ⟨#[]⟩] w fun e w' => e = .returned (.string ⟨(Sp.joined l).toArray⟩) ∧ Below w.heap.size w w' := by
  by_cases h0 : n = 0
  · subst h0
    have hl : l = [] := List.length_eq_zero_iff.1 h.1
    refine (Try.strings_Join_none ao cap ⟨#[]⟩ w).mono ?_
    rintro e w' ⟨rfl, rfl⟩
    exact ⟨by rw [hl]; rfl, Below.refl _ _⟩
  · obtain ⟨hl, _, hc, _⟩ := h
    obtain ⟨b, off, rfl, hcc⟩ := hc (by omega)
    have hcells : ∀ (j : Nat) x, l[j]? = some x → w.cell? ⟨b, off + j, none⟩ = some (.string x) := by
      intro j x hx
      have hj : j < l.length := by
        have := List.getElem?_eq_some_iff.1 hx
        exact this.1
      rw [hcc j (by omega)]
      simp [List.getD, hx]
    have hb : b < w.heap.size := World.block_lt_of_cell? w _ (hcc 0 (by omega))
    have hj := Sp.join_joined l
    have hle := Sp.joined_le l hsm
    have h3 : l.length * 16 ≤ 960 := by omega
    subst hl
    refine (Try.strings_Join b off cap l ⟨#[]⟩ w hcells hb (by omega) hcap (by rw [hj]; omega)).mono ?_
    rintro e w' ⟨rfl, hbel⟩
    exact ⟨by rw [hj], hbel⟩

set_option maxHeartbeats 400000 in
theorem raw_any (ao : Option Addr) (n cap : Nat) (l : List ByteArray) (w : World) (h : Sp.Row w ao n l) (hcap : n ≤ cap) :
    Calls Try.prog 21 #[.slice ao n cap] w fun e w' => e = .returned (.tuple #[.string ⟨(Sp.rawOf l).1.toArray⟩, .int .i64 (Sp.rawOf l).2]) ∧ Below w.heap.size w w' := by
  have HV := Sp.hid (validateWord_any ao n cap l w h)
  by_cases he : Sp.errWord l = 0
  · obtain ⟨hl60, hsm, _⟩ := Sp.word_small he
    have hn60 : n ≤ 60 := by have := h.1; omega
    have hft := Sp.hid (show Sp.rawOf l = (Sp.joined l, 0) by unfold Sp.rawOf; rw [if_pos he])
    have HW := Sp.hid (join_any ao n cap l w h hcap hn60 hsm)
    have hb0 : (Sp.errWord l != 0) = false := by rw [he]; rfl
    clear he hl60 hsm
    go_enter Try.func21, Try.ntmps21
    go_wp2_with fail
    refine HV.out.mono ?_
    rintro e w1 ⟨rfl, rfl⟩
    go_wp2_with fail
    refine HW.out.mono ?_
    rintro e w1 ⟨rfl, hbel⟩
    go_wp2
    go_ret2
    exact ⟨by rw [hft.out]; rfl, hbel⟩
  · have hft := Sp.hid (show Sp.rawOf l = ([], Sp.errWord l) by unfold Sp.rawOf; rw [if_neg he])
    have hb0 : (Sp.errWord l != 0) = true := by simpa using he
    clear he
    go_enter Try.func21, Try.ntmps21
    go_wp2_with fail
    refine HV.out.mono ?_
    rintro e w' ⟨rfl, rfl⟩
    go_wp2
    go_ret2
    exact ⟨by rw [hft.out]; rfl, Below.refl _ _⟩

end Go.Proofs.Ytimjgjhdkinhoaa
