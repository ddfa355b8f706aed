/-
  SymsCuts: its walk.
-/
import Derived.Test.YtimjgjhdkinhoaaLawV
import Derived.Test.YtimjgjhdkinhoaaWalkE
import Derived.Test.YtimjgjhdkinhoaaWalkK
import Derived.Test.YtimjgjhdkinhoaaWalkL
import Derived.Test.YtimjgjhdkinhoaaSpecD
set_option linter.unusedVariables false
namespace Go.Proofs.Ytimjgjhdkinhoaa
open Go.RowKit

theorem Sp.isF_of {l sig : List ByteArray} (h : ∀ x ∈ l, x ∈ sig) : Sp.isF l sig = true := by
  unfold Sp.isF
  rw [List.all_eq_true]
  intro x hx
  unfold Sp.inL
  rw [List.any_eq_true]
  exact ⟨x, h x hx, by simp⟩
/-- What Split, Cuts, Raw and Is give of a text that is cut. -/
theorem splitGood (s : ByteArray) (hs : s.size ≤ maxLen) (ao : Option Addr) (n cap : Nat) (sig : List ByteArray) (xs : List ByteArray) (w : World) (h : Sp.Row w ao n sig) (hx : Sp.splitOf s.data.toList sig = (xs, 0, 0)) :
    Calls Try.prog 27 #[.string s, .slice ao n cap] w fun e w' => ∃ a1 n1 c1, e = .returned (.tuple #[.slice a1 n1 c1, .int .i64 0, .int .i64 0]) ∧ Sp.Row w' a1 n1 xs ∧ n1 ≤ c1 ∧ Below w.heap.size w w' := by
  refine (split_any s hs ao n cap sig w h).mono ?_
  rintro e w' ⟨v, rfl, a1, n1, c1, rfl, hrow, hcap, hb⟩
  rw [hx] at hrow
  rw [hx]
  exact ⟨a1, n1, c1, rfl, hrow, hcap, hb⟩
theorem splitBad (s : ByteArray) (hs : s.size ≤ maxLen) (ao : Option Addr) (n cap : Nat) (sig : List ByteArray) (w : World) (h : Sp.Row w ao n sig) :
    Calls Try.prog 27 #[.string s, .slice ao n cap] w fun e w' => ∃ v k, e = .returned (.tuple #[v, .int .i64 k, .int .i64 (Sp.splitOf s.data.toList sig).2.2]) ∧ Below w.heap.size w w' := by
  refine (split_any s hs ao n cap sig w h).mono ?_
  rintro e w' ⟨v, rfl, a1, n1, c1, rfl, hrow, hcap, hb⟩
  exact ⟨_, _, rfl, hb⟩
theorem rawGood (ao : Option Addr) (n cap : Nat) (l : List ByteArray) (t : ByteArray) (w : World) (h : Sp.Row w ao n l) (hcap : n ≤ cap) (ht : Sp.rawOf l = (t.data.toList, 0)) :
    Calls Try.prog 21 #[.slice ao n cap] w fun e w' => e = .returned (.tuple #[.string t, .int .i64 0]) ∧ Below w.heap.size w w' := by
  refine (raw_any ao n cap l w h hcap).mono ?_
  rintro e w' ⟨rfl, hb⟩
  rw [ht]
  exact ⟨by rw [show (⟨t.data.toList.toArray⟩ : ByteArray) = t from (Sp.mk_eq rfl).symm], hb⟩

set_option maxHeartbeats 4000000 in
set_option maxRecDepth 100000 in
theorem symsCuts_any (s : ByteArray) (hs : s.size ≤ maxLen) (ao : Option Addr) (n cap : Nat) (l : List ByteArray) (w : World) (hrow0 : Sp.Row w ao n l) :
    Calls Try.prog 8 #[.string s, .slice ao n cap] w fun e w' => e = .returned (.bool true) ∧ Below w.heap.size w w' := by
  have hs' := hs
  unfold maxLen at hs'
  have hn := hrow0.le
  by_cases h4 : 4000 < s.size
  · go_enter Try.func8, Try.ntmps8
    go_wp2_with fail
    refine (known_any _).mono ?_
    rintro e w1 ⟨rfl, hb⟩
    go_wp2
    go_ret
    exact ⟨rfl, hb⟩
  · have b0 : Below w.heap.size w (w.alloc (.cells #[.slice ao n cap] 22)) := (Below.refl _ w).alloc (Nat.le_refl _) _
    have HO := Sp.hid (over_any (some ⟨w.heap.size, 0, none⟩) 1 1 [l] _ (row2_one ao n cap l w hrow0) (by omega))
    have hrow := hrow0.below b0
    cases ho : Sp.over [l] with
    | true =>
      have Ho := Sp.hid ho
      clear ho
      go_enter Try.func8, Try.ntmps8
      go_wp2_with fail
      refine HO.out.mono ?_
      rintro e w1 ⟨rfl, rfl⟩
      rw [Ho.out]
      go_wp2_with fail
      refine (known_any _).mono ?_
      rintro e w1 ⟨rfl, hb⟩
      have hb' := b0.trans (hb.mono (by simp))
      clear hb
      go_wp2
      go_ret
      exact ⟨rfl, hb'⟩
    | false =>
      have Ho := Sp.hid ho
      clear ho
      have HC := Sp.hid (fun w1 h1 => cuts_any s hs ao n cap l w1 h1)
      have HSing := Sp.hid (Sp.cuts_single (l := s.data.toList) (sig := l))
      obtain ⟨cc, hcc⟩ : ∃ cc, (Sp.cutsOf s.data.toList l).1 = cc := ⟨_, rfl⟩
      obtain ⟨ec, hec⟩ : ∃ ec, (Sp.cutsOf s.data.toList l).2 = ec := ⟨_, rfl⟩
      by_cases her : (Sp.splitOf s.data.toList l).2.2 = 0
      · obtain ⟨hraw, hmem, hc0, hc1⟩ := Sp.split_raw her
        obtain ⟨_, _, xs, _, _, hsx⟩ := Sp.splitOf_err her
        rw [hsx] at hraw hmem
        rw [her] at HSing
        have HS := Sp.hid (splitGood s hs ao n cap l xs _ hrow hsx)
        have HR := Sp.hid (fun a1 n1 c1 w1 h1 h2 => rawGood a1 n1 c1 xs s w1 h1 h2 hraw)
        have HI := Sp.hid (show Sp.isF xs l = true from Sp.isF_of hmem)
        rw [hec] at hc0 HC HSing
        rw [hcc] at hc1 HC HSing
        subst hc0
        have HSing2 := Sp.hid (show (∀ x ∈ l, x.size = 1) → cc = 1 from fun hh => by
          rcases HSing.out rfl hh with h | ⟨_, h⟩
          · exact h
          · exact absurd h (by decide))
        clear hraw hmem hsx hcc hec her HSing
        go_enter Try.func8, Try.ntmps8
        go_wp2_with fail
        refine HO.out.mono ?_
        rintro e w1 ⟨rfl, rfl⟩
        rw [Ho.out]
        go_wp2_with fail
        refine HS.out.mono ?_
        rintro e w1 ⟨a1, n1, c1, rfl, hr1, hcap1, hb⟩
        have b1 := b0.trans (hb.mono b0.size)
        have hrow1 := hrow0.below b1
        clear hb hrow
        go_wp2_with fail
        refine (HC.out _ hrow1).mono ?_
        rintro e w2 ⟨rfl, hb⟩
        have b2 := b1.trans (hb.mono b1.size)
        have hrow2 := hrow0.below b2
        have hr2 := hr1.below hb
        clear hb hrow1 hr1
        have HR3 := Sp.hid (HR.out a1 n1 c1 _ hr2 hcap1)
        go_wp2_with fail
        refine HR3.out.mono ?_
        rintro e w3 ⟨rfl, hb⟩
        have b3 := b2.trans (hb.mono b2.size)
        have hrow3 := hrow0.below b3
        have hr3 := hr2.below hb
        clear hb hrow2 hr2
        go_wp2_with fail
        refine (is_any a1 n1 c1 xs ao n cap l _ hr3 hrow3).mono ?_
        rintro e w4 ⟨rfl, hb⟩
        rw [HI.out]
        have b4 := b3.trans (hb.mono b3.size)
        have hrow4 := hrow0.below b4
        clear hb hrow3 hr3 b0 b1 b2 b3 hrow0
        go_wp2_with fail
        go_loop [12, 13] (fun o i => ∃ k : Nat, ∃ b : Bool, k ≤ n ∧ i = .int .i64 k ∧ o = .bool b ∧ b = ((l.take k).all fun x => decide (x.size = 1))) (fun _ i => n - (intOf i).toNat)
        case atStart => exact ⟨0, true, Nat.zero_le _, rfl, rfl, rfl⟩
        case round =>
          obtain ⟨k, b, hk, rfl, rfl, hball⟩ := hrel
          have Hball := Sp.hid hball
          clear hball
          cases b with
          | false =>
            by_cases hlt : k < n
            all_goals
              go_wp2_with fail
              refine (known_any _).mono ?_
              rintro e w5 ⟨rfl, hb⟩
              have b5 := b4.trans (hb.mono b4.size)
              clear hb
              go_wp2
              go_ret
              exact ⟨rfl, b5⟩
          | true =>
            by_cases hlt : k < n
            · obtain ⟨b2, off2, x, rfl, hc, hsx, hk?, ht⟩ := hrow4.at hlt
              unfold maxLen at hsx
              have Ht := Sp.hid ht
              clear ht hk?
              by_cases hx1 : x.size = 1
              · have hx2 : ((x.size : Int) == 1) = true := by rw [hx1]; rfl
                have hb9 := Sp.hid (show true = ((l.take (k + 1)).all fun x => decide (x.size = 1)) by rw [Ht.out, Sp.all_snoc, ← Hball.out]; simp [hx1])
                clear hx1
                go_wp2
                go_round
                case rel => exact ⟨k + 1, true, by omega, by go_num, rfl, hb9.out⟩
                case measure => simp [intOf]; omega
              · have hx2 : ((x.size : Int) == 1) = false := by simp; omega
                have hb9 := Sp.hid (show false = ((l.take (k + 1)).all fun x => decide (x.size = 1)) by rw [Ht.out, Sp.all_snoc, ← Hball.out]; simp [hx1])
                clear hx1
                go_wp2
                go_round
                case rel => exact ⟨k + 1, false, by omega, by go_num, rfl, hb9.out⟩
                case measure => simp [intOf]; omega
            · have hk' : l.take k = l := List.take_of_length_le (by rw [hrow4.1]; omega)
              have hall : ∀ x ∈ l, x.size = 1 := by
                have h := Hball.out
                rw [hk'] at h
                intro x hx
                have := List.all_eq_true.1 h.symm x hx
                simpa using this
              clear hk'
              have hcc1 := HSing2.out hall
              subst hcc1
              clear hall
              go_wp2_with fail
              refine (known_any _).mono ?_
              rintro e w5 ⟨rfl, hb⟩
              have b5 := b4.trans (hb.mono b4.size)
              clear hb
              go_wp2
              go_ret
              exact ⟨rfl, b5⟩
      · have herb : ((Sp.splitOf s.data.toList l).2.2 == 0) = false := by simpa using her
        have HS := Sp.hid (splitBad s hs ao n cap l _ hrow)
        obtain ⟨er, here⟩ : ∃ er, (Sp.splitOf s.data.toList l).2.2 = er := ⟨_, rfl⟩
        rw [here] at herb HS HSing
        rw [hec, hcc] at HC HSing
        clear hcc her here
        by_cases hec0 : ec = 0
        · subst hec0
          have HSing2 := Sp.hid (fun hh => HSing.out rfl hh)
          clear HSing hec
          go_enter Try.func8, Try.ntmps8
          go_wp2_with fail
          refine HO.out.mono ?_
          rintro e w1 ⟨rfl, rfl⟩
          rw [Ho.out]
          go_wp2_with fail
          refine HS.out.mono ?_
          rintro e w1 ⟨v1, k1, rfl, hb⟩
          have b1 := b0.trans (hb.mono b0.size)
          have hrow1 := hrow0.below b1
          clear hb hrow
          go_wp2_with fail
          refine (HC.out _ hrow1).mono ?_
          rintro e w4 ⟨rfl, hb⟩
          have b4 := b1.trans (hb.mono b1.size)
          have hrow4 := hrow0.below b4
          clear hb hrow1 b0 b1 hrow0
          go_wp2_with fail
          go_loop [12, 13] (fun o i => ∃ k : Nat, ∃ b : Bool, k ≤ n ∧ i = .int .i64 k ∧ o = .bool b ∧ b = ((l.take k).all fun x => decide (x.size = 1))) (fun _ i => n - (intOf i).toNat)
          case atStart => exact ⟨0, true, Nat.zero_le _, rfl, rfl, rfl⟩
          case round =>
            obtain ⟨k, b, hk, rfl, rfl, hball⟩ := hrel
            have Hball := Sp.hid hball
            clear hball
            cases b with
            | false =>
              by_cases hlt : k < n
              all_goals
                go_wp2_with fail
                refine (known_any _).mono ?_
                rintro e w5 ⟨rfl, hb⟩
                have b5 := b4.trans (hb.mono b4.size)
                clear hb
                go_wp2
                go_ret
                exact ⟨rfl, b5⟩
            | true =>
              by_cases hlt : k < n
              · obtain ⟨b2, off2, x, rfl, hc, hsx, hk?, ht⟩ := hrow4.at hlt
                unfold maxLen at hsx
                have Ht := Sp.hid ht
                clear ht hk?
                by_cases hx1 : x.size = 1
                · have hx2 : ((x.size : Int) == 1) = true := by rw [hx1]; rfl
                  have hb9 := Sp.hid (show true = ((l.take (k + 1)).all fun x => decide (x.size = 1)) by rw [Ht.out, Sp.all_snoc, ← Hball.out]; simp [hx1])
                  clear hx1
                  go_wp2
                  go_round
                  case rel => exact ⟨k + 1, true, by omega, by go_num, rfl, hb9.out⟩
                  case measure => simp [intOf]; omega
                · have hx2 : ((x.size : Int) == 1) = false := by simp; omega
                  have hb9 := Sp.hid (show false = ((l.take (k + 1)).all fun x => decide (x.size = 1)) by rw [Ht.out, Sp.all_snoc, ← Hball.out]; simp [hx1])
                  clear hx1
                  go_wp2
                  go_round
                  case rel => exact ⟨k + 1, false, by omega, by go_num, rfl, hb9.out⟩
                  case measure => simp [intOf]; omega
              · have hk' : l.take k = l := List.take_of_length_le (by rw [hrow4.1]; omega)
                have hall : ∀ x ∈ l, x.size = 1 := by
                  have h := Hball.out
                  rw [hk'] at h
                  intro x hx
                  have := List.all_eq_true.1 h.symm x hx
                  simpa using this
                clear hk'
                rcases HSing2.out hall with hcc1 | ⟨hcc1, he4⟩
                · subst hcc1
                  clear hall
                  go_wp2_with fail
                  refine (known_any _).mono ?_
                  rintro e w5 ⟨rfl, hb⟩
                  have b5 := b4.trans (hb.mono b4.size)
                  clear hb
                  go_wp2
                  go_ret
                  exact ⟨rfl, b5⟩
                · subst hcc1 he4
                  clear hall
                  go_wp2_with fail
                  refine (known_any _).mono ?_
                  rintro e w5 ⟨rfl, hb⟩
                  have b5 := b4.trans (hb.mono b4.size)
                  clear hb
                  go_wp2
                  go_ret
                  exact ⟨rfl, b5⟩
        · have hecb : (ec == 0) = false := by simpa using hec0
          clear hec0 hec HSing
          go_enter Try.func8, Try.ntmps8
          go_wp2_with fail
          refine HO.out.mono ?_
          rintro e w1 ⟨rfl, rfl⟩
          rw [Ho.out]
          go_wp2_with fail
          refine HS.out.mono ?_
          rintro e w1 ⟨v1, k1, rfl, hb⟩
          have b1 := b0.trans (hb.mono b0.size)
          have hrow1 := hrow0.below b1
          clear hb hrow
          go_wp2_with fail
          refine (HC.out _ hrow1).mono ?_
          rintro e w4 ⟨rfl, hb⟩
          have b4 := b1.trans (hb.mono b1.size)
          clear hb hrow1 b0 b1
          go_wp2_with fail
          go_loop [12, 13] (fun o i => o = .bool false ∧ i = .int .i64 0) (fun _ _ => 0)
          case atStart => exact ⟨rfl, rfl⟩
          case round =>
            obtain ⟨rfl, rfl⟩ := hrel
            by_cases hn0 : 0 < n
            all_goals
              go_wp2_with fail
              refine (known_any _).mono ?_
              rintro e w5 ⟨rfl, hb⟩
              have b5 := b4.trans (hb.mono b4.size)
              clear hb
              go_wp2
              go_ret
              exact ⟨rfl, b5⟩

end Go.Proofs.Ytimjgjhdkinhoaa
