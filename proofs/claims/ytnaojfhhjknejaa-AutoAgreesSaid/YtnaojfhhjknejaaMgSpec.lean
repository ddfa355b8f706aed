/-
  Plain functions on lists of bytes and lists of words that the walks speak of. Nothing of the program.
-/
import Derived.WalkKit
namespace Go.Proofs.Ytnaojfhhjknejaa
namespace Sp

theorem hid {p : Prop} (h : p) : RowKit.Hid p := h

/-- May the byte stand in a symbol? -/
def plainI (c : Int) : Bool := decide (33 ≤ c ∧ c ≤ 126 ∧ c ≠ 60 ∧ c ≠ 62)
/-- The same of all bytes of a list. -/
def allPlain (l : List UInt8) : Bool := l.all fun c => plainI c.toNat
/-- Is a text a symbol? -/
def isSym (s : ByteArray) : Bool := decide (1 ≤ s.size) && decide (s.size ≤ 16) && allPlain s.data.toList
def anyLong (l : List ByteArray) : Bool := l.any fun s => decide (16 < s.size)
def allSym (l : List ByteArray) : Bool := l.all isSym

theorem plain_yes {c : Int} (h1 : 33 ≤ c) (h2 : c ≤ 126) (h3 : c ≠ 60) (h4 : c ≠ 62) : plainI c = true := by
  simp [plainI, h1, h2, h3, h4]
theorem plain_no {c : Int} (h : ¬ (33 ≤ c ∧ c ≤ 126 ∧ c ≠ 60 ∧ c ≠ 62)) : plainI c = false := by
  simp only [plainI, decide_eq_false_iff_not]; exact h

theorem size_zero {s : ByteArray} (h : s.toList.isEmpty = true) : s.size = 0 := by
  have h1 : s = ByteArray.empty := by
    have := Go.decide_eq_emptyBytes s
    rw [h] at this
    simpa using this
  subst h1; rfl
theorem empty_of_size {s : ByteArray} (h : s.size = 0) : s.toList.isEmpty = true := by
  have h1 : s = ByteArray.empty := by
    cases s with | mk d => simp [ByteArray.size] at h; subst h; rfl
  have := Go.decide_eq_emptyBytes s
  rw [← this]; exact decide_eq_true h1
theorem not_empty_of_size {s : ByteArray} (h : s.size ≠ 0) : s.toList.isEmpty = false := by
  cases hb : s.toList.isEmpty with
  | false => rfl
  | true => exact absurd (size_zero hb) h

/-- The first k bytes. -/
theorem take_snoc (s : ByteArray) (k : Nat) (h : k < s.size) : s.data.toList.take (k + 1) = s.data.toList.take k ++ [s[k]] := by
  rw [List.take_succ_eq_append_getElem (by simpa using h)]; rfl
theorem allPlain_snoc (l : List UInt8) (c : UInt8) : allPlain (l ++ [c]) = (allPlain l && plainI c.toNat) := by
  simp [allPlain]
theorem allPlain_take_false (s : ByteArray) (k : Nat) (h : k < s.size) (hc : plainI (s[k].toNat : Int) = false) : allPlain s.data.toList = false := by
  have e : s.data.toList = s.data.toList.take k ++ ([s[k]] ++ s.data.toList.drop (k + 1)) := by
    rw [← List.append_assoc, ← take_snoc s k h, List.take_append_drop]
  rw [e]; simp [allPlain, hc]
theorem isSym_of (s : ByteArray) (h1 : 1 ≤ s.size) (h2 : s.size ≤ 16) : isSym s = allPlain s.data.toList := by
  simp [isSym, h1, h2]

/-- A slice value over 'ao' of n strings holds the list l in the world. -/
def Row (w : World) (ao : Option Addr) (n : Nat) (l : List ByteArray) : Prop :=
  l.length = n ∧ n ≤ maxLen ∧ (0 < n → ∃ b off, ao = some ⟨b, off, none⟩ ∧ ∀ i, i < n → w.cell? ⟨b, off + i, none⟩ = some (.string (l.getD i ByteArray.empty))) ∧ ∀ s ∈ l, s.size ≤ maxLen

theorem Row.le {w : World} {ao : Option Addr} {n : Nat} {l : List ByteArray} (h : Row w ao n l) : n ≤ 9223372036854775807 := by
  have := h.2.1; unfold maxLen at this; exact this

theorem Row.at {w : World} {ao : Option Addr} {n : Nat} {l : List ByteArray} (h : Row w ao n l) {k : Nat} (hk : k < n) :
    ∃ b off s, ao = some ⟨b, off, none⟩ ∧ w.cell? ⟨b, off + k, none⟩ = some (.string s) ∧ s.size ≤ maxLen ∧ l[k]? = some s ∧ l.take (k + 1) = l.take k ++ [s] := by
  obtain ⟨hl, _, hc, hs⟩ := h
  obtain ⟨b, off, rfl, hcc⟩ := hc (by omega)
  have hkl : k < l.length := by omega
  have e : l.getD k ByteArray.empty = l[k] := by simp [List.getD, hkl]
  refine ⟨b, off, l[k], rfl, by rw [hcc k hk, e], hs _ (List.getElem_mem hkl), by simp [hkl], ?_⟩
  rw [List.take_succ_eq_append_getElem hkl]

theorem Row.below {w w' : World} {ao : Option Addr} {n : Nat} {l : List ByteArray} (h : Row w ao n l) (hb : RowKit.Below w.heap.size w w') : Row w' ao n l := by
  obtain ⟨hl, hm, hc, hs⟩ := h
  refine ⟨hl, hm, fun hn => ?_, hs⟩
  obtain ⟨b, off, rfl, hcc⟩ := hc hn
  refine ⟨b, off, rfl, fun i hi => ?_⟩
  have := hcc i hi
  rw [hb.cell (World.block_lt_of_cell? w _ this)]
  exact this

theorem Row.at2 {w : World} {ao : Option Addr} {n : Nat} {l : List ByteArray} (h : Row w ao n l) {k : Nat} (h0 : 0 < k) (hk : k < n) :
    ∃ b off a s, ao = some ⟨b, off, none⟩ ∧ w.cell? ⟨b, off + (k - 1), none⟩ = some (.string a) ∧ w.cell? ⟨b, off + k, none⟩ = some (.string s) ∧ a.size ≤ maxLen ∧ s.size ≤ maxLen ∧ l[k]? = some s ∧
      l.take k = l.take (k - 1) ++ [a] ∧ l.take (k + 1) = l.take (k - 1) ++ [a, s] := by
  obtain ⟨b, off, s, rfl, c2, hs, hk?, ht⟩ := h.at hk
  obtain ⟨b', off', a, e, c1, ha, _, ht'⟩ := h.at (show k - 1 < n by omega)
  cases e
  have ht'' : l.take k = l.take (k - 1) ++ [a] := by rw [show k = (k - 1) + 1 by omega]; exact ht'
  exact ⟨b, off, a, s, rfl, c1, c2, ha, hs, hk?, ht'', by rw [ht, ht'', List.append_assoc]; rfl⟩

/-- One text before another one, by their bytes. -/
def less (a b : ByteArray) : Bool := Op.bytesLess a.toList b.toList
/-- Strictly ascending. -/
def isSet : List ByteArray → Bool
  | a :: b :: r => less a b && isSet (b :: r)
  | _ => true
theorem isSet_two (m : List ByteArray) (a b : ByteArray) (r : List ByteArray) : isSet (m ++ a :: b :: r) = (isSet (m ++ [a]) && less a b && isSet (b :: r)) := by
  induction m with
  | nil => simp [isSet]
  | cons x m ih =>
    cases m with
    | nil => simp [isSet, Bool.and_assoc]
    | cons y m =>
      simp only [List.cons_append, isSet] at ih ⊢
      rw [ih]; simp only [Bool.and_assoc]
theorem isSet_snoc (m : List ByteArray) (a b : ByteArray) : isSet (m ++ [a, b]) = (isSet (m ++ [a]) && less a b) := by
  rw [isSet_two]; simp [isSet]
theorem isSet_bad {l m : List ByteArray} {a b : ByteArray} {k : Nat} (h : l.take k = m ++ [a, b]) (hl : less a b = false) : isSet l = false := by
  have e : l = m ++ a :: b :: l.drop k := by
    have := List.take_append_drop k l
    rw [h] at this
    exact this.symm.trans (by simp)
  rw [e, isSet_two, hl]; simp
theorem isSet_short {l : List ByteArray} (h : l.length ≤ 1) : isSet l = true := by
  match l, h with
  | [], _ => rfl
  | [_], _ => rfl
theorem all_snoc {α : Type} (p : α → Bool) (l : List α) (x : α) : (l ++ [x]).all p = (l.all p && p x) := by simp

/-- A slice value over 'bo' of m slices of strings holds the lists ll in the world. -/
def Row2 (w : World) (bo : Option Addr) (m : Nat) (ll : List (List ByteArray)) : Prop :=
  ll.length = m ∧ m ≤ maxLen ∧ (0 < m → ∃ b off, bo = some ⟨b, off, none⟩ ∧ ∀ i l, ll[i]? = some l → ∃ ao n cap, w.cell? ⟨b, off + i, none⟩ = some (.slice ao n cap) ∧ Row w ao n l)

theorem Row2.at {w : World} {bo : Option Addr} {m : Nat} {ll : List (List ByteArray)} (h : Row2 w bo m ll) {k : Nat} (hk : k < m) :
    ∃ b off ao n cap l, bo = some ⟨b, off, none⟩ ∧ w.cell? ⟨b, off + k, none⟩ = some (.slice ao n cap) ∧ Row w ao n l ∧ ll[k]? = some l ∧ ll.take (k + 1) = ll.take k ++ [l] := by
  obtain ⟨hl, _, hc⟩ := h
  obtain ⟨b, off, rfl, hcc⟩ := hc (by omega)
  have hkl : k < ll.length := by omega
  obtain ⟨ao, n, cap, h1, h2⟩ := hcc k ll[k] (by simp [hkl])
  exact ⟨b, off, ao, n, cap, ll[k], rfl, h1, h2, by simp [hkl], List.take_succ_eq_append_getElem hkl⟩

theorem Row2.below {w w' : World} {bo : Option Addr} {m : Nat} {ll : List (List ByteArray)} (h : Row2 w bo m ll) (hb : RowKit.Below w.heap.size w w') : Row2 w' bo m ll := by
  obtain ⟨hl, hm, hc⟩ := h
  refine ⟨hl, hm, fun hn => ?_⟩
  obtain ⟨b, off, rfl, hcc⟩ := hc hn
  refine ⟨b, off, rfl, fun i l hi => ?_⟩
  obtain ⟨ao, n, cap, h1, h2⟩ := hcc i l hi
  exact ⟨ao, n, cap, by rw [hb.cell (World.block_lt_of_cell? w _ h1)]; exact h1, h2.below hb⟩

/-- What the statements leave out: far too many texts, or bytes. -/
def long (l : List ByteArray) : Bool := decide (4000 < l.length) || l.any fun s => decide (4000 < s.size)
def bulk (l : List ByteArray) : Nat := (l.map fun s => 1 + s.size).sum
def bulks (ll : List (List ByteArray)) : Nat := (ll.map bulk).sum
def over (ll : List (List ByteArray)) : Bool := ll.any long || decide (16000 < bulks ll)
theorem bulk_snoc (l : List ByteArray) (s : ByteArray) : bulk (l ++ [s]) = bulk l + (1 + s.size) := by simp [bulk]
theorem bulks_snoc (ll : List (List ByteArray)) (l : List ByteArray) : bulks (ll ++ [l]) = bulks ll + bulk l := by simp [bulks]
theorem bulk_le : ∀ (l : List ByteArray), (l.any fun s => decide (4000 < s.size)) = false → bulk l ≤ l.length * 4001
  | [], _ => by simp [bulk]
  | s :: l, h => by
    simp only [List.any_cons, Bool.or_eq_false_iff, decide_eq_false_iff_not] at h
    have := bulk_le l h.2
    have e : bulk (s :: l) = 1 + s.size + bulk l := by simp [bulk]
    rw [e, List.length_cons, Nat.add_mul]; omega
theorem bulks_le : ∀ (ll : List (List ByteArray)), ll.any long = false → bulks ll ≤ ll.length * 16004000
  | [], _ => by simp [bulks]
  | l :: ll, h => by
    simp only [List.any_cons, Bool.or_eq_false_iff] at h
    have := bulks_le ll h.2
    have h1 := h.1
    simp only [long, Bool.or_eq_false_iff, decide_eq_false_iff_not] at h1
    have h2 := bulk_le l h1.2
    have h3 : l.length * 4001 ≤ 4000 * 4001 := Nat.mul_le_mul_right _ (by omega)
    have e : bulks (l :: ll) = bulk l + bulks ll := by simp [bulks]
    rw [e, List.length_cons, Nat.add_mul]; omega

/-- The error of an alphabet, of a word. -/
def errAlpha (l : List ByteArray) : Int := if 40 < l.length ∨ anyLong l = true then 3 else if allSym l = true ∧ isSet l = true then 0 else 1
def errWord (l : List ByteArray) : Int := if 60 < l.length ∨ anyLong l = true then 3 else if allSym l = true then 0 else 1

theorem any_snoc {α : Type} (p : α → Bool) (l : List α) (x : α) : (l ++ [x]).any p = (l.any p || p x) := by simp
theorem any_true_of {α : Type} {p : α → Bool} {l : List α} {k : Nat} {x : α} (h : l[k]? = some x) (hp : p x = true) : l.any p = true :=
  List.any_eq_true.2 ⟨x, List.mem_of_getElem? h, hp⟩
theorem all_false_of {α : Type} {p : α → Bool} {l : List α} {k : Nat} {x : α} (h : l[k]? = some x) (hp : p x = false) : l.all p = false := by
  rw [List.all_eq_false]; exact ⟨x, List.mem_of_getElem? h, by simp [hp]⟩

/-- How a symbol is written; the text of a word; the raw text. -/
def put (s : ByteArray) : List UInt8 := if s.size = 1 then s.data.toList else 60 :: (s.data.toList ++ [62])
def written (l : List ByteArray) : List UInt8 := l.flatMap put
def joined (l : List ByteArray) : List UInt8 := l.flatMap fun s => s.data.toList
theorem written_snoc (l : List ByteArray) (s : ByteArray) : written (l ++ [s]) = written l ++ put s := by simp [written]
theorem joined_snoc (l : List ByteArray) (s : ByteArray) : joined (l ++ [s]) = joined l ++ s.data.toList := by simp [joined]
theorem put_one {s : ByteArray} (h : s.size = 1) : put s = s.data.toList := if_pos h
theorem put_more {s : ByteArray} (h : s.size ≠ 1) : put s = 60 :: (s.data.toList ++ [62]) := if_neg h
theorem put_le (s : ByteArray) : (put s).length ≤ s.size + 2 := by
  unfold put
  by_cases h : s.size = 1
  · rw [if_pos h]; have : s.data.toList.length = s.size := by simp
    omega
  · rw [if_neg h]; simp
theorem small_of_anyLong {l : List ByteArray} (h : anyLong l = false) {s : ByteArray} (hs : s ∈ l) : s.size ≤ 16 := by
  unfold anyLong at h
  rw [List.any_eq_false] at h
  have := h s hs
  simpa using this
theorem written_le : ∀ (l : List ByteArray), (∀ s ∈ l, s.size ≤ 16) → (written l).length ≤ l.length * 18
  | [], _ => by simp [written]
  | s :: l, h => by
    have h1 := written_le l (fun x hx => h x (List.mem_cons_of_mem _ hx))
    have h2 := put_le s
    have h3 := h s (List.mem_cons_self)
    have e : written (s :: l) = put s ++ written l := by simp [written]
    rw [e, List.length_append, List.length_cons, Nat.add_mul]; omega
theorem joined_le : ∀ (l : List ByteArray), (∀ s ∈ l, s.size ≤ 16) → (joined l).length ≤ l.length * 16
  | [], _ => by simp [joined]
  | s :: l, h => by
    have h1 := joined_le l (fun x hx => h x (List.mem_cons_of_mem _ hx))
    have h3 := h s (List.mem_cons_self)
    have e : joined (s :: l) = s.data.toList ++ joined l := by simp [joined]
    have h2 : s.data.toList.length = s.size := by simp
    rw [e, List.length_append, List.length_cons, Nat.add_mul]; omega
theorem word_small {l : List ByteArray} (h : errWord l = 0) : l.length ≤ 60 ∧ (∀ s ∈ l, s.size ≤ 16) ∧ allSym l = true := by
  unfold errWord at h
  by_cases c : 60 < l.length ∨ anyLong l = true
  · rw [if_pos c] at h; simp at h
  · rw [if_neg c] at h
    have c1 : anyLong l = false := by
      cases hh : anyLong l with
      | false => rfl
      | true => exact absurd (Or.inr hh) c
    refine ⟨by omega, fun s hs => small_of_anyLong c1 hs, ?_⟩
    cases hh : allSym l with
    | true => rfl
    | false => rw [hh] at h; simp at h
theorem errWord_cases (l : List ByteArray) : errWord l = 0 ∨ errWord l = 1 ∨ errWord l = 3 := by
  unfold errWord; split
  · exact Or.inr (Or.inr rfl)
  · split
    · exact Or.inl rfl
    · exact Or.inr (Or.inl rfl)
/-- The text of a word and the error. -/
def textOf (l : List ByteArray) : List UInt8 × Int := if errWord l = 0 then (if 400 < (written l).length then ([], 3) else (written l, 0)) else ([], errWord l)
def rawOf (l : List ByteArray) : List UInt8 × Int := if errWord l = 0 then (joined l, 0) else ([], errWord l)

end Sp
end Go.Proofs.Ytnaojfhhjknejaa
