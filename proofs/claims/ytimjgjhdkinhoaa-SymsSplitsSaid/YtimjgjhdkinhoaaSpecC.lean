/-
  In how many ways a text is cut, plainly; and a row of integers in memory.
-/
import Derived.Test.YtimjgjhdkinhoaaSpecS
import Derived.OwnWalk
set_option linter.unusedVariables false
namespace Go.Proofs.Ytimjgjhdkinhoaa
namespace Sp

def cap1 (a : Int) : Int := if a ≤ 1000000000 then a else 1000000000
def cut1 (l : List UInt8) (t : List Int) (acc : Int) (x : ByteArray) : Int := if pre l x = true then cap1 (acc + t.getD (x.size - 1) 0) else acc
/-- Of each end of a text in how many ways it is cut: the whole first. -/
def ways (sig : List ByteArray) : List UInt8 → List Int
  | [] => [1]
  | c :: r => sig.foldl (cut1 (c :: r) (ways sig r)) 0 :: ways sig r
def wayAt (sig : List ByteArray) (l : List UInt8) (i : Nat) : Int := (ways sig (l.drop i)).getD 0 0
def cutsOf (l : List UInt8) (sig : List ByteArray) : Int × Int := if errAlpha sig = 0 then (if 400 < l.length then (0, 3) else (wayAt sig l 0, 0)) else (0, errAlpha sig)

theorem ways_getD (sig : List ByteArray) : ∀ (l : List UInt8) (b : Nat), b ≤ l.length → (ways sig l).getD b 0 = (ways sig (l.drop b)).getD 0 0
  | l, 0, _ => by simp
  | [], b + 1, h => by simp at h
  | c :: r, b + 1, h => by
    have := ways_getD sig r b (by simpa using h)
    simpa [ways] using this
theorem wayAt_end (sig : List ByteArray) (l : List UInt8) : wayAt sig l l.length = 1 := by simp [wayAt, ways]
theorem wayAt_step (sig : List ByteArray) (l : List UInt8) (j : Nat) (h : j < l.length) : wayAt sig l j = sig.foldl (cut1 (l.drop j) (ways sig (l.drop (j + 1)))) 0 := by
  have e : l.drop j = l[j] :: l.drop (j + 1) := List.drop_eq_getElem_cons h
  unfold wayAt
  rw [e]; simp [ways]
theorem cut1_yes {sig : List ByteArray} {l : List UInt8} {j : Nat} {acc : Int} {x : ByteArray} (hx : 1 ≤ x.size) (h : pre (l.drop j) x = true) (hj : j < l.length) :
    cut1 (l.drop j) (ways sig (l.drop (j + 1))) acc x = cap1 (acc + wayAt sig l (j + x.size)) ∧ j + x.size ≤ l.length := by
  have hle := pre_le h
  simp only [List.length_drop] at hle
  refine ⟨?_, by omega⟩
  unfold cut1 wayAt
  rw [if_pos h, ways_getD _ _ _ (by simp; omega), List.drop_drop, show j + 1 + (x.size - 1) = j + x.size by omega]
theorem cut1_no {l : List UInt8} {t : List Int} {acc : Int} {x : ByteArray} (h : pre l x = false) : cut1 l t acc x = acc := by simp [cut1, h]
theorem cap1_min (a : Int) : min a 1000000000 = cap1 a := by unfold cap1; split <;> omega
theorem cap1_le (a : Int) : cap1 a ≤ 1000000000 := by unfold cap1; split <;> omega
theorem cap1_ge {a : Int} (h : 0 ≤ a) : 0 ≤ cap1 a := by unfold cap1; split <;> omega
theorem getD_bd {t : List Int} (h : ∀ v ∈ t, 0 ≤ v ∧ v ≤ 1000000000) (i : Nat) : 0 ≤ t.getD i 0 ∧ t.getD i 0 ≤ 1000000000 := by
  unfold List.getD
  cases hh : t[i]? with
  | none => simp
  | some v => exact h v (List.mem_of_getElem? hh)
theorem fold_bd {l : List UInt8} {t : List Int} (h : ∀ v ∈ t, 0 ≤ v ∧ v ≤ 1000000000) : ∀ (sig : List ByteArray) (acc : Int), 0 ≤ acc → acc ≤ 1000000000 → 0 ≤ sig.foldl (cut1 l t) acc ∧ sig.foldl (cut1 l t) acc ≤ 1000000000
  | [], acc, h0, h1 => ⟨h0, h1⟩
  | x :: r, acc, h0, h1 => by
    simp only [List.foldl_cons]
    have hd := getD_bd h (x.size - 1)
    refine fold_bd h r _ ?_ ?_
    · unfold cut1; split
      · exact cap1_ge (by omega)
      · exact h0
    · unfold cut1; split
      · exact cap1_le _
      · exact h1
theorem ways_bd (sig : List ByteArray) : ∀ (l : List UInt8), ∀ v ∈ ways sig l, 0 ≤ v ∧ v ≤ 1000000000
  | [], v, h => by simp [ways] at h; omega
  | c :: r, v, h => by
    simp only [ways, List.mem_cons] at h
    cases h with
    | inl h => rw [h]; exact fold_bd (ways_bd sig r) sig 0 (by omega) (by omega)
    | inr h => exact ways_bd sig r v h
theorem wayAt_bd (sig : List ByteArray) (l : List UInt8) (i : Nat) : 0 ≤ wayAt sig l i ∧ wayAt sig l i ≤ 1000000000 := getD_bd (ways_bd sig _) 0

/-- Block g holds n integers, as A says. -/
def Ints (w : World) (g n : Nat) (A : Nat → Int) : Prop := ∃ cur, w.heap[g]? = some (.cells cur 3 (0, 0)) ∧ cur.size = n ∧ ∀ i, i < n → cur[i]? = some (.int .i64 (A i))
theorem Ints.cell {w : World} {g n : Nat} {A : Nat → Int} (h : Ints w g n A) {i : Nat} (hi : i < n) : w.cell? ⟨g, i, none⟩ = some (.int .i64 (A i)) := by
  obtain ⟨cur, h1, h2, h3⟩ := h
  simp [World.cell?, h1, h3 i hi]
theorem Ints.free {w : World} {g n : Nat} {A : Nat → Int} (h : Ints w g n A) (i : Nat) : w.frozen? ⟨g, i, none⟩ = false := by
  obtain ⟨cur, h1, h2, h3⟩ := h
  simp [World.frozen?, h1]
theorem Ints.lt {w : World} {g n : Nat} {A : Nat → Int} (h : Ints w g n A) : g < w.heap.size := by
  obtain ⟨cur, h1, _⟩ := h
  exact (Array.getElem?_eq_some_iff.1 h1).1
theorem Ints.set {w : World} {g n : Nat} {A : Nat → Int} (h : Ints w g n A) {i : Nat} (v : Int) : Ints (w.setCell ⟨g, i, none⟩ (.int .i64 v)) g n (fun j => if j = i then v else A j) := by
  obtain ⟨cur, h1, h2, h3⟩ := h
  refine ⟨cur.setIfInBounds i (.int .i64 v), by simp [World.setCell, Array.getElem?_modify, h1], by simpa using h2, fun j hj => ?_⟩
  rw [Array.getElem?_setIfInBounds]
  by_cases e : i = j
  · subst e; simp; omega
  · rw [if_neg e]
    show cur[j]? = some (Value.int .i64 (if j = i then v else A j))
    rw [if_neg (fun h => e h.symm)]; exact h3 j hj
theorem Ints.congr {w : World} {g n : Nat} {A B : Nat → Int} (h : Ints w g n A) (e : ∀ i, i < n → A i = B i) : Ints w g n B := by
  obtain ⟨cur, h1, h2, h3⟩ := h
  exact ⟨cur, h1, h2, fun i hi => by rw [h3 i hi, e i hi]⟩
theorem Ints.of_own {w : World} {base g n : Nat} {zs : List Value} (h : w.ownsRow base 3 1 (.slice (some ⟨g, 0, none⟩) n n) n zs) (hz : ∀ i, i < n → zs[i]? = some (.int .i64 0)) : Ints w g n (fun _ => 0) ∧ base ≤ g := by
  rcases h.2 with ⟨h0, _⟩ | ⟨g', cap, cur, hv, hb, hg, hc, hm, hs, ht⟩
  · cases h0
  · injection hv with h1 h2 h3
    injection h1 with h1
    injection h1 with h1
    subst h1 h3
    refine ⟨⟨cur, hg, by omega, fun i hi => ?_⟩, hb⟩
    have := hz i hi
    rw [← ht, List.getElem?_take] at this
    rw [if_pos (by omega)] at this
    simpa using this

theorem made_zero (n i : Nat) (h : i < n) : (madeCells #[.int .i64 0] n).toList[i]? = some (.int .i64 0) := by
  have e : madeCells #[.int .i64 0] n = Array.replicate n (.int .i64 0) := by
    apply Array.ext
    · simp [madeCells]
    · intro j h1 h2
      simp [madeCells, Nat.mod_one]
  rw [e]
  simp [h]

end Sp
end Go.Proofs.Ytimjgjhdkinhoaa
