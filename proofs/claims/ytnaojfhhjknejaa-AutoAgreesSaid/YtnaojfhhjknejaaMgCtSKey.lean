/-
  The walk of key: a set of states as a text, which equal sets, and only these, have in common.
-/
import Derived.Test.YtnaojfhhjknejaaMgAuMemAuGrAuNet
import Derived.Laws.BitsAllLaws
import Derived.Laws.IdiomStrings
import Derived.IntWalk
import Derived.WalkKit
import Derived.WalkSpells
import Derived.WalkLawsBesides
import Derived.Test.YtnaojfhhjknejaaMgCtCCtP
import Derived.Test.YtnaojfhhjknejaaMgAuTAuU
set_option linter.unusedVariables false
set_option linter.unusedSimpArgs false
namespace Go.Proofs.Ytnaojfhhjknejaa
open Go.RowKit
namespace Nf
def keyS (b i q : Nat) : Nat := if q / 8 = i then b ||| 2 ^ (q % 8) else b
/-- Byte number i of the text of a set. -/
def keyB (l : List Nat) (i : Nat) : Nat := l.foldl (fun b q => keyS b i q) 0
theorem keyB_snoc (l : List Nat) (q i : Nat) : keyB (l ++ [q]) i = keyS (keyB l i) i q := by unfold keyB; rw [List.foldl_append]; rfl
theorem keyS_bit (b i q r : Nat) : (keyS b i q).testBit r = (b.testBit r || decide (q / 8 = i ∧ q % 8 = r)) := by
  unfold keyS
  split
  · rename_i h
    rw [Nat.testBit_or, Nat.testBit_two_pow]
    simp [h]
  · rename_i h
    simp [h]
theorem keyF_bit (i r : Nat) : ∀ (l : List Nat) (b : Nat), (l.foldl (fun b q => keyS b i q) b).testBit r = (b.testBit r || decide (∃ q ∈ l, q / 8 = i ∧ q % 8 = r))
  | [], b => by simp
  | x :: l, b => by
    rw [List.foldl_cons, keyF_bit i r l, keyS_bit, Bool.or_assoc]
    congr 1
    rw [Bool.eq_iff_iff]
    simp
theorem keyB_bit (l : List Nat) (i r : Nat) : (keyB l i).testBit r = decide (∃ q ∈ l, q / 8 = i ∧ q % 8 = r) := by
  unfold keyB
  rw [keyF_bit]
  simp
theorem keyB_lt (l : List Nat) (i : Nat) : keyB l i < 256 := by
  apply Nat.lt_pow_two_of_testBit (n := 8)
  intro r hr
  rw [keyB_bit, decide_eq_false_iff_not]
  rintro ⟨q, _, _, h⟩
  have := Nat.mod_lt q (show 0 < 8 by decide)
  omega
def keyL (N : Nat) (l : List Nat) : List UInt8 := (List.range ((N + 7) / 8)).map fun i => UInt8.ofNat (keyB l i)
def keyT (N : Nat) (l : List Nat) : ByteArray := ⟨(keyL N l).toArray⟩
theorem keyT_size (N : Nat) (l : List Nat) : (keyT N l).size = (N + 7) / 8 := by simp [keyT, keyL, ByteArray.size]
/-- Equal texts, equal sets. -/
theorem keyT_inj {N : Nat} {l m : List Nat} (hl : ∀ q ∈ l, q < N) (hm : ∀ q ∈ m, q < N) : keyT N l = keyT N m ↔ ∀ q, q ∈ l ↔ q ∈ m := by
  constructor
  · intro h
    have h1 : keyL N l = keyL N m := by
      have h2 := congrArg ByteArray.data h
      simp only [keyT] at h2
      simpa using congrArg Array.toList h2
    have key : ∀ i, i < (N + 7) / 8 → keyB l i = keyB m i := fun i hi => by
      have h3 := congrArg (fun x : List UInt8 => x[i]?) h1
      simp only [keyL, List.getElem?_map, List.getElem?_range hi, Option.map_some, Option.some.injEq] at h3
      have h4 := congrArg UInt8.toNat h3
      simp only [UInt8.toNat_ofNat'] at h4
      have a1 := keyB_lt l i
      have a2 := keyB_lt m i
      rwa [Nat.mod_eq_of_lt a1, Nat.mod_eq_of_lt a2] at h4
    have way : ∀ a b : List Nat, (∀ q ∈ a, q < N) → (∀ i, i < (N + 7) / 8 → keyB a i = keyB b i) → ∀ q, q ∈ a → q ∈ b := fun a b ha hk q hq => by
      have hqN := ha q hq
      have h5 := hk (q / 8) (by omega)
      have h6 : (keyB a (q / 8)).testBit (q % 8) = true := by rw [keyB_bit]; simpa using ⟨q, hq, rfl, rfl⟩
      rw [h5, keyB_bit] at h6
      obtain ⟨p, hp, e1, e2⟩ := of_decide_eq_true h6
      have e3 : p = q := by omega
      rw [← e3]; exact hp
    exact fun q => ⟨way l m hl key q, way m l hm (fun i hi => (key i hi).symm) q⟩
  · intro h
    have key : ∀ i, keyB l i = keyB m i := fun i => by
      apply Nat.eq_of_testBit_eq
      intro r
      rw [keyB_bit, keyB_bit]
      simp only [h]
    have h1 : keyL N l = keyL N m := by unfold keyL; apply List.map_congr_left; intro i _; rw [key i]
    unfold keyT
    rw [h1]
theorem byteInfo : (Try.prog.info? 5).map (fun i => (i.zero, i.size, i.bytes)) = some (some (.int .u8 0), 1, 1) := by kernel_rfl
def byt (x : Nat) : Value := .int .u8 (x : Int)
theorem vec_made_byte {w : World} {b N : Nat} (h : w.heap[b]? = some (.cells (madeCells #[.int .u8 0] N) 5 (0, 0))) (hN : N ≤ 3000) : Vec byt w b 5 N N (fun _ => 0) :=
  ⟨_, h, size_madeCells _ _, Nat.le_refl _, by unfold maxLen; omega, fun i hi => by simp [madeCells, hi, Nat.mod_one, byt]⟩
end Nf

set_option maxHeartbeats 4000000 in
set_option maxRecDepth 100000 in
theorem key_any (w : World) (ao : Option Addr) (n cap : Nat) (L : List Nat) (N : Nat) (h : Nf.Seq Nf.num w ao n L) (hL : ∀ q ∈ L, q < N) (hN : N ≤ 3000) :
    Calls Try.prog 39 #[.slice ao n cap, .int .i64 (N : Int)] w fun e w' => e = .returned (.string (Nf.keyT N L)) ∧ Below w.heap.size w w' := by
  obtain ⟨M, hM⟩ : ∃ M, (N + 7) / 8 = M := ⟨_, rfl⟩
  have hMl : M ≤ 376 := by omega
  have hdv : ((N : Int) + 7).tdiv 8 = (M : Int) := by
    rw [← hM]
    rw [Int.tdiv_eq_ediv_of_nonneg (by omega)]
    omega
  have hwr0 : IntKind.i64.wrap ((N : Int) + 7) = (N : Int) + 7 := IntWalk.i64_in _ (by omega)
  have hmk : (Instr.makeSlice 106 (.int .i64 (M : Int)) (.int .i64 (M : Int))).run Try.prog w = .ok (.slice (some ⟨w.heap.size, 0, none⟩) M M) (w.alloc (.cells (madeCells #[.int .u8 0] M) 5)) := run_make_row' _ _ _ 1 Try.underlying106 Nf.byteInfo rfl _ _ M (by omega) (by omega) w
  have hv := Nf.vec_made_byte (w := w.alloc (.cells (madeCells #[.int .u8 0] M) 5)) (Nf.Below.heap_new w _) (by omega)
  have hb := (Below.refl w.heap.size w).alloc (Nat.le_refl _) (.cells (madeCells #[.int .u8 0] M) 5)
  obtain ⟨kb, hkb⟩ : ∃ kb, w.heap.size = kb := ⟨_, rfl⟩
  obtain ⟨w1, hw1⟩ : ∃ w1, w.alloc (.cells (madeCells #[.int .u8 0] M) 5) = w1 := ⟨_, rfl⟩
  rw [hw1, hkb] at hmk hv
  rw [hw1] at hb
  have Hkb := Sp.hid (show w.heap.size ≤ kb by omega)
  have HM := Sp.hid hM
  have HH := Sp.hid h
  have HL := Sp.hid hL
  have HV0 : Hid (Vec Nf.byt w1 kb 5 M M (Nf.keyB [])) := Sp.hid (hv.congr fun i _ => rfl)
  have Hb0 := Sp.hid hb
  have Hln := Sp.hid h.1
  have hnl := h.le
  clear h hL hv hb hkb hw1 hM
  go_enter Try.func39, Try.ntmps39
  go_wp2_with fail
  clear hmk hdv hwr0
  go_loopw [7, 14] (fun _ i wr => ∃ k : Nat, i = .int .i64 k ∧ k ≤ n ∧ Hid (Vec Nf.byt wr kb 5 M M (Nf.keyB (L.take k))) ∧ Hid (Below w.heap.size w wr)) (fun _ i _ => n - (intOf i).toNat)
  case atStart => exact ⟨0, rfl, Nat.zero_le _, HV0, Hb0⟩
  case round =>
    clear HV0 Hb0
    obtain ⟨k, rfl, hk, HV, Hb⟩ := hrel
    by_cases hkn : k < n
    · obtain ⟨b, off, q, e9, cz0, hq?, htk⟩ := (HH.out.below Hb.out).at hkn
      subst e9
      have cz : wr.cell? ⟨b, off + k, none⟩ = some (.int .i64 (q : Int)) := cz0
      have hqN : q < N := HL.out q (List.mem_of_getElem? hq?)
      have hM8 := HM.out
      obtain ⟨d, hd⟩ : ∃ d, q / 8 = d := ⟨_, rfl⟩
      obtain ⟨r, hr⟩ : ∃ r, q % 8 = r := ⟨_, rfl⟩
      have hdM : d < M := by omega
      have hr8 : r < 8 := by omega
      have hdv : (q : Int).tdiv 8 = (d : Int) := by rw [Int.tdiv_eq_ediv_of_nonneg (by omega)]; omega
      have hmd : (q : Int).tmod 8 = (r : Int) := by rw [Int.tmod_eq_emod_of_nonneg (by omega)]; omega
      have cb : wr.cell? ⟨kb, d, none⟩ = some (.int .u8 (Nf.keyB (L.take k) d : Int)) := HV.out.cell hdM
      have fb := HV.out.free d
      have hkl := Nf.keyB_lt (L.take k) d
      have h2r : 2 ^ r < 256 := Nat.lt_of_lt_of_le (Nat.pow_lt_pow_right (by decide) hr8) (by decide)
      have hV2 : Vec Nf.byt (wr.setCell ⟨kb, d, none⟩ (Nf.byt (Nf.keyB (L.take k) d ||| 2 ^ r))) kb 5 M M (Nf.keyB (L.take (k + 1))) := by
        refine (HV.out.set (i := d) (Nf.keyB (L.take k) d ||| 2 ^ r)).congr fun i _ => ?_
        rw [htk, Nf.keyB_snoc]
        unfold Nf.keyS
        rw [hd, hr]
        by_cases e : d = i
        · rw [if_pos e, if_pos e.symm, e]
        · rw [if_neg e, if_neg (fun h => e h.symm)]
      obtain ⟨a, ha⟩ : ∃ a, Nf.keyB (L.take k) d = a := ⟨_, rfl⟩
      rw [ha] at cb hkl hV2
      have h2i : ((2 ^ r : Nat) : Int) = (2 : Int) ^ r := by simp
      have h2p : (0 : Int) ≤ (2 : Int) ^ r ∧ (2 : Int) ^ r < 256 := by
        rw [← h2i]
        exact ⟨Int.natCast_nonneg _, Int.ofNat_lt.2 h2r⟩
      have hsh : IntKind.u8.wrap ((2 : Int) ^ r) = (2 : Int) ^ r := by
        obtain ⟨h1, h2⟩ := h2p
        generalize (2 : Int) ^ r = z at *
        simp only [IntKind.wrap]
        first | omega | (simp [IntKind.bits, IntKind.signed]; omega) | (unfold IntKind.wrap; simp; omega)
      have hor : bits .or .u8 (a : Int) ((2 : Int) ^ r) = ((a ||| 2 ^ r : Nat) : Int) := by rw [← h2i]; exact Go.u8_or_nat a (2 ^ r) hkl h2r
      have hb2 := Hb.out.setCell (p := ⟨kb, d, none⟩) Hkb.out (Nf.byt (a ||| 2 ^ r))
      have i1 : (0 : Int) ≤ (k : Int) := by omega
      have i2 : (k : Int) < (n : Int) := by omega
      have i3 : (0 : Int) ≤ (d : Int) := by omega
      have i4 : (d : Int) < (M : Int) := by omega
      have HV2 := Sp.hid hV2
      have Hb2 := Sp.hid hb2
      clear cz0 hq? htk hd hr ha hV2 hb2 hM8 h2i h2p
      obtain ⟨c, hc⟩ : ∃ c : Nat, a ||| 2 ^ r = c := ⟨_, rfl⟩
      rw [hc] at hor HV2 Hb2
      unfold Nf.byt at HV2 Hb2
      clear hc
      go_wp2_with fail
      go_region
      all_goals
        go_wp2_with fail
        go_roundw
        case rel => exact ⟨k + 1, by go_num, hkn, Sp.hid HV2.out.drew, Sp.hid Hb2.out.drew⟩
        case measure => simp [intOf]; omega
    · have e : L.take k = L := List.take_of_length_le (by rw [Hln.out]; omega)
      rw [e] at HV
      have hconv := Go.run_convert_bytes_back wr 106 9 5 ⟨kb, 0, none⟩ M (Nf.keyL N L) Try.underlying106 Try.underlying5 Try.underlying9 (fun j hj => by
        have hjM : j < M := by simpa [Nf.keyL, HM.out] using hj
        rw [Nf.plain_add, Nat.zero_add, HV.out.cell hjM]
        simp [Nf.byt, Nf.keyL, Nat.mod_eq_of_lt (Nf.keyB_lt L j)])
      have hlen : (Nf.keyL N L).length = M := by simp [Nf.keyL, HM.out]
      rw [hlen] at hconv
      clear e hlen
      go_wp2_with fail
      go_ret
      exact ⟨rfl, Hb.out⟩
end Go.Proofs.Ytnaojfhhjknejaa

/-
  The sets that words lead to, as the program numbers them, plainly: once no set is left to be asked, they are all (Subs).
-/
set_option linter.unusedVariables false
namespace Go.Proofs.Ytnaojfhhjknejaa
open Go.RowKit
namespace Nf
/-- The place of the first set with this text. -/
def kIdx (N : Nat) : List (List Nat) → ByteArray → Option Nat
  | [], _ => none
  | l :: r, s => if keyT N l = s then some 0 else (kIdx N r s).map (· + 1)
theorem kIdx_snoc {N : Nat} (l : List Nat) : ∀ {L : List (List Nat)}, kIdx N L (keyT N l) = none → ∀ s, kIdx N (L ++ [l]) s = if keyT N l = s then some L.length else kIdx N L s
  | [], _, s => by simp [kIdx]
  | a :: r, h, s => by
    unfold kIdx at h
    split at h
    · cases h
    · rename_i hc
      have h2 : kIdx N r (keyT N l) = none := by
        cases hx : kIdx N r (keyT N l) with
        | none => rfl
        | some x => rw [hx] at h; cases h
      show (if keyT N a = s then some 0 else (kIdx N (r ++ [l]) s).map (· + 1)) = if keyT N l = s then some (r.length + 1) else (if keyT N a = s then some 0 else (kIdx N r s).map (· + 1))
      rw [kIdx_snoc l h2 s]
      by_cases h3 : keyT N a = s
      · rw [if_pos h3, if_neg (fun h4 => hc (h3.trans h4.symm)), if_pos h3]
      · rw [if_neg h3, if_neg h3]
        by_cases h4 : keyT N l = s
        · rw [if_pos h4, if_pos h4]; rfl
        · rw [if_neg h4, if_neg h4]
theorem kIdx_some {N : Nat} : ∀ {L : List (List Nat)} {s : ByteArray} {i : Nat}, kIdx N L s = some i → ∃ l, L[i]? = some l ∧ keyT N l = s
  | [], s, i, h => by cases h
  | a :: r, s, i, h => by
    unfold kIdx at h
    split at h
    · rename_i hc
      cases h
      exact ⟨a, by simp, hc⟩
    · cases hx : kIdx N r s with
      | none => rw [hx] at h; cases h
      | some x =>
        rw [hx] at h
        cases h
        obtain ⟨l, h1, h2⟩ := kIdx_some hx
        exact ⟨l, by simpa using h1, h2⟩
theorem kIdx_none {N : Nat} : ∀ {L : List (List Nat)} {s : ByteArray}, kIdx N L s = none → ∀ l ∈ L, keyT N l ≠ s
  | [], s, _, l, hl => by simp at hl
  | a :: r, s, h, l, hl => by
    unfold kIdx at h
    split at h
    · cases h
    · rename_i hc
      cases hx : kIdx N r s with
      | some x => rw [hx] at h; cases h
      | none =>
        rcases List.mem_cons.1 hl with rfl | hl
        · exact hc
        · exact kIdx_none hx l hl
theorem kIdx_app {N : Nat} : ∀ {L : List (List Nat)} {s : ByteArray} {i : Nat} (M : List (List Nat)), kIdx N L s = some i → kIdx N (L ++ M) s = some i
  | [], s, i, M, h => by cases h
  | a :: r, s, i, M, h => by
    show (if keyT N a = s then some 0 else (kIdx N (r ++ M) s).map (· + 1)) = some i
    unfold kIdx at h
    split at h
    · rename_i hc; rw [if_pos hc]; exact h
    · rename_i hc
      rw [if_neg hc]
      cases hx : kIdx N r s with
      | none => rw [hx] at h; cases h
      | some x =>
        rw [hx] at h
        rw [kIdx_app M hx]
        exact h
/-- The numbers that a row of sets leads to: of the first x, those that are not empty. -/
def nxOf (N : Nat) (L : List (List Nat)) (Lf : Nat → List Nat) : Nat → List Nat
  | 0 => []
  | x + 1 => nxOf N L Lf x ++ (if Lf x = [] then [] else [(kIdx N L (keyT N (Lf x))).getD 0])
theorem nxOf_app {N : Nat} {L : List (List Nat)} {Lf : Nat → List Nat} (M : List (List Nat)) : ∀ (x : Nat), (∀ y, y < x → Lf y ≠ [] → ∃ m, kIdx N L (keyT N (Lf y)) = some m) → nxOf N (L ++ M) Lf x = nxOf N L Lf x
  | 0, _ => rfl
  | x + 1, h => by
    show nxOf N (L ++ M) Lf x ++ _ = nxOf N L Lf x ++ _
    rw [nxOf_app M x fun y hy => h y (by omega)]
    by_cases e : Lf x = []
    · rw [if_pos e, if_pos e]
    · obtain ⟨m, hm⟩ := h x (by omega) e
      rw [if_neg e, if_neg e, hm, kIdx_app M hm]
theorem nxOf_lt {N : Nat} {L : List (List Nat)} {Lf : Nat → List Nat} : ∀ (x : Nat), (∀ y, y < x → Lf y ≠ [] → ∃ m, kIdx N L (keyT N (Lf y)) = some m) → ∀ t ∈ nxOf N L Lf x, t < L.length
  | 0, _, t, ht => by cases ht
  | x + 1, h, t, ht => by
    rcases List.mem_append.1 ht with ht | ht
    · exact nxOf_lt x (fun y hy => h y (by omega)) t ht
    · by_cases e : Lf x = []
      · rw [if_pos e] at ht; cases ht
      · obtain ⟨m, hm⟩ := h x (by omega) e
        rw [if_neg e, hm] at ht
        simp at ht
        subst ht
        obtain ⟨l, h1, _⟩ := kIdx_some hm
        exact (List.getElem?_eq_some_iff.1 h1).1
theorem nxOf_len {N : Nat} {L : List (List Nat)} {Lf : Nat → List Nat} : ∀ (x : Nat), (nxOf N L Lf x).length ≤ x
  | 0 => Nat.le_refl _
  | x + 1 => by
    have h := nxOf_len (N := N) (L := L) (Lf := Lf) x
    show (nxOf N L Lf x ++ _).length ≤ x + 1
    rw [List.length_append]
    split
    · simp; omega
    · simp; omega
theorem sumOf_app (f : Nat → Nat) : ∀ (a b : List Nat), sumOf f (a ++ b) = sumOf f a + sumOf f b
  | [], b => by show sumOf f b = 0 + sumOf f b; omega
  | x :: r, b => by
    show f x + sumOf f (r ++ b) = f x + sumOf f r + sumOf f b
    rw [sumOf_app f r b]; omega
theorem fold_add (F : ByteArray → Nat) : ∀ (l : List ByteArray) (c : Nat), l.foldr (fun s m => F s + m) c = l.foldr (fun s m => F s + m) 0 + c
  | [], c => by show c = 0 + c; omega
  | x :: r, c => by
    show F x + r.foldr (fun s m => F s + m) c = F x + r.foldr (fun s m => F s + m) 0 + c
    rw [fold_add F r c]; omega
/-- The set with a number. -/
def SsOf (L : List (List Nat)) (t q : Nat) : Prop := ∃ l, L[t]? = some l ∧ q ∈ l
theorem nx_sum (f : (Nat → Prop) → Nat) (hf : ∀ T : Nat → Prop, (∀ q, ¬ T q) → f T = 0) (sig : List ByteArray) (G : ByteArray → Nat → Prop) {N k : Nat} {L : List (List Nat)} {Lf : Nat → List Nat} (hk : k ≤ sig.length)
    (hL : ∀ x, x < k → (∀ y ∈ Lf x, y < N) ∧ ∀ s, sig[x]? = some s → ∀ y, y ∈ Lf x ↔ G s y) (hL2 : ∀ l ∈ L, ∀ q ∈ l, q < N) (hi : ∀ x, x < k → Lf x ≠ [] → ∃ m, kIdx N L (keyT N (Lf x)) = some m) :
    ∀ x, x ≤ k → sumOf (fun t => f (SsOf L t)) (nxOf N L Lf x) = (sig.take x).foldr (fun s m => f (G s) + m) 0
  | 0, _ => by rw [List.take_zero]; rfl
  | x + 1, hx => by
    have hxl : x < sig.length := by omega
    have hs : sig[x]? = some sig[x] := by simp [hxl]
    obtain ⟨h1, h2⟩ := hL x (by omega)
    have h3 := h2 _ hs
    rw [List.take_succ_eq_append_getElem hxl, List.foldr_append]
    show sumOf _ (nxOf N L Lf x ++ _) = _
    have e1 : (sig.take x).foldr (fun s m => f (G s) + m) ([sig[x]].foldr (fun s m => f (G s) + m) 0) = (sig.take x).foldr (fun s m => f (G s) + m) 0 + f (G sig[x]) := fold_add (fun s => f (G s)) (sig.take x) _
    rw [sumOf_app, nx_sum f hf sig G hk hL hL2 hi x (by omega), e1]
    congr 1
    by_cases e : Lf x = []
    · rw [if_pos e, hf (G sig[x]) fun q hq => by have := (h3 q).2 hq; rw [e] at this; cases this]
      rfl
    · obtain ⟨m, hm⟩ := hi x (by omega) e
      rw [if_neg e, hm]
      obtain ⟨l, g1, g2⟩ := kIdx_some hm
      have g3 := (keyT_inj (hL2 l (List.mem_of_getElem? g1)) h1).1 g2
      have e2 : SsOf L m = G sig[x] := funext fun q => propext ⟨fun ⟨l', k1, k2⟩ => by
        rw [g1] at k1; cases k1
        exact (h3 q).1 ((g3 q).1 k2), fun hq => ⟨l, g1, (g3 q).2 ((h3 q).2 hq)⟩⟩
      show f (SsOf L m) + 0 = _
      rw [e2, Nat.add_zero]
/-- What a set leads to, by symbol number x, when every state counts. -/
theorem t2_all {w : World} {gb : Nat} {v : Gv} {g : Gr} (hG : GrAt w gb v g) {x : Nat} {s : ByteArray} (hs : g.sig[x]? = some s) (l : List Nat) (y : Nat) : T2 g v (fun _ => True) l x y ↔ StepTo g (· ∈ l) s y := by
  constructor
  · rintro ⟨z, ⟨_, q, hq, hm⟩, hst⟩
    obtain ⟨s', h1, h2⟩ := (hG.mv_iff q x z).1 hm
    rw [hs] at h1
    cases h1
    exact ⟨q, z, hq, h2, hst.mono fun a b h => h.1⟩
  · rintro ⟨q, z, hq, h2, hst⟩
    exact ⟨z, ⟨trivial, q, hq, (hG.mv_iff q x z).2 ⟨s, hs, h2⟩⟩, hst.mono fun a b h => ⟨h, trivial⟩⟩
/-- While the sets are found: the first i have been asked. -/
structure Sets (g : Gr) (L : List (List Nat)) (i : Nat) (nx : Nat → List Nat) (en : Nat → Bool) : Prop where
  pos : 0 < L.length
  lt : ∀ l ∈ L, Pool g.N l
  beg : ∀ q, SsOf L 0 q ↔ Beg g q
  clos : ∀ l ∈ L, ∀ p q, p ∈ l → Star (E g) p q → q ∈ l
  done : ∀ j, j < i → ∃ l Lf, L[j]? = some l ∧ (∀ x, x < g.sig.length → (∀ y ∈ Lf x, y < g.N) ∧ ∀ s, g.sig[x]? = some s → ∀ y, y ∈ Lf x ↔ StepTo g (· ∈ l) s y) ∧
    (∀ x, x < g.sig.length → Lf x ≠ [] → ∃ m, kIdx g.N L (keyT g.N (Lf x)) = some m) ∧ nx j = nxOf g.N L Lf g.sig.length ∧ en j = bl (∃ q, q ∈ l ∧ q ∈ g.ends)
/-- A set more is found. -/
theorem Sets.snoc {g : Gr} {L : List (List Nat)} {i : Nat} {nx : Nat → List Nat} {en : Nat → Bool} (h : Sets g L i nx en) {l : List Nat} (hl : Pool g.N l) (hc : ∀ p q, p ∈ l → Star (E g) p q → q ∈ l) : Sets g (L ++ [l]) i nx en := by
  refine ⟨by simp, fun a ha => ?_, fun q => ?_, fun a ha => ?_, fun j hj => ?_⟩
  · rcases List.mem_append.1 ha with ha | ha
    · exact h.lt a ha
    · simp at ha; subst ha; exact hl
  · rw [← h.beg q]
    unfold SsOf
    rw [List.getElem?_append_left h.pos]
  · rcases List.mem_append.1 ha with ha | ha
    · exact h.clos a ha
    · simp at ha; subst ha; exact hc
  · obtain ⟨m, Lf, h1, h2, h3, h4, h5⟩ := h.done j hj
    refine ⟨m, Lf, by rw [List.getElem?_append_left (List.getElem?_eq_some_iff.1 h1).1]; exact h1, h2, fun x hx he => ?_, by rw [nxOf_app _ _ h3]; exact h4, h5⟩
    obtain ⟨z, hz⟩ := h3 x hx he
    exact ⟨z, kIdx_app _ hz⟩
theorem subs_of {g : Gr} {L : List (List Nat)} {nx : Nat → List Nat} {en : Nat → Bool} (h : Sets g L L.length nx en) : Subs g L.length (SsOf L) nx en := by
  refine ⟨h.pos, h.beg, fun i hi t ht => ?_, fun i hi f hf => ?_, fun i hi => ?_, fun i hi p q hp hst => ?_⟩
  · obtain ⟨l, Lf, h1, h2, h3, h4, h5⟩ := h.done i hi
    rw [h4] at ht
    exact nxOf_lt _ h3 t ht
  · obtain ⟨l, Lf, h1, h2, h3, h4, h5⟩ := h.done i hi
    have e : SsOf L i = fun q => q ∈ l := funext fun q => propext ⟨fun ⟨l', k1, k2⟩ => by rw [h1] at k1; cases k1; exact k2, fun hq => ⟨l, h1, hq⟩⟩
    rw [h4, e]
    have := nx_sum f hf g.sig (fun s => StepTo g (· ∈ l) s) (Nat.le_refl _) h2 (fun a ha => (h.lt a ha).lt) h3 g.sig.length (Nat.le_refl _)
    rw [List.take_length] at this
    exact this
  · obtain ⟨l, Lf, h1, h2, h3, h4, h5⟩ := h.done i hi
    rw [h5, bl_iff]
    constructor
    · rintro ⟨q, k1, k2⟩; exact ⟨q, ⟨l, h1, k1⟩, k2⟩
    · rintro ⟨q, ⟨l', k1, k2⟩, k3⟩
      rw [h1] at k1; cases k1
      exact ⟨q, k2, k3⟩
  · obtain ⟨l, k1, k2⟩ := hp
    exact ⟨l, k1, h.clos l (List.mem_of_getElem? k1) p q k2 hst⟩
end Nf
end Go.Proofs.Ytnaojfhhjknejaa
