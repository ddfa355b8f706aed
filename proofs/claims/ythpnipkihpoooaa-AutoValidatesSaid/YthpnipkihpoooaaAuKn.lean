/-
  The walk of the document's example: known.
-/
import Derived.Test.YthpnipkihpoooaaAuZa
set_option linter.unusedVariables false
set_option linter.unusedSimpArgs false
namespace Go.Proofs.Ythpnipkihpoooaa
open Go.RowKit
namespace Nf
def ka : ByteArray := ⟨#[97]⟩
def gk : Gr := { N := 1, sig := [ka], arcs := [(0, ka, 0)], ends := [0] }
theorem ka_ne : ka ≠ eps := by decide
theorem gk_ex : ∀ k, Ex gk k 0
  | 0 => ⟨0, by simp [gk], .refl 0⟩
  | k + 1 => ⟨0, 0, .refl 0, ⟨ka, ka_ne, by simp [gk]⟩, gk_ex k⟩
theorem gk_F : ∀ (k : Nat) (S : Nat → Prop), S 0 → F gk k S = [List.replicate k ka]
  | 0, _, _ => rfl
  | k + 1, S, h => by
    have h1 : StepTo gk S ka 0 := ⟨0, 0, h, by simp [gk], .refl 0⟩
    rw [F_succ, show gk.sig = [ka] from rfl]
    simp only [List.flatMap_cons, List.flatMap_nil, List.append_nil]
    unfold Hs
    rw [if_pos ⟨0, h1, gk_ex k⟩, gk_F k _ ⟨h1, gk_ex k⟩]
    simp [List.replicate_succ]
theorem gk_W (k : Nat) : W gk k = [List.replicate k ka] := by
  unfold W
  rw [if_pos (gk_ex k), gk_F k _ ⟨0, rfl, .refl 0⟩]
theorem gk_upto : ∃ r, upto gk 61 = [[], [ka], [ka, ka]] ++ r := by
  obtain ⟨r, hr⟩ := upto_prefix gk (a := 3) (b := 61) (by omega)
  refine ⟨r, ?_⟩
  rw [hr, upto_succ, upto_succ, upto_succ, gk_W, gk_W, gk_W]
  rfl
theorem gk_first : firstSpec gk 2 = ([[], [ka]], true, 0) := by
  obtain ⟨r, hr⟩ := gk_upto
  unfold firstSpec
  rw [hr, if_pos (by simp)]
  simp
theorem gk_lg : Lg gk 1 0 := ⟨0, 0, .refl 0, ⟨ka, ka_ne, by simp [gk]⟩, ⟨0, by simp [gk], .refl 0⟩⟩
/-- The example's net, wherever it lies. -/
def kn (b : Nat) : Net := ⟨some ⟨b, 0, none⟩, 1, 1, [ka], 1, some ⟨b + 1, 0, none⟩, 1, 1, [⟨0, ka, ka, 0, 0⟩], some ⟨b + 1 + 1, 0, none⟩, 1, 1, [⟨0, 0⟩]⟩
theorem kn_err (b : Nat) : errNet (kn b) = 0 := by
  have h1 : Sp.errAlpha [ka] = 0 := by decide
  unfold errNet
  rw [if_neg (by simp [kn]), if_neg (by simpa [kn] using h1)]
  have h2 : netOk (kn b) = true := by
    simp [netOk, arcOk, stOk, syOk, kn, bl_iff, bl_true]
  have h3 : accOk (kn b) = true := by
    simp [accOk, arcFree, kn, bl_true]
  rw [h2, h3]
  simp
theorem kn_gr (b : Nat) : netGr (kn b) = gk := rfl
theorem kn_words (b : Nat) : wordsSpec (kn b) 2 = ([[], [ka]], true, 0) := by
  unfold wordsSpec
  rw [if_neg (by simpa using kn_err b), if_neg (by omega), kn_gr]
  exact gk_first
theorem kn_fin (b : Nat) : finSpec (kn b) = (false, 0) := by
  unfold finSpec
  rw [if_neg (by simpa using kn_err b), kn_gr]
  have h : Lg gk (kn b).st.toNat 0 := gk_lg
  rw [bl_true h]; rfl
theorem kn_at {w : World} {b : Nat} (h1 : w.heap[b]? = some (.cells #[.string ka] 9 (0, 0))) (h2 : w.heap[b + 1]? = some (.cells #[.int .i64 0, .string ka, .string ka, .int .i64 0, .int .i64 0] 53 (0, 0)))
    (h3 : w.heap[b + 1 + 1]? = some (.cells #[.int .i64 0, .int .i64 0] 55 (0, 0))) : NetAt w (kn b) := by
  refine ⟨⟨rfl, (by show 1 ≤ maxLen; decide), fun _ => ⟨b, 0, rfl, fun i hi => ?_⟩, fun s hs => ?_⟩, ⟨rfl, (by show 1 ≤ 2600000000000; decide), fun _ => ⟨b + 1, 0, rfl, fun k x hx => ?_⟩, fun x hx => ?_⟩, ⟨rfl, (by show 1 ≤ 9000000000000; decide), fun _ => ⟨b + 1 + 1, 0, rfl, fun k x hx => ?_⟩⟩, by simp [kn], by simp [kn]⟩
  · have hi : i < 1 := hi
    have : i = 0 := by omega
    subst this
    exact blk_cell h1 rfl
  · have : s = ka := by simpa [kn] using hs
    subst this
    decide
  · match k, hx with
    | 0, hx =>
      simp [kn] at hx; subst hx
      exact ⟨blk_cell h2 rfl, blk_cell h2 rfl, blk_cell h2 rfl, blk_cell h2 rfl, blk_cell h2 rfl⟩
  · have : x = ⟨0, ka, ka, 0, 0⟩ := by simpa [kn] using hx
    subst this
    exact ⟨by decide, by decide⟩
  · match k, hx with
    | 0, hx =>
      simp [kn] at hx; subst hx
      exact ⟨blk_cell h3 rfl, blk_cell h3 rfl⟩
end Nf

set_option maxHeartbeats 2000000 in
set_option maxRecDepth 100000 in
theorem known_any (w : World) :
    Calls Try.prog 9 #[] w (fun e w' => e = .returned (.bool true) ∧ Below w.heap.size w w') := by
  obtain ⟨n1, n2, n3, n4⟩ := Nf.four_new w (.cells #[.string Nf.ka] 9) (.cells #[.int .i64 0, .string Nf.ka, .string Nf.ka, .int .i64 0, .int .i64 0] 53) (.cells #[.int .i64 0, .int .i64 0] 55) (.cells (Nf.kn w.heap.size).cells 26)
  have hb0 : Below w.heap.size w ((((w.alloc (.cells #[.string Nf.ka] 9)).alloc (.cells #[.int .i64 0, .string Nf.ka, .string Nf.ka, .int .i64 0, .int .i64 0] 53)).alloc (.cells #[.int .i64 0, .int .i64 0] 55)).alloc (.cells (Nf.kn w.heap.size).cells 26)) := ((((Below.refl _ w).alloc (Nat.le_refl _) _).alloc (by simp) _).alloc (by simp; omega) _).alloc (by simp; omega) _
  have HB0 := Sp.hid hb0
  have hat := Nf.kn_at n1 n2 n3
  have HAt := Sp.hid hat
  have HN4 := Sp.hid n4
  have HW0 := words_any _ (Nf.kn w.heap.size) 2 hat (by omega) (by omega)
  have HW : Calls Try.prog 23 #[.agg #[.slice (some ⟨w.heap.size, 0, none⟩) 1 1, .int .i64 1, .slice (some ⟨w.heap.size + 1, 0, none⟩) 1 1, .slice (some ⟨w.heap.size + 1 + 1, 0, none⟩) 1 1], .int .i64 2] ((((w.alloc (.cells #[.string ⟨#[97]⟩] 9)).alloc (.cells #[.int .i64 0, .string ⟨#[97]⟩, .string ⟨#[97]⟩, .int .i64 0, .int .i64 0] 53)).alloc (.cells #[.int .i64 0, .int .i64 0] 55)).alloc (.cells #[.slice (some ⟨w.heap.size, 0, none⟩) 1 1, .int .i64 1, .slice (some ⟨w.heap.size + 1, 0, none⟩) 1 1, .slice (some ⟨w.heap.size + 1 + 1, 0, none⟩) 1 1] 26)) (Nf.WordsPost (Nf.kn w.heap.size) 2 ((((w.alloc (.cells #[.string Nf.ka] 9)).alloc (.cells #[.int .i64 0, .string Nf.ka, .string Nf.ka, .int .i64 0, .int .i64 0] 53)).alloc (.cells #[.int .i64 0, .int .i64 0] 55)).alloc (.cells (Nf.kn w.heap.size).cells 26))) := HW0
  have HW := Sp.hid HW
  obtain ⟨w0, hw0⟩ : ∃ w0, ((((w.alloc (.cells #[.string Nf.ka] 9)).alloc (.cells #[.int .i64 0, .string Nf.ka, .string Nf.ka, .int .i64 0, .int .i64 0] 53)).alloc (.cells #[.int .i64 0, .int .i64 0] 55)).alloc (.cells (Nf.kn w.heap.size).cells 26)) = w0 := ⟨_, rfl⟩
  rw [hw0] at HB0 HAt HN4
  have HW2 := Sp.hid (show Nf.WordsPost (Nf.kn w.heap.size) 2 ((((w.alloc (.cells #[.string Nf.ka] 9)).alloc (.cells #[.int .i64 0, .string Nf.ka, .string Nf.ka, .int .i64 0, .int .i64 0] 53)).alloc (.cells #[.int .i64 0, .int .i64 0] 55)).alloc (.cells (Nf.kn w.heap.size).cells 26)) = Nf.WordsPost (Nf.kn w.heap.size) 2 w0 by rw [hw0])
  rw [HW2.out] at HW
  have hblkc : (Nf.kn w.heap.size).cells = #[.slice (some ⟨w.heap.size, 0, none⟩) 1 1, .int .i64 1, .slice (some ⟨w.heap.size + 1, 0, none⟩) 1 1, .slice (some ⟨w.heap.size + 1 + 1, 0, none⟩) 1 1] := rfl
  have Hblkc := Sp.hid hblkc
  clear n1 n2 n3 n4 hb0 hat HW0 hw0 HW2 hblkc
  go_enter Try.func9, Try.ntmps9
  go_wp2_with fail
  refine HW.out.mono ?_
  rintro e w2 ⟨bo, m, cap, els, more, er, rfl, hrow, hb2, hsp⟩
  rw [Nf.kn_words] at hsp
  simp only [Prod.mk.injEq] at hsp
  obtain ⟨hls, rfl, rfl⟩ := hsp
  have hlen : els.length = 2 := by have := congrArg List.length hls; simpa [Sp.lists] using this
  match els, hlen, hls, hrow with
  | [x, y], _, hls, hrow =>
    simp only [Sp.lists, List.map_cons, List.map_nil, List.cons.injEq, and_true] at hls
    have hm : m = 2 := hrow.1.symm
    subst hm
    obtain ⟨b, off, rfl, hcc⟩ := hrow.2.2.1 (by omega)
    have c0 : w2.cell? ⟨b, off, none⟩ = some x.val := hcc 0 x rfl
    have c1 : w2.cell? ⟨b, off + 1, none⟩ = some y.val := hcc 1 y rfl
    have hx0 : x.n = 0 := by have := (hrow.2.2.2 x (by simp)).1; rw [hls.1] at this; exact this.symm
    have hy0 : y.n = 1 := by have := (hrow.2.2.2 y (by simp)).1; rw [hls.2] at this; exact this.symm
    unfold Lst.val at c0 c1
    rw [hx0] at c0
    rw [hy0] at c1
    have hB2 := HB0.out.trans (hb2.mono HB0.out.size)
    have HB2 := Sp.hid hB2
    have hat2 := HAt.out.below hb2
    have hblk := Nf.blk_below HN4.out hb2 (Nf.blk_lt HN4.out)
    rw [Hblkc.out] at hblk
    have d0 : w2.cell? ⟨w.heap.size + 1 + 1 + 1, 0, none⟩ = some (.slice (some ⟨w.heap.size, 0, none⟩) 1 1) := Nf.blk_cell (i := 0) hblk rfl
    have d1 : w2.cell? ⟨w.heap.size + 1 + 1 + 1, 1, none⟩ = some (.int .i64 1) := Nf.blk_cell (i := 1) hblk rfl
    have d2 : w2.cell? ⟨w.heap.size + 1 + 1 + 1, 2, none⟩ = some (.slice (some ⟨w.heap.size + 1, 0, none⟩) 1 1) := Nf.blk_cell (i := 2) hblk rfl
    have d3 : w2.cell? ⟨w.heap.size + 1 + 1 + 1, 3, none⟩ = some (.slice (some ⟨w.heap.size + 1 + 1, 0, none⟩) 1 1) := Nf.blk_cell (i := 3) hblk rfl
    have HF : Calls Try.prog 27 #[.agg #[.slice (some ⟨w.heap.size, 0, none⟩) 1 1, .int .i64 1, .slice (some ⟨w.heap.size + 1, 0, none⟩) 1 1, .slice (some ⟨w.heap.size + 1 + 1, 0, none⟩) 1 1]] w2 (Nf.FinPost (Nf.kn w.heap.size) w2) := finite_any w2 (Nf.kn w.heap.size) hat2
    have HF := Sp.hid HF
    clear hls hrow hcc hx0 hy0 hB2 hat2 hblk hb2
    go_wp2_with fail
    refine HF.out.mono ?_
    rintro e w3 ⟨rfl, hb3⟩
    have e0 : w3.cell? ⟨b, off, none⟩ = some (.slice x.ao 0 x.cap) := by rw [hb3.cell (p := ⟨b, off, none⟩) (World.block_lt_of_cell? w2 _ c0)]; exact c0
    have e1 : w3.cell? ⟨b, off + 1, none⟩ = some (.slice y.ao 1 y.cap) := by rw [hb3.cell (p := ⟨b, off + 1, none⟩) (World.block_lt_of_cell? w2 _ c1)]; exact c1
    have HB3 := Sp.hid (HB2.out.trans (hb3.mono HB2.out.size))
    rw [Nf.kn_fin]
    clear hb3 c0 c1
    go_wp2_with fail
    go_ret
    exact ⟨rfl, HB3.out⟩
end Go.Proofs.Ythpnipkihpoooaa
