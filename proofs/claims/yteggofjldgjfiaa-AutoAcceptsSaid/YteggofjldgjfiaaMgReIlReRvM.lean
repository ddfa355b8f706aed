/-
  The walks of the reference's IsLong (of one list) and Turned.
-/
import Derived.Test.YteggofjldgjfiaaMgReRowReMem
import Derived.WalkKit
import Derived.WalkSpells
import Derived.WalkLawsBesides
import Derived.Test.YteggofjldgjfiaaMgReTurnReClMReSortReNg
import Derived.Test.YteggofjldgjfiaaMgAuCp
set_option linter.unusedVariables false
set_option linter.unusedSimpArgs false
namespace Go.Proofs.Yteggofjldgjfiaa
open Go.RowKit

def Nf.SomeBool (w : World) (e : Ending) (w' : World) : Prop := ∃ r : Bool, e = .returned (.bool r) ∧ w = w'
set_option maxHeartbeats 2000000 in
set_option maxRecDepth 100000 in
theorem isLong_any (w : World) (B : Nat) (wo : Option Addr) (wn wcap : Nat) (W : List ByteArray) (hc : w.cell? ⟨B, 0, none⟩ = some (.slice wo wn wcap)) (hW : Sp.Row w wo wn W) :
    Calls Try.prog 14 #[.slice (some ⟨B, 0, none⟩) 1 1] w (Nf.SomeBool w) := by
  have hn := hW.le
  have HW := Sp.hid hW
  clear hW
  go_enter Try.func14, Try.ntmps14
  go_wp2_with fail
  go_loopw [3, 4, 5] (fun s i _ wr => ∃ (a : Int) (k : Nat), s = .int .i64 a ∧ i = .int .i64 k ∧ k ≤ 1 ∧ wr = w) (fun _ i _ _ => 1 - (intOf i).toNat)
  case atStart => exact ⟨_, 0, rfl, rfl, Nat.zero_le _, rfl⟩
  case round =>
    obtain ⟨a, k, rfl, rfl, hk, rfl⟩ := hrel
    rename World => w
    by_cases hk1 : k < 1
    · have h0 : k = 0 := by omega
      subst h0
      by_cases ha : a ≤ 16384
      · go_wp2_with fail
        go_loopw [3, 5] (fun s j wr => ∃ (a : Int) (m : Nat), s = .int .i64 a ∧ j = .int .i64 m ∧ m ≤ wn ∧ wr = w) (fun _ j _ => wn - (intOf j).toNat)
        case atStart => exact ⟨_, 0, rfl, rfl, Nat.zero_le _, rfl⟩
        case round =>
          clear ha
          obtain ⟨a, m, rfl, rfl, hm, rfl⟩ := hrel
          by_cases hmn : m < wn
          · by_cases ha : a ≤ 16384
            · obtain ⟨b, off, s, rfl, cs, hsz, _, _⟩ := HW.out.at hmn
              go_wp2_with fail
              go_roundw
              case rel => exact ⟨_, m + 1, rfl, by go_num, hmn, trivial⟩
              case measure => simp [intOf]; omega
            · go_wp2_with fail
              go_roundw
              case rel => exact ⟨_, 1, rfl, by go_num, by omega, trivial⟩
              case measure => simp [intOf]
          · go_wp2_with fail
            go_roundw
            case rel => exact ⟨_, 1, rfl, by go_num, by omega, trivial⟩
            case measure => simp [intOf]
      · go_wp2_with fail
        go_ret
        exact ⟨_, rfl, rfl⟩
    · go_wp2_with fail
      go_ret
      exact ⟨_, rfl, rfl⟩

namespace Nf
theorem strInfo : (Try.prog.info? 9).map (fun i => (i.zero, i.size, i.bytes)) = some (some (.string ⟨#[]⟩), 1, 16) := by kernel_rfl
/-- One text appended to a row of the call's own. -/
theorem push_str {w : World} {ops : Array Oper} {rest : List Oper} {o : Oper} {a : Act} {Q : Exit → Act → World → Prop} (hgd : o.guard = none) (s x : Operand)
    (ho : o.op = .call { callee := .builtin .append, args := #[s, x], argTypes := #[22, 22] })
    (base : Nat) (v : Value) (L : List ByteArray) (hs : a.eval s = v) (hown : w.ownsRow base 9 1 v L.length (L.map Value.string))
    (q : ByteArray) (ad : Addr) (c : Nat) (hx : a.eval x = .slice (some ad) 1 c) (hc : w.cell? ad = some (.string q)) (hbig : (L.length + 1) * 16 ≤ 140737488351232) (hbase : base ≤ w.heap.size)
    (h : ∀ v' w', w'.ownsRow base 9 1 v' (L ++ [q]).length ((L ++ [q]).map Value.string) → w.grownBy w' v.ownBlock → (v'.ownBlock = v.ownBlock ∨ v'.ownBlock = some w.heap.size) → wpList Try.prog ops Q rest (a.put o.dst v') w') : wpList Try.prog ops Q (o :: rest) a w := by
  obtain ⟨i0, hi, hz0, hz1, hz2⟩ := info_parts strInfo
  have hnews : ∀ j u, ([Value.string q])[j]? = some u → w.cell? (ad.add j) = some u := by
    intro j u hj
    match j, hj with
    | 0, hj =>
      simp at hj; subst hj
      have : ad.add 0 = ad := by unfold Addr.add; obtain ⟨b, o, sp⟩ := ad; cases sp <;> simp
      rw [this]; exact hc
  refine wpList_append_own_at w hgd s x 22 ho base 9 i0 (.string ⟨#[]⟩) 1 16 Try.underlying22 hi hz0 hz1 hz2 rfl (by decide) v _ _ hs hown ad 1 c [.string q] hx rfl hnews (fun u hu => by simp at hu; subst hu; rfl) (by unfold maxLen; omega) (by omega) hbase ?_
  intro v' w' hown' hgrow _ hat
  exact h v' w' (by simpa using hown') hgrow hat
theorem row_of_own {w : World} {base : Nat} {v : Value} {L : List ByteArray} (h : w.ownsRow base 9 1 v L.length (L.map Value.string)) (hm : L.length ≤ maxLen) (hs : ∀ s ∈ L, s.size ≤ maxLen) : ∃ ao cap, v = .slice ao L.length cap ∧ Sp.Row w ao L.length L ∧ L.length ≤ cap := by
  obtain ⟨ao, cap, hv, hseq, hc⟩ := seq_of_own (en := Value.string) h hm
  refine ⟨ao, cap, hv, ⟨rfl, hm, fun h0 => ?_, hs⟩, hc⟩
  obtain ⟨b, off, e, hcc⟩ := hseq.2.2 h0
  refine ⟨b, off, e, fun i hi => ?_⟩
  rw [hcc i L[i] (by simp [hi])]
  simp [List.getD, hi]
end Nf

set_option maxHeartbeats 2000000 in
set_option maxRecDepth 100000 in
theorem turned_any (w : World) (wo : Option Addr) (wn wcap : Nat) (W : List ByteArray) (hW : Sp.Row w wo wn W) (hr : wn * 16 ≤ 140737488351232) :
    Calls Try.prog 22 #[.slice wo wn wcap] w (fun e w' => ∃ ao cap, e = .returned (.slice ao wn cap) ∧ Sp.Row w' ao wn W.reverse ∧ Below w.heap.size w w') := by
  have HW := Sp.hid hW
  have Hlen := Sp.hid hW.1
  clear hW
  go_enter Try.func22, Try.ntmps22
  go_wp2_with fail
  go_loopw [3, 4] (fun o i wr => ∃ (k : Nat) (lv : Value), k ≤ wn ∧ i = .int .i64 ((wn : Int) - 1 - k) ∧ lv = o ∧ wr.ownsRow w.heap.size 9 1 lv (W.drop (wn - k)).reverse.length ((W.drop (wn - k)).reverse.map Value.string) ∧ Below w.heap.size w wr) (fun _ i _ => (intOf i + 1).toNat)
  case atStart => exact ⟨0, _, Nat.zero_le _, by simp, rfl, by rw [show W.drop (wn - 0) = [] by rw [Nat.sub_zero, ← Hlen.out]; simp]; exact World.ownsRow_nil _ _ _ _, Below.refl _ _⟩
  case round =>
    obtain ⟨k, lv, hk, rfl, rfl, hown, hbel⟩ := hrel
    have Hown := Sp.hid hown
    have Hbel := Sp.hid hbel
    clear hown hbel
    by_cases hkn : k < wn
    · obtain ⟨b, off, s, rfl, cs, hsz, hs?, _⟩ := (HW.out.below Hbel.out).at (k := wn - 1 - k) (by omega)
      have hz := Hbel.out.size
      have e1 : W.drop (wn - (k + 1)) = s :: W.drop (wn - k) := by
        have h1 := (List.getElem?_eq_some_iff.1 hs?)
        obtain ⟨hl, he⟩ := h1
        rw [show wn - (k + 1) = wn - 1 - k by omega, List.drop_eq_getElem_cons hl, he, show wn - 1 - k + 1 = wn - k by omega]
      have E1 := Sp.hid e1
      have hl : (W.drop (wn - k)).reverse.length ≤ k := by simp [Hlen.out]; omega
      have Hl := Sp.hid hl
      have i0 : (0 : Int) ≤ (wn : Int) - 1 - k := by omega
      have i1 : (wn : Int) - 1 - k < (wn : Int) := by omega
      have i2 : ((wn : Int) - 1 - k).toNat = wn - 1 - k := by omega
      have I2 := Sp.hid i2
      have Hown2 := Sp.hid (show (wr.alloc (.cells #[.string s] 9)).ownsRow w.heap.size 9 1 lv (W.drop (wn - k)).reverse.length ((W.drop (wn - k)).reverse.map Value.string) from Hown.out.alloc _)
      have hwB : w.heap.size ≤ (wr.alloc (.cells #[.string s] 9)).heap.size := by simp; omega
      clear hs? e1 hl
      go_wp2_with (at_builtin; refine Nf.push_str rfl _ _ rfl w.heap.size lv (W.drop (wn - k)).reverse rfl Hown2.out s ⟨wr.heap.size, 0, none⟩ 1 rfl ?c1 ?c2 ?c3 ?_)
      case c1 => simp [go_sem]
      case c2 => have := Hl.out; omega
      case c3 => exact hwB
      intro v2 w2 hown2 hgrow2 hat2
      have Hb2 := Sp.hid ((Hbel.out.alloc hz (.cells #[.string s] 9)).grown hgrow2 hwB (fun k hk => (Hown2.out.lt k hk).1))
      have Ho2 := Sp.hid hown2
      clear hown2 hgrow2 hat2
      go_wp2_with fail
      go_roundw
      case rel =>
        refine ⟨k + 1, v2, hkn, by go_num, rfl, ?_, Hb2.out⟩
        rw [E1.out]
        simpa using Ho2.out
      case measure => simp [intOf]; omega
    · have hkk : k = wn := by omega
      have e2 : (W.drop (wn - k)).reverse = W.reverse := by rw [hkk]; simp
      have Hown2 := Sp.hid (show wr.ownsRow w.heap.size 9 1 lv W.reverse.length (W.reverse.map Value.string) by have h := Hown.out; rwa [e2] at h)
      have i0 : (wn : Int) - 1 - k < 0 := by omega
      clear e2 hkk
      go_wp2_with fail
      go_ret
      have hlr : W.reverse.length = wn := by simp [Hlen.out]
      obtain ⟨ao, cap, hv, hrow, _⟩ := Nf.row_of_own Hown2.out (by rw [hlr]; unfold maxLen; omega) (fun s hs => HW.out.2.2.2 s (List.mem_reverse.1 hs))
      rw [hlr] at hv hrow
      exact ⟨ao, cap, by rw [hv]; rfl, hrow, Hbel.out⟩
end Go.Proofs.Yteggofjldgjfiaa

/-
  Nets turned round: what lies in memory while they grow.
-/
set_option linter.unusedVariables false
namespace Go.Proofs.Yteggofjldgjfiaa
open Go.RowKit
namespace Nf

theorem own_own_ne {w : World} {b1 b2 : Nat} {e1 e2 : TypeId} {s1 s2 n1 n2 : Nat} {v1 v2 : Value} {x1 x2 : List Value} (h : w.ownsRow b1 e1 s1 v1 n1 x1) (k : w.ownsRow b2 e2 s2 v2 n2 x2) (hne : e1 ≠ e2) : v1.ownBlock = none ∨ v1.ownBlock ≠ v2.ownBlock := by
  rcases k.2 with ⟨rfl, _⟩ | ⟨g, cap, cur, rfl, _, hg, _⟩
  · cases hv : v1.ownBlock with
    | none => exact .inl rfl
    | some b => right; simp [Value.ownBlock]
  · right
    simp only [Value.ownBlock]
    exact own_ne h hg hne

/-- A net under way: its own block is rB. -/
structure RvAt (w0 w : World) (B R rB eB : Nat) (nc : Array Value) (sv : Value) (sig : List ByteArray) (st : Int) (l : List ArcV) (lv : Value) : Prop where
  nblk : w.heap[B]? = some (.cells nc 26 (0, 0))
  zblk : w.heap[R]? = some (.cells #[.slice none 0 0, .int .i64 0, .slice none 0 0, .slice none 0 0] 26 (0, 0))
  rblk : w.heap[rB]? = some (.cells #[sv, .int .i64 st, lv, .slice (some ⟨eB, 0, none⟩) 1 1] 26 (0, 0))
  eblk : w.heap[eB]? = some (.cells #[.int .i64 1, .int .i64 0] 55 (0, 0))
  sown : w.ownsRow w0.heap.size 9 1 sv sig.length (sig.map Value.string)
  lown : w.ownsRow w0.heap.size 53 5 lv l.length (l.flatMap arcCells)
  below : Below w0.heap.size w0 w
  rbase : w0.heap.size ≤ R
  bbase : w0.heap.size ≤ rB
  neB : rB ≠ B
  neR : rB ≠ R
section
variable {w0 w w1 : World} {B R rB eB : Nat} {nc : Array Value} {sv lv : Value} {sig : List ByteArray} {st : Int} {l : List ArcV}
theorem RvAt.under (h : RvAt w0 w B R rB eB nc sv sig st l lv) (hb : Below w.heap.size w w1) : RvAt w0 w1 B R rB eB nc sv sig st l lv := by
  have hg : w.grownBy w1 none := ⟨hb.os, hb.tape, hb.output, hb.size, fun i hi _ => hb.block i hi⟩
  have kp : ∀ v : Value, v.ownBlock = none ∨ v.ownBlock ≠ none := fun v => by cases v.ownBlock <;> simp
  exact ⟨blk_below h.nblk hb (blk_lt h.nblk), blk_below h.zblk hb (blk_lt h.zblk), blk_below h.rblk hb (blk_lt h.rblk), blk_below h.eblk hb (blk_lt h.eblk), h.sown.kept hg (kp _), h.lown.kept hg (kp _), h.below.trans (hb.mono h.below.size), h.rbase, h.bbase, h.neB, h.neR⟩
theorem RvAt.alloc (h : RvAt w0 w B R rB eB nc sv sig st l lv) (o : Obj) : RvAt w0 (w.alloc o) B R rB eB nc sv sig st l lv := h.under ((Below.refl _ w).alloc (Nat.le_refl _) o)
theorem RvAt.drew (h : RvAt w0 w B R rB eB nc sv sig st l lv) : RvAt w0 w.drew B R rB eB nc sv sig st l lv := h.under ((Below.refl _ w).drew)
theorem RvAt.push (h : RvAt w0 w B R rB eB nc sv sig st l lv) {a : ArcV} {v' : Value} (hg : w.grownBy w1 lv.ownBlock) (hown : w1.ownsRow w0.heap.size 53 5 v' (l ++ [a]).length ((l ++ [a]).flatMap arcCells)) :
    RvAt w0 (w1.setCell ⟨rB, 2, none⟩ v') B R rB eB nc sv sig st (l ++ [a]) v' := by
  have n1 := blk_grown h.nblk hg (own_ne h.lown h.nblk (by decide))
  have z1 := blk_grown h.zblk hg (own_ne h.lown h.zblk (by decide))
  have r1 := blk_grown h.rblk hg (own_ne h.lown h.rblk (by decide))
  have e1 := blk_grown h.eblk hg (own_ne h.lown h.eblk (by decide))
  have s1 := h.sown.kept hg (own_own_ne h.sown h.lown (by decide))
  have b1 := h.below.grown hg h.below.size (fun k hk => (h.lown.lt k hk).1)
  refine ⟨blk_far n1 (a := ⟨rB, 2, none⟩) (fun e => h.neB e.symm) _, blk_far z1 (a := ⟨rB, 2, none⟩) (fun e => h.neR e.symm) _, blk_set (i := 2) r1 v', blk_far e1 (a := ⟨rB, 2, none⟩) (fun e => blk_ne e1 r1 (by decide) e) _, own_far s1 (a := ⟨rB, 2, none⟩) (own_ne s1 r1 (by decide)), own_far hown (a := ⟨rB, 2, none⟩) (own_ne hown r1 (by decide)), b1.setCell (p := ⟨rB, 2, none⟩) h.bbase _, h.rbase, h.bbase, h.neB, h.neR⟩
/-- What is handed back: the net's cells in the result's block. -/
theorem RvAt.res (h : RvAt w0 w B R rB eB nc sv sig st l lv) (hl : l.length ≤ 60000) (hs : ∀ x ∈ l, x.i.size ≤ maxLen ∧ x.o.size ≤ maxLen) (hsg : ∀ s ∈ sig, s.size ≤ maxLen) (hsl : sig.length ≤ maxLen) (h1 : -9223372036854775808 ≤ st) (h2 : st ≤ 9223372036854775807) :
    ∃ m : Net, #[sv, .int .i64 st, lv, .slice (some ⟨eB, 0, none⟩) 1 1] = m.cells ∧ m.sig = sig ∧ m.st = st ∧ m.arcs = l ∧ m.ends = [⟨1, 0⟩] ∧
      ∀ a b c d : Value, NetAt ((((w.setCell ⟨R, 0, none⟩ a).setCell ⟨R, 1, none⟩ b).setCell ⟨R, 2, none⟩ c).setCell ⟨R, 3, none⟩ d) m ∧
        ((((w.setCell ⟨R, 0, none⟩ a).setCell ⟨R, 1, none⟩ b).setCell ⟨R, 2, none⟩ c).setCell ⟨R, 3, none⟩ d).heap[R]? = some (.cells #[a, b, c, d] 26 (0, 0)) ∧
        Below w0.heap.size w0 ((((w.setCell ⟨R, 0, none⟩ a).setCell ⟨R, 1, none⟩ b).setCell ⟨R, 2, none⟩ c).setCell ⟨R, 3, none⟩ d) := by
  obtain ⟨so, scap, rfl, hrow, _⟩ := row_of_own h.sown hsl hsg
  obtain ⟨ao, acap, rfl, harcs, hab⟩ := arcs_of_own h.lown (by omega) hs
  have sne : 0 < sig.length → ∀ a, so = some a → a.block ≠ R := by
    intro h0 a ha e
    subst ha
    have h3 := own_ne h.sown h.zblk (by decide)
    apply h3
    rcases h.sown.2 with ⟨hv, h4⟩ | ⟨g, cap, cur, hv, _⟩
    · omega
    · injection hv with hv _ _
      injection hv with hv
      subst hv
      simp only [Value.ownBlock]
      rw [← e]
  have ane : ∀ a, ao = some a → a.block ≠ R := by
    intro a ha e
    subst ha
    have h3 := own_ne h.lown h.zblk (by decide)
    apply h3
    rcases h.lown.2 with ⟨hv, h4⟩ | ⟨g, cap, cur, hv, _⟩
    · injection hv with hv _ _
      cases hv
    · injection hv with hv _ _
      injection hv with hv
      subst hv
      simp only [Value.ownBlock]
      rw [← e]
  have ene : eB ≠ R := blk_ne h.eblk h.zblk (by decide)
  have hends : EndsAt w (some ⟨eB, 0, none⟩) 1 [⟨1, 0⟩] := ⟨rfl, by decide, fun _ => ⟨eB, 0, rfl, fun k x hx => by
    match k, hx with
    | 0, hx => simp at hx; subst hx; exact ⟨blk_cell (i := 0) h.eblk rfl, blk_cell (i := 1) h.eblk rfl⟩⟩⟩
  refine ⟨⟨so, sig.length, scap, sig, st, ao, l.length, acap, l, some ⟨eB, 0, none⟩, 1, 1, [⟨1, 0⟩]⟩, rfl, rfl, rfl, rfl, rfl, fun a b c d => ⟨⟨?_, ?_, ?_, h1, h2⟩, ?_, ?_⟩⟩
  · exact row_far (row_far (row_far (row_far hrow sne a) sne b) sne c) sne d
  · exact arcs_far (arcs_far (arcs_far (arcs_far harcs ane a) ane b) ane c) ane d
  · have ee : ∀ a : Addr, (some ⟨eB, 0, none⟩ : Option Addr) = some a → a.block ≠ R := fun a ha => by cases ha; exact ene
    exact ends_far (ends_far (ends_far (ends_far hends ee a) ee b) ee c) ee d
  · exact blk_set (i := 3) (blk_set (i := 2) (blk_set (i := 1) (blk_set (i := 0) h.zblk a) b) c) d
  · exact (((h.below.setCell (p := ⟨R, 0, none⟩) h.rbase a).setCell (p := ⟨R, 1, none⟩) h.rbase b).setCell (p := ⟨R, 2, none⟩) h.rbase c).setCell (p := ⟨R, 3, none⟩) h.rbase d
end
theorem blk_drew {w : World} {g : Nat} {o : Obj} (h : w.heap[g]? = some o) : w.drew.heap[g]? = some o := h
/-- A net laid out in a block that was zero. -/
theorem rv_set4 {w3 : World} {zb : Nat} (hz : w3.heap[zb]? = some (.cells #[.slice none 0 0, .int .i64 0, .slice none 0 0, .slice none 0 0] 26 (0, 0))) (a b c d : Value) {wx : World}
    (hx : wx = (((w3.setCell ⟨zb, 0, none⟩ a).setCell ⟨zb, 1, none⟩ b).setCell ⟨zb, 2, none⟩ c).setCell ⟨zb, 3, none⟩ d) :
    wx.heap[zb]? = some (.cells #[a, b, c, d] 26 (0, 0)) ∧ (∀ (k : Nat) (o : Obj), k ≠ zb → w3.heap[k]? = some o → wx.heap[k]? = some o) ∧
    (∀ (base n : Nat) (v : Value) (xs : List Value), w3.ownsRow base 9 1 v n xs → wx.ownsRow base 9 1 v n xs) ∧ wx.heap.size = w3.heap.size ∧ (∀ (B : Nat) (w2 : World), Below B w2 w3 → B ≤ zb → Below B w2 wx) := by
  subst hx
  have b1 := blk_set (i := 0) hz a
  have b2 := blk_set (i := 1) b1 b
  have b3 := blk_set (i := 2) b2 c
  refine ⟨blk_set (i := 3) b3 d, fun k o hne hk => ?_, fun base n v xs h => ?_, by simp [World.setCell], fun B w2 h hB => ?_⟩
  · exact blk_far (blk_far (blk_far (blk_far hk (a := ⟨zb, 0, none⟩) hne a) (a := ⟨zb, 1, none⟩) hne b) (a := ⟨zb, 2, none⟩) hne c) (a := ⟨zb, 3, none⟩) hne d
  · have h1 := own_far (u := a) h (a := ⟨zb, 0, none⟩) (own_ne h hz (by decide))
    have h2 := own_far (u := b) h1 (a := ⟨zb, 1, none⟩) (own_ne h1 b1 (by decide))
    have h3 := own_far (u := c) h2 (a := ⟨zb, 2, none⟩) (own_ne h2 b2 (by decide))
    exact own_far (u := d) h3 (a := ⟨zb, 3, none⟩) (own_ne h3 b3 (by decide))
  · exact (((h.setCell (p := ⟨zb, 0, none⟩) hB a).setCell (p := ⟨zb, 1, none⟩) hB b).setCell (p := ⟨zb, 2, none⟩) hB c).setCell (p := ⟨zb, 3, none⟩) hB d
theorem RvAt.start {w0 w2 wx : World} {B R rB eB : Nat} {nc : Array Value} {sv : Value} {sig : List ByteArray} {st : Int} (hN : w2.heap[B]? = some (.cells nc 26 (0, 0)))
    (hZ : w2.heap[R]? = some (.cells #[.slice none 0 0, .int .i64 0, .slice none 0 0, .slice none 0 0] 26 (0, 0))) (h02 : Below w0.heap.size w0 w2) (hR : w0.heap.size ≤ R) (hb : Below w2.heap.size w2 wx) (hge : w2.heap.size ≤ rB)
    (hr : wx.heap[rB]? = some (.cells #[sv, .int .i64 st, .slice none 0 0, .slice (some ⟨eB, 0, none⟩) 1 1] 26 (0, 0))) (he : wx.heap[eB]? = some (.cells #[.int .i64 1, .int .i64 0] 55 (0, 0)))
    (hs : wx.ownsRow w0.heap.size 9 1 sv sig.length (sig.map Value.string)) : RvAt w0 wx B R rB eB nc sv sig st [] (.slice none 0 0) := by
  have lB := blk_lt hN
  have lR := blk_lt hZ
  have hz := h02.size
  exact ⟨blk_below hN hb lB, blk_below hZ hb lR, hr, he, hs, World.ownsRow_nil _ _ _ _, h02.trans (hb.mono hz), hR, by omega, by omega, by omega⟩
/-- One arc appended to a row of the call's own. -/
theorem push_arc {w : World} {ops : Array Oper} {rest : List Oper} {o : Oper} {a : Act} {Q : Exit → Act → World → Prop} (hgd : o.guard = none) (s x : Operand)
    (ho : o.op = .call { callee := .builtin .append, args := #[s, x], argTypes := #[23, 23] })
    (base : Nat) (v : Value) (L : List ArcV) (hs : a.eval s = v) (hown : w.ownsRow base 53 5 v L.length (L.flatMap arcCells))
    (q : ArcV) (b : Nat) (c : Nat) (hx : a.eval x = .slice (some ⟨b, 0, none⟩) 1 c) (hc : w.heap[b]? = some (.cells #[.int .i64 q.f, .string q.i, .string q.o, .int .i64 q.t, .int .i64 q.c] 53 (0, 0))) (hbig : L.length ≤ 1000000) (hbase : base ≤ w.heap.size)
    (h : ∀ v' w', w'.ownsRow base 53 5 v' (L ++ [q]).length ((L ++ [q]).flatMap arcCells) → w.grownBy w' v.ownBlock → (v'.ownBlock = v.ownBlock ∨ v'.ownBlock = some w.heap.size) → wpList Try.prog ops Q rest (a.put o.dst v') w') : wpList Try.prog ops Q (o :: rest) a w := by
  obtain ⟨i0, hi, hz0, hz1, hz2⟩ := info_parts arcInfo
  have hnews : ∀ j u, (arcCells q)[j]? = some u → w.cell? ((⟨b, 0, none⟩ : Addr).add j) = some u := by
    intro j u hj
    rw [plain_add, Nat.zero_add]
    refine blk_cell (i := j) hc ?_
    match j, hj with
    | 0, hj => simpa [arcCells] using hj
    | 1, hj => simpa [arcCells] using hj
    | 2, hj => simpa [arcCells] using hj
    | 3, hj => simpa [arcCells] using hj
    | 4, hj => simpa [arcCells] using hj
  refine wpList_append_own_at w hgd s x 23 ho base 53 i0 (.agg #[.int .i64 0, .string ⟨#[]⟩, .string ⟨#[]⟩, .int .i64 0, .int .i64 0]) 5 56 Try.underlying23 hi hz0 hz1 hz2 rfl (by decide) v _ _ hs hown ⟨b, 0, none⟩ 1 c (arcCells q) hx rfl hnews (fun u hu => by simp [arcCells] at hu; rcases hu with rfl | rfl | rfl | rfl | rfl <;> rfl) (by unfold maxLen; omega) (by omega) hbase ?_
  intro v' w' hown' hgrow _ hat
  exact h v' w' (by simpa using hown') hgrow hat
/-- The error of a net that is to be turned. -/
noncomputable def revErr (n : Net) : Int := if errNet n ≠ 0 then errNet n else if n.st = 3000 ∨ 60000 < n.arcs.length + n.ends.length then 3 else 0
def RevPost (n : Net) (w : World) (e : Ending) (w' : World) : Prop :=
  ∃ m : Net, e = .returned (.tuple #[.agg m.cells, .int .i64 (revErr n)]) ∧ NetAt w' m ∧ RowKit.Below w.heap.size w w' ∧ (revErr n = 0 → IsTurn n m) ∧ (revErr n ≠ 0 → m.sig = [] ∧ m.st = 0 ∧ m.arcs = [] ∧ m.ends = [])
def zeroNet : Net := ⟨none, 0, 0, [], 0, none, 0, 0, [], none, 0, 0, []⟩
theorem zeroNet_at (w : World) : NetAt w zeroNet := ⟨⟨rfl, by decide, fun h => absurd h (by decide), by simp [zeroNet]⟩, ⟨rfl, by decide, fun h => absurd h (by decide), by simp [zeroNet]⟩, ⟨rfl, by decide, fun h => absurd h (by decide)⟩, by simp [zeroNet], by simp [zeroNet]⟩
end Nf

set_option maxHeartbeats 1000000 in
/-- A clone, as a row of the call's own. -/
theorem cloneOwn_any (ao : Option Addr) (n cap : Nat) (l : List ByteArray) (w : World) (h : Sp.Row w ao n l) (hn : n * 16 ≤ 140737488351232) :
    Calls Try.prog 34 #[.slice ao n cap] w fun e w' => ∃ v, e = .returned v ∧ w'.ownsRow w.heap.size 9 1 v l.length (l.map Value.string) ∧ Below w.heap.size w w' := by
  have hl := h.1
  by_cases h0 : n = 0
  · subst h0
    have hl0 : l = [] := List.length_eq_zero_iff.1 hl
    subst hl0
    cases ao with
    | none =>
      refine (Try.slices_Clone_string_nil 0 cap w).mono ?_
      rintro e w' ⟨rfl, rfl⟩
      exact ⟨_, rfl, World.ownsRow_nil _ _ _ _, Below.refl _ _⟩
    | some ad =>
      refine (Try.slices_Clone_string_zero ad cap w).mono ?_
      rintro e w' ⟨v, rfl, hown, _, hb⟩
      exact ⟨v, rfl, hown, hb⟩
  · obtain ⟨b, off, rfl, hc⟩ := h.2.2.1 (by omega)
    refine (Try.slices_Clone_string b off n cap l w (by omega) (by omega) (fun j hj => hc j (by omega))).mono ?_
    rintro e w' ⟨v, rfl, hown, _, hb⟩
    rw [List.take_of_length_le (by omega), ← hl] at hown
    exact ⟨v, rfl, hown, hb⟩
end Go.Proofs.Yteggofjldgjfiaa
