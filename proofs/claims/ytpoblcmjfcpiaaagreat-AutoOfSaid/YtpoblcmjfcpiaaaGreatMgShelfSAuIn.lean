/-
  A contract of a library function at this program, laid by the kit's tool in plain words.
-/
import Derived.Shelf.SlSorted.Search
import Derived.Ground.SlsoProg
import Derived.Test.YtpoblcmjfcpiaaaGreatProg
import Derived.Test.YtpoblcmjfcpiaaaGreatMgAuSn
namespace Go.Proofs
open Go.Shelf
def Tryz.laysSearchStrings_ren : Go.Shelf.Ren := ⟨fun | 15 => 80 | 23 => 102 | 16 => 101 | n => n, fun | 30 => 22 | 9 => 9 | 3 => 3 | 0 => 0 | 35 => 80 | 4 => 4 | 38 => 123 | n => n, fun | n => n⟩
theorem Tryz.laysSearchStrings : Go.Proofs.SlLaysO.n15 Tryz.prog Tryz.laysSearchStrings_ren := {
  mixed := by kernel_rfl
  f15 := Tryz.func80.trans (congrArg some (by kernel_rfl))
  f16 := Tryz.func101.trans (congrArg some (by kernel_rfl))
  f23 := Tryz.func102.trans (congrArg some (by kernel_rfl))
  t0 := Tryz.underlying0
  a0 := Tryz.isAgg0
  z0 := Tryz.sizeOf0
  v0 := Tryz.zeroValue0
  t3 := Tryz.underlying3
  a3 := Tryz.isAgg3
  z3 := Tryz.sizeOf3
  v3 := Tryz.zeroValue3
  t4 := Tryz.underlying4
  a4 := Tryz.isAgg4
  z4 := Tryz.sizeOf4
  v4 := Tryz.zeroValue4
  t9 := Tryz.underlying9
  a9 := Tryz.isAgg9
  z9 := Tryz.sizeOf9
  v9 := Tryz.zeroValue9
  t30 := Tryz.underlying22
  a30 := Tryz.isAgg22
  z30 := Tryz.sizeOf22
  v30 := Tryz.zeroValue22
  t35 := Tryz.underlying80
  a35 := Tryz.isAgg80
  z35 := Tryz.sizeOf80
  v35 := Tryz.zeroValue80
  t38 := Tryz.underlying123
  a38 := Tryz.isAgg123
  z38 := Tryz.sizeOf123
  v38 := Tryz.zeroValue123 }
end Go.Proofs

/-
  The walk of isIn.
-/
set_option linter.unusedVariables false
set_option linter.unusedSimpArgs false
namespace Go.Proofs.YtpoblcmjfcpiaaaGreat
open Go.RowKit
namespace Nf
theorem count_asc (s : ByteArray) : ∀ {l : List ByteArray}, Sp.Asc l → (s ∈ l ↔ l[l.countP (fun y => Sp.less y s)]? = some s)
  | [], _ => by simp
  | a :: r, h => by
    have h2 := List.pairwise_cons.1 h
    by_cases ha : Sp.less a s = true
    · have hne : s ≠ a := fun e => by subst e; rw [Sp.less_irrefl] at ha; cases ha
      rw [List.countP_cons_of_pos (p := fun y => Sp.less y s) ha, List.getElem?_cons_succ, ← count_asc s (l := r) h2.2, List.mem_cons]
      simp [hne]
    · have h0 : r.countP (fun y => Sp.less y s) = 0 := by
        rw [List.countP_eq_zero]
        intro y hy hys
        exact ha (Sp.less_trans (h2.1 y hy) hys)
      rw [List.countP_cons_of_neg (p := fun y => Sp.less y s) ha, h0, List.getElem?_cons_zero, List.mem_cons]
      constructor
      · rintro (e | hm)
        · rw [e]
        · exact absurd (h2.1 s hm) ha
      · intro e; injection e with e; exact .inl e.symm
end Nf

set_option maxHeartbeats 1000000 in
set_option maxRecDepth 100000 in
theorem searchS_any (w : World) (so : Option Addr) (n cap : Nat) (sig : List ByteArray) (s : ByteArray) (h : Sp.Row w so n sig) (hn : n ≤ 40) (ha : Sp.Asc sig) :
    Calls Tryz.prog 80 #[.slice so n cap, .string s] w (fun e w' => e = .returned (.int .i64 (sig.countP (fun y => Sp.less y s) : Nat)) ∧ Below w.heap.size w w') := by
  have hl := h.1
  by_cases h0 : n = 0
  · subst h0
    have hl0 : sig = [] := List.length_eq_zero_iff.1 hl
    subst hl0
    have hs := Any.sort_SearchStrings_none Tryz.laysSearchStrings so cap s w
    exact hs
  · obtain ⟨b, off, rfl, hc⟩ := h.2.2.1 (by omega)
    have hsz : sig.toArray.size = n := by simpa using hl
    have hget : ∀ i, i < n → sig.toArray[i]! = sig.getD i ByteArray.empty := fun i hi => by
      rw [getElem!_pos sig.toArray i (by omega)]
      simp [List.getD, hl, hi]
    have hs := Any.sort_SearchStrings Tryz.laysSearchStrings b off cap sig.toArray s w (fun i hi => by rw [hget i (by omega)]; exact hc i (by omega)) (World.block_lt_of_cell? w _ (hc 0 (by omega))) (by omega) (fun x y hxy hy hx => by
      rw [hget x (by omega)] at hx
      rw [hget y (by omega)]
      simp only [Bool.not_eq_true', decide_eq_false_iff_not] at hx ⊢
      intro hlt
      by_cases e : x = y
      · subst e; exact hx hlt
      · have hx2 : sig.getD x ByteArray.empty = sig[x] := by simp [List.getD, hl, show x < n by omega]
        have hy2 : sig.getD y ByteArray.empty = sig[y] := by simp [List.getD, hl, show y < n by omega]
        have hp := List.pairwise_iff_getElem.1 ha x y (by omega) (by omega) (by omega)
        rw [hx2] at hx
        rw [hy2] at hlt
        exact hx ((Sp.less_iff _ _).1 (Sp.less_trans hp ((Sp.less_iff _ _).2 hlt))))
    rw [hsz] at hs
    have hf : (fun y : ByteArray => !!decide (y.data.toList < s.data.toList)) = fun y => Sp.less y s := funext fun y => by
      rw [Bool.not_not]
      cases hh : Sp.less y s with
      | true => simpa using (Sp.less_iff y s).1 hh
      | false =>
        have : ¬ y.data.toList < s.data.toList := fun h => by rw [(Sp.less_iff y s).2 h] at hh; cases hh
        simpa using this
    rw [hf] at hs
    exact hs

set_option maxHeartbeats 1000000 in
set_option maxRecDepth 100000 in
theorem isIn_any (w : World) (so : Option Addr) (n cap : Nat) (sig : List ByteArray) (s : ByteArray) (h : Sp.Row w so n sig) (hn : n ≤ 40) (ha : Sp.Asc sig) :
    Calls Tryz.prog 50 #[.slice so n cap, .string s] w (fun e w' => e = .returned (.bool (Nf.bl (s ∈ sig))) ∧ Below w.heap.size w w') := by
  have HS := Sp.hid (searchS_any w so n cap sig s h hn ha)
  have hiff := Nf.count_asc s ha
  obtain ⟨i, hi⟩ : ∃ i, sig.countP (fun y => Sp.less y s) = i := ⟨_, rfl⟩
  rw [hi] at HS hiff
  have Hiff := Sp.hid hiff
  have H := Sp.hid h
  clear hiff h ha hi
  by_cases hin : i < n
  · obtain ⟨b, off, t, rfl, hc, hsz, hget, _⟩ := H.out.at hin
    have hlt := World.block_lt_of_cell? w _ hc
    have i1 : (0 : Int) ≤ (i : Int) := by omega
    have i2 : (i : Int) < (n : Int) := by omega
    by_cases he : t = s
    · have hm : s ∈ sig := Hiff.out.2 (by rw [hget, he])
      have hb := Sp.hid (Nf.bl_true hm)
      have hq := str_eq t s he
      clear hm hget he
      go_enter Tryz.func50, Tryz.ntmps50
      go_wp2_with fail
      refine HS.out.mono ?_
      rintro e w' ⟨rfl, hb'⟩
      have Hb' := Sp.hid hb'
      have hc' : w'.cell? ⟨b, off + i, none⟩ = some (.string t) := by rw [hb'.cell (p := ⟨b, off + i, none⟩) hlt]; exact hc
      clear hb'
      go_wp2_with fail
      go_ret
      exact ⟨by rw [hb.out]; rfl, Hb'.out⟩
    · have hm : ¬ s ∈ sig := fun h => he (by have := Hiff.out.1 h; rw [hget] at this; injection this)
      have hb := Sp.hid (Nf.bl_false hm)
      have hq := str_ne t s he
      clear hm hget he
      go_enter Tryz.func50, Tryz.ntmps50
      go_wp2_with fail
      refine HS.out.mono ?_
      rintro e w' ⟨rfl, hb'⟩
      have Hb' := Sp.hid hb'
      have hc' : w'.cell? ⟨b, off + i, none⟩ = some (.string t) := by rw [hb'.cell (p := ⟨b, off + i, none⟩) hlt]; exact hc
      clear hb'
      go_wp2_with fail
      go_ret
      exact ⟨by rw [hb.out]; rfl, Hb'.out⟩
  · have hm : ¬ s ∈ sig := fun h => by
      have h1 := (List.getElem?_eq_some_iff.1 (Hiff.out.1 h)).1
      rw [H.out.1] at h1; omega
    have hb := Sp.hid (Nf.bl_false hm)
    have i2 : ¬ (i : Int) < (n : Int) := by omega
    clear hm hin
    go_enter Tryz.func50, Tryz.ntmps50
    go_wp2_with fail
    refine HS.out.mono ?_
    rintro e w' ⟨rfl, hb'⟩
    have Hb' := Sp.hid hb'
    clear hb'
    go_wp2_with fail
    go_ret
    exact ⟨by rw [hb.out]; rfl, Hb'.out⟩
end Go.Proofs.YtpoblcmjfcpiaaaGreat
