/-
  The words of a length, plainly, one symbol behind the other; what stands still while they are listed.
-/
import Derived.Test.YthpnipkihpoooaaAuV
set_option linter.unusedVariables false
namespace Go.Proofs.Ythpnipkihpoooaa
open Go.RowKit
namespace Nf
open Classical in
/-- The words that go on by one symbol. -/
noncomputable def Hs (g : Gr) (k : Nat) (S : Nat → Prop) (s : ByteArray) : List (List ByteArray) := if ∃ q, StepTo g S s q ∧ Ex g k q then (F g k fun q => StepTo g S s q ∧ Ex g k q).map (s :: ·) else []
noncomputable def Fp (g : Gr) (k : Nat) (S : Nat → Prop) (x : Nat) : List (List ByteArray) := (g.sig.take x).flatMap (Hs g k S)
theorem F_succ (g : Gr) (k : Nat) (S : Nat → Prop) : F g (k + 1) S = g.sig.flatMap (Hs g k S) := rfl
theorem Fp_zero (g : Gr) (k : Nat) (S : Nat → Prop) : Fp g k S 0 = [] := by simp [Fp]
theorem Fp_succ {g : Gr} {k : Nat} {S : Nat → Prop} {x : Nat} {s : ByteArray} (h : g.sig[x]? = some s) : Fp g k S (x + 1) = Fp g k S x ++ Hs g k S s := by
  obtain ⟨h1, h2⟩ := List.getElem?_eq_some_iff.1 h
  unfold Fp
  rw [List.take_succ_eq_append_getElem h1, h2, List.flatMap_append]
  simp
theorem Fp_all {g : Gr} {k : Nat} {S : Nat → Prop} {x : Nat} (h : g.sig.length ≤ x) : Fp g k S x = F g (k + 1) S := by
  rw [F_succ, Fp, List.take_of_length_le h]
theorem Fp_rest (g : Gr) (k : Nat) (S : Nat → Prop) (x : Nat) : ∃ r, F g (k + 1) S = Fp g k S x ++ r := ⟨(g.sig.drop x).flatMap (Hs g k S), by
  rw [F_succ, Fp, ← List.flatMap_append, List.take_append_drop]⟩

theorem star_rs {g : Gr} {k r y : Nat} (h : Star (E g) r y) (hy : Ex g k y) : Star (RS g (Ex g k)) r y := by
  induction h with
  | refl a => exact .refl a
  | step h1 h2 ih => exact .step ⟨h1, Ex.back hy h2⟩ (ih hy)
theorem t2_iff {w : World} {gb : Nat} {v : Gv} {g : Gr} (hG : GrAt w gb v g) {k x : Nat} {s : ByteArray} (hs : g.sig[x]? = some s) (l : List Nat) (y : Nat) : T2 g v (Ex g k) l x y ↔ StepTo g (· ∈ l) s y ∧ Ex g k y := by
  have hinj : ∀ s', g.sig[x]? = some s' → s' = s := fun s' h => by rw [hs] at h; injection h with h; exact h.symm
  constructor
  · rintro ⟨z, ⟨h1, q, h2, h3⟩, h4⟩
    obtain ⟨s', h5, h6⟩ := (hG.mv_iff q x z).1 h3
    rw [hinj s' h5] at h6
    exact ⟨⟨q, z, h2, h6, h4.mono fun a b h => h.1⟩, Star.keeps (P := Ex g k) (fun a b h _ => h.2) h4 h1⟩
  · rintro ⟨⟨p, r, h1, h2, h3⟩, h4⟩
    exact ⟨r, ⟨Ex.back h4 h3, p, h1, (hG.mv_iff p x r).2 ⟨s, hs, h2⟩⟩, star_rs h3 h4⟩
theorem Hs_none {g : Gr} {k : Nat} {S : Nat → Prop} {s : ByteArray} {L : List Nat} (h : ∀ y, y ∈ L ↔ StepTo g S s y ∧ Ex g k y) (h0 : L = []) : Hs g k S s = [] := by
  unfold Hs
  rw [if_neg]
  rintro ⟨q, hq⟩
  have := (h q).2 hq
  rw [h0] at this
  simp at this
theorem Hs_some {g : Gr} {k : Nat} {S : Nat → Prop} {s : ByteArray} {L : List Nat} (h : ∀ y, y ∈ L ↔ StepTo g S s y ∧ Ex g k y) (h0 : L ≠ []) : Hs g k S s = (F g k (· ∈ L)).map (s :: ·) := by
  unfold Hs
  obtain ⟨a, r, rfl⟩ := List.exists_cons_of_ne_nil h0
  rw [if_pos ⟨a, (h a).1 (by simp)⟩]
  congr 1
  exact F_congr fun q => (h q).symm
theorem map_cons (u : List ByteArray) (s : ByteArray) (X : List (List ByteArray)) : X.map ((u ++ [s]) ++ ·) = (X.map (s :: ·)).map (u ++ ·) := by
  rw [List.map_map]
  apply List.map_congr_left
  intro x _
  simp
theorem take_small {α : Type} {X : List α} {m : Nat} (h : (X.take (m + 1)).length ≤ m) : X.take (m + 1) = X := by
  rw [List.length_take] at h
  exact List.take_of_length_le (by omega)
theorem take_large {α : Type} {X r : List α} {m : Nat} (h : ¬ (X.take (m + 1)).length ≤ m) : (X ++ r).take (m + 1) = X.take (m + 1) := by
  rw [List.length_take] at h
  rw [List.take_append_of_le_length (by omega)]

/-- What stands still while the words of a length are listed. -/
structure WcK where
  gb : Nat
  v : Gv
  g : Gr
  cl : Nat
  cw : Nat
  gw : Nat
  len : Nat
  cm : Nat
  most : Nat
  cL : Nat
  ct : Nat
  cs : Nat
  cc : Nat
  cg : Nat
  ck : Nat
  cr : Nat
  ccap : Nat
  bg : Nat
  bs : Nat
  sb : Nat
  sr : Nat → Nat
  cb : Nat → Nat
def WcK.caps (c : WcK) : Array Value := #[.pointer (some ⟨c.cw, 0, none⟩), .pointer (some ⟨c.cL, 0, none⟩), .pointer (some ⟨c.ct, 0, none⟩), .pointer (some ⟨c.cs, 0, none⟩), .pointer (some ⟨c.cc, 0, none⟩), .pointer (some ⟨c.cg, 0, none⟩), .pointer (some ⟨c.ck, 0, none⟩)]
structure Cst (wG w : World) (c : WcK) : Prop where
  below : Below wG.heap.size wG w
  len_ : w.heap[c.cL]? = some (.cells #[.int .i64 (c.len : Int)] 3 (0, 0))
  take : w.heap[c.ct]? = some (.cells #[.func (.func 71) #[] #[.pointer (some ⟨c.cl, 0, none⟩), .pointer (some ⟨c.cm, 0, none⟩)]] 105 (0, 0))
  steps : w.heap[c.cs]? = some (.cells #[.func (.func 97) #[] #[.pointer (some ⟨c.bg, 0, none⟩), .pointer (some ⟨c.bs, 0, none⟩)]] 111 (0, 0))
  can : w.heap[c.cc]? = some (.cells #[.slice (some ⟨c.cr, 0, none⟩) (c.len + 1) c.ccap] 106 (0, 0))
  canr : ∃ cur : Array Value, w.heap[c.cr]? = some (Obj.cells cur 65 (0, 0)) ∧ ∀ i, i ≤ c.len → cur[i]? = some (Value.slice (some ⟨c.cb i, 0, none⟩) c.g.N c.g.N)
  marks : ∀ i, i ≤ c.len → BoolsT w (c.cb i) c.g.N (Ex c.g i)
  gv : w.heap[c.cg]? = some (.cells #[.pointer (some ⟨c.gb, 0, none⟩)] 60 (0, 0))
  walk : w.heap[c.ck]? = some (.cells #[.func (.func 95) #[] c.caps] 74 (0, 0))
  most_ : w.heap[c.cm]? = some (.cells #[.int .i64 (c.most : Int)] 3 (0, 0))
  bgp : w.heap[c.bg]? = some (.cells #[.pointer (some ⟨c.gb, 0, none⟩)] 60 (0, 0))
  seen : SeenAt w c.bs c.sb c.sr c.v.sn c.g.N (fun _ _ => false)
  sep : ∀ i x, i ≤ c.len → x < c.v.sn → c.cb i ≠ c.sr x
  srb : ∀ x, x < c.v.sn → wG.heap.size ≤ c.sr x
theorem BoolsT.tf {base : Nat} {w w' : World} {hb N : Nat} {S : Nat → Prop} (h : BoolsT w hb N S) (k : TF base w w') : BoolsT w' hb N S := by
  obtain ⟨⟨cur, fr, h1⟩, h2⟩ := h
  have h3 := k.keep _ _ _ _ h1 (by unfold KindW; decide)
  exact ⟨⟨cur, fr, h3⟩, fun q hq => (World.cell?_of_block (a := ⟨hb, q, none⟩) (h3.trans h1.symm)).trans (h2 q hq)⟩
theorem Vec.tf {α : Type} {en : α → Value} {base : Nat} {w w' : World} {g : Nat} {e : TypeId} {cap n : Nat} {A : Nat → α} (h : Vec en w g e cap n A) (k : TF base w w') (he : ¬ KindW e) : Vec en w' g e cap n A := by
  obtain ⟨cur, h1, h2⟩ := h
  exact ⟨cur, k.keep _ _ _ _ h1 he, h2⟩
theorem own_tf {base b0 : Nat} {w w' : World} {e : TypeId} {size n : Nat} {v : Value} {xs : List Value} (h : w.ownsRow b0 e size v n xs) (k : TF base w w') (he : ¬ KindW e) : w'.ownsRow b0 e size v n xs := by
  refine ⟨h.1, ?_⟩
  rcases h.2 with h0 | ⟨g, cap, cur, rfl, hb, hg, rest⟩
  · exact .inl h0
  · exact .inr ⟨g, cap, cur, rfl, hb, k.keep _ _ _ _ hg he, rest⟩
theorem NextAt.tf {base b0 : Nat} {w w' : World} {k nb : Nat} {V : Nat → Value} {L : Nat → List Nat} (h : NextAt w b0 k nb V L) (t : TF base w w') : NextAt w' b0 k nb V L :=
  ⟨fun s hs => by subst hs; exact Vec.tf (IxAt.tab h 1 rfl) t (by unfold KindW tty; decide), IxAt.tbb h, IxAt.inj h, fun s i hs hi => by subst hs; exact own_tf (IxAt.row h 1 i rfl hi) t (by unfold KindW ety; decide), IxAt.apart h⟩
theorem Cst.tf {wG w w' : World} {c : WcK} (h : Cst wG w c) (k : TF wG.heap.size w w') : Cst wG w' c := by
  have key : ∀ {b : Nat} {cs : Array Value} {t : TypeId} {fr : Nat × Nat}, w.heap[b]? = some (Obj.cells cs t fr) → ¬ KindW t → w'.heap[b]? = some (Obj.cells cs t fr) := fun hb hn => k.keep _ _ _ _ hb hn
  obtain ⟨cur, hc1, hc2⟩ := h.canr
  exact ⟨h.below.trans k.below, key h.len_ (by unfold KindW; decide), key h.take (by unfold KindW; decide), key h.steps (by unfold KindW; decide), key h.can (by unfold KindW; decide), ⟨cur, key hc1 (by unfold KindW; decide), hc2⟩, fun i hi => (h.marks i hi).tf k, key h.gv (by unfold KindW; decide), key h.walk (by unfold KindW; decide), key h.most_ (by unfold KindW; decide), key h.bgp (by unfold KindW; decide),
    ⟨key h.seen.var (by unfold KindW; decide), Vec.tf h.seen.tab k (by unfold KindW; decide), fun x hx => Vec.tf (h.seen.row x hx) k (by unfold KindW; decide), h.seen.inj⟩, h.sep, h.srb⟩

def WalkPost (wG : World) (c : WcK) (els : List Lst) (u : List ByteArray) (l : List Nat) (rem : Nat) (w : World) (e : Ending) (w' : World) : Prop :=
  ∃ (b : Bool) (els' : List Lst) (lv' : Value) (u' : List ByteArray), e = .returned (.bool b) ∧ (b = true → u' = u) ∧ LW w' wG.heap.size c.cl c.cw c.gw c.len els' lv' u' ∧ TF wG.heap.size w w' ∧
    Sp.lists els' = (Sp.lists els ++ (F c.g rem (· ∈ l)).map (u ++ ·)).take (c.most + 1) ∧ b = decide (els'.length ≤ c.most)
end Nf
end Go.Proofs.Ythpnipkihpoooaa
