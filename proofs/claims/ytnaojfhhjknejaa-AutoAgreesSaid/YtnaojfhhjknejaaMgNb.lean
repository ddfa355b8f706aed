/-
  The sets that words lead to, numbered while they are found: what lies in memory; the walk of the function that numbers.
-/
import Derived.Test.YtnaojfhhjknejaaMgCtSKey
import Derived.Test.YtnaojfhhjknejaaMgKmGKmI
import Derived.Test.YtnaojfhhjknejaaMgReOw
import Derived.IntWalk
set_option linter.unusedVariables false
set_option linter.unusedSimpArgs false
namespace Go.Proofs.Ytnaojfhhjknejaa
open Go.RowKit
namespace Nf
/-- A list of states with the slice that it lies in. -/
structure NRow where
  val : Value
  l : List Nat
instance : Inhabited NRow := ⟨⟨.slice none 0 0, []⟩⟩
def nlists (els : List NRow) : List (List Nat) := els.map NRow.l
/-- What the numbering leaves: all blocks but the map, the variable of the lists and the row that this holds; and that the row's block is one of those or new. -/
structure NK (base mb lk : Nat) (lv lv' : Value) (w w' : World) : Prop where
  below : RowKit.Below base w w'
  keep : ∀ (k : Nat), k < w.heap.size → k ≠ mb → k ≠ lk → lv.ownBlock ≠ some k → w'.heap[k]? = w.heap[k]? ∧ lv'.ownBlock ≠ some k
theorem NK.of_below {base mb lk : Nat} {lv : Value} {w w' : World} (h : RowKit.Below w.heap.size w w') (hb : base ≤ w.heap.size) : NK base mb lk lv lv w w' := ⟨h.mono hb, fun k hk _ _ h4 => ⟨h.block k hk, h4⟩⟩
theorem NK.trans {base mb lk : Nat} {u v x : Value} {a b c : World} (h : NK base mb lk u v a b) (k : NK base mb lk v x b c) : NK base mb lk u x a c := ⟨h.below.trans k.below, fun i hi h1 h2 h3 => by
  obtain ⟨g1, g2⟩ := h.keep i hi h1 h2 h3
  obtain ⟨g3, g4⟩ := k.keep i (Nat.lt_of_lt_of_le hi h.below.size) h1 h2 g2
  exact ⟨g3.trans g1, g4⟩⟩
/-- The numbering under way: bx the graph's variable, nk that of the map mb, lk that of the lists. -/
structure NumAt (w0 w : World) (gb bx nk lk mb N : Nat) (els : List NRow) (lv : Value) : Prop where
  bxb : w.heap[bx]? = some (.cells #[.pointer (some ⟨gb, 0, none⟩)] 48 (0, 0))
  nkb : w.heap[nk]? = some (.cells #[.map (some mb)] 84 (0, 0))
  lkb : w.heap[lk]? = some (.cells #[lv] 64 (0, 0))
  lown : w.ownsRow w0.heap.size 67 1 lv els.length (els.map NRow.val)
  mp : KMap 9 Value.string (fun s : ByteArray => s.size ≤ maxLen) w mb els.length (fun s => kIdx N (nlists els) s)
  row : ∀ x ∈ els, w.ownsRow w0.heap.size 3 1 x.val x.l.length (x.l.map num) ∧ Pool N x.l
  dist : (nlists els).Pairwise fun a b => keyT N a ≠ keyT N b
  below : RowKit.Below w0.heap.size w0 w
  nbase : w0.heap.size ≤ nk
  lbase : w0.heap.size ≤ lk
  mbase : w0.heap.size ≤ mb
section
variable {w0 w w1 : World} {gb bx nk lk mb N : Nat} {els : List NRow} {lv : Value}
theorem NumAt.under (h : NumAt w0 w gb bx nk lk mb N els lv) (hb : RowKit.Below w.heap.size w w1) : NumAt w0 w1 gb bx nk lk mb N els lv := by
  have hg : w.grownBy w1 none := ⟨hb.os, hb.tape, hb.output, hb.size, fun i hi _ => hb.block i hi⟩
  have kp : ∀ v : Value, v.ownBlock = none ∨ v.ownBlock ≠ none := fun v => by cases v.ownBlock <;> simp
  exact ⟨blk_below h.bxb hb (blk_lt h.bxb), blk_below h.nkb hb (blk_lt h.nkb), blk_below h.lkb hb (blk_lt h.lkb), h.lown.kept hg (kp _), h.mp.below hb, fun x hx => ⟨(h.row x hx).1.kept hg (kp _), (h.row x hx).2⟩, h.dist, h.below.trans (hb.mono h.below.size), h.nbase, h.lbase, h.mbase⟩
/-- A set more: the map stored into (w1), then the list appended (w3, from the world w2 behind a new block), then its variable set. -/
theorem NumAt.more (h : NumAt w0 w gb bx nk lk mb N els lv) {x : NRow} (hx : w.ownsRow w0.heap.size 3 1 x.val x.l.length (x.l.map num)) (hp : Pool N x.l) (hn : kIdx N (nlists els) (keyT N x.l) = none)
    (hg1 : w.grownBy w1 (some mb)) (hm1 : KMap 9 Value.string (fun s : ByteArray => s.size ≤ maxLen) w1 mb (els.length + 1) (fun s => kIdx N (nlists els ++ [x.l]) s)) {c : Obj} {w3 : World} {v' : Value} (hg3 : (w1.alloc c).grownBy w3 lv.ownBlock)
    (hown : w3.ownsRow w0.heap.size 67 1 v' (els ++ [x]).length ((els ++ [x]).map NRow.val)) (hat : v'.ownBlock = lv.ownBlock ∨ v'.ownBlock = some (w1.alloc c).heap.size) :
    NumAt w0 (w3.setCell ⟨lk, 0, none⟩ v') gb bx nk lk mb N (els ++ [x]) v' ∧ NK w0.heap.size mb lk lv v' w (w3.setCell ⟨lk, 0, none⟩ v') := by
  obtain ⟨es, cl, hmb⟩ := h.mp.blk
  have own_ne_mb : ∀ {b' : Nat} {e : TypeId} {size n : Nat} {v : Value} {xs : List Value}, w.ownsRow b' e size v n xs → v.ownBlock ≠ some mb := fun hr => by
    rcases hr.2 with ⟨rfl, _⟩ | ⟨g, cap, cur, rfl, _, hg, _⟩
    · simp [Value.ownBlock]
    · intro e1
      simp [Value.ownBlock] at e1
      subst e1
      rw [hg] at hmb
      cases hmb
  have cell_ne_mb : ∀ {k : Nat} {cs : Array Value} {t : TypeId} {fr : Nat × Nat}, w.heap[k]? = some (.cells cs t fr) → k ≠ mb := fun hk e => by rw [e, hmb] at hk; cases hk
  have k1 : ∀ {k : Nat} {cs : Array Value} {t : TypeId} {fr : Nat × Nat}, w.heap[k]? = some (.cells cs t fr) → w1.heap[k]? = some (.cells cs t fr) := fun hk => blk_grown hk hg1 (fun e => cell_ne_mb hk (by injection e with e; exact e.symm))
  have lown1 := h.lown.kept hg1 (.inr (own_ne_mb h.lown))
  have k3 : ∀ {k : Nat} {cs : Array Value} {t : TypeId} {fr : Nat × Nat}, w.heap[k]? = some (.cells cs t fr) → 67 ≠ t → w3.heap[k]? = some (.cells cs t fr) := fun hk ht => blk_grown (blk_alloc (k1 hk) c) hg3 (own_ne (lown1.alloc c) (blk_alloc (k1 hk) c) ht)
  have lk3 := k3 h.lkb (by decide)
  have b1 : RowKit.Below w0.heap.size w0 w1 := RowKit.Below.grown h.below hg1 h.below.size (fun k hk => by cases hk; exact h.mbase)
  have b2 : RowKit.Below w0.heap.size w0 (w1.alloc c) := b1.alloc b1.size _
  have b3 : RowKit.Below w0.heap.size w0 w3 := RowKit.Below.grown b2 hg3 b2.size (fun k hk => (h.lown.lt k hk).1)
  have rowk : ∀ {b' : Nat} {v : Value} {n : Nat} {xs : List Value}, w.ownsRow b' 3 1 v n xs → (w3.setCell ⟨lk, 0, none⟩ v').ownsRow b' 3 1 v n xs := fun hr => by
    have r1 := hr.kept hg1 (.inr (own_ne_mb hr))
    have r3 := (r1.alloc c).kept hg3 (own_own_ne (r1.alloc c) (lown1.alloc c) (by decide))
    exact own_far r3 (a := ⟨lk, 0, none⟩) (own_ne r3 lk3 (by decide))
  have nb : RowKit.Below w0.heap.size w (w3.setCell ⟨lk, 0, none⟩ v') := by
    have q1 : RowKit.Below w0.heap.size w w1 := RowKit.Below.grown (RowKit.Below.refl _ w) hg1 h.below.size (fun k hk => by cases hk; exact h.mbase)
    have q2 : RowKit.Below w0.heap.size w (w1.alloc c) := q1.alloc b1.size _
    have q3 : RowKit.Below w0.heap.size w w3 := RowKit.Below.grown q2 hg3 b2.size (fun k hk => (h.lown.lt k hk).1)
    exact q3.setCell (p := ⟨lk, 0, none⟩) h.lbase _
  have km3 : KMap 9 Value.string (fun s : ByteArray => s.size ≤ maxLen) w3 mb (els.length + 1) (fun s => kIdx N (nlists els ++ [x.l]) s) := by
    have q1 := hm1.below ((RowKit.Below.refl _ w1).alloc (Nat.le_refl _) c)
    obtain ⟨es1, cl1, hmb1⟩ := q1.blk
    refine q1.kept hg3 (fun e => ?_)
    have hl := lown1.alloc c
    rcases hl.2 with ⟨e9, _⟩ | ⟨g, cap, cur, e9, _, hg, _⟩
    · rw [e9] at e; simp [Value.ownBlock] at e
    · rw [e9] at e
      simp [Value.ownBlock] at e
      rw [e] at hmb1
      rw [hg] at hmb1
      cases hmb1
  have hlen : (els ++ [x]).length = els.length + 1 := by simp
  have hnl : nlists (els ++ [x]) = nlists els ++ [x.l] := by simp [nlists]
  have far : ∀ {k : Nat} {cs : Array Value} {t : TypeId} {fr : Nat × Nat}, w.heap[k]? = some (.cells cs t fr) → t ≠ 64 → t ≠ 67 → (w3.setCell ⟨lk, 0, none⟩ v').heap[k]? = some (.cells cs t fr) := fun hk h1 h2 => by
    have q := k3 hk (fun e => h2 e.symm)
    exact blk_far q (a := ⟨lk, 0, none⟩) (blk_ne q lk3 h1) _
  refine ⟨⟨far h.bxb (by decide) (by decide), far h.nkb (by decide) (by decide), ?_, own_far hown (a := ⟨lk, 0, none⟩) (own_ne hown lk3 (by decide)), ?_, fun y hy => ?_, ?_, b3.setCell (p := ⟨lk, 0, none⟩) h.lbase _, h.nbase, h.lbase, h.mbase⟩, nb, fun k hk h1 h2 h3 => ?_⟩
  · have := blk_set (i := 0) lk3 v'
    simpa using this
  · rw [hlen, hnl]
    exact km3.far (a := ⟨lk, 0, none⟩) lk3 _
  · rcases List.mem_append.1 hy with hy | hy
    · exact ⟨rowk (h.row y hy).1, (h.row y hy).2⟩
    · simp at hy
      subst hy
      exact ⟨rowk hx, hp⟩
  · rw [hnl, List.pairwise_append]
    refine ⟨h.dist, List.pairwise_singleton _ _, fun a ha b hb => ?_⟩
    simp at hb
    subst hb
    exact kIdx_none hn a ha
  · have s1 := hg1.size
    refine ⟨(Below.heap_setCell w3 _ _ k h2).trans ((hg3.block k (by simp; omega) (fun e => h3 e.symm)).trans ((Below.heap_alloc w1 c k (by omega)).trans (hg1.block k hk (fun e => h1 (by injection e))))), ?_⟩
    rcases hat with e | e
    · rw [e]; exact h3
    · rw [e]
      intro e2
      injection e2 with e2
      simp at e2
      omega
end
theorem lintInfo : (Try.prog.info? 67).map (fun i => (i.zero, i.size, i.bytes)) = some (some (.slice none 0 0), 1, 24) := by kernel_rfl
/-- One list appended to a row of the call's own. -/
theorem push_list {w : World} {ops : Array Oper} {rest : List Oper} {o : Oper} {a : Act} {Q : Exit → Act → World → Prop} (hgd : o.guard = none) (s x : Operand)
    (ho : o.op = .call { callee := .builtin .append, args := #[s, x], argTypes := #[64, 64] })
    (base : Nat) (v : Value) (L : List NRow) (hs : a.eval s = v) (hown : w.ownsRow base 67 1 v L.length (L.map NRow.val))
    (q : NRow) (hq : q.val.oneCell' = true) (ad : Addr) (c : Nat) (hx : a.eval x = .slice (some ad) 1 c) (hc : w.cell? ad = some q.val) (hbig : L.length ≤ 1000000) (hbase : base ≤ w.heap.size)
    (h : ∀ v' w', w'.ownsRow base 67 1 v' (L ++ [q]).length ((L ++ [q]).map NRow.val) → w.grownBy w' v.ownBlock → (v'.ownBlock = v.ownBlock ∨ v'.ownBlock = some w.heap.size) → wpList Try.prog ops Q rest (a.put o.dst v') w') : wpList Try.prog ops Q (o :: rest) a w := by
  obtain ⟨i0, hi, hz0, hz1, hz2⟩ := info_parts lintInfo
  have hnews : ∀ j u, ([q.val])[j]? = some u → w.cell? (ad.add j) = some u := by
    intro j u hj
    match j, hj with
    | 0, hj =>
      simp at hj; subst hj
      have : ad.add 0 = ad := by unfold Addr.add; obtain ⟨b, o, sp⟩ := ad; cases sp <;> simp
      rw [this]; exact hc
  refine wpList_append_own_at w hgd s x 64 ho base 67 i0 (.slice none 0 0) 1 24 Try.underlying64 hi hz0 hz1 hz2 rfl (by decide) v _ _ hs hown ad 1 c [q.val] hx rfl hnews (fun u hu => by simp at hu; subst hu; exact hq) (by unfold maxLen; omega) (by omega) hbase ?_
  intro v' w' hown' hgrow _ hat
  exact h v' w' (by simpa using hown') hgrow hat
/-- What the numbering answers. -/
def NumPost (w0 : World) (gb bx nk lk mb N : Nat) (els : List NRow) (lv : Value) (x : NRow) (w : World) (e : Ending) (w' : World) : Prop :=
  ∃ (i : Nat) (els' : List NRow) (lv' : Value), e = .returned (.int .i64 (i : Int)) ∧ NumAt w0 w' gb bx nk lk mb N els' lv' ∧ NK w0.heap.size mb lk lv lv' w w' ∧
    ((kIdx N (nlists els) (keyT N x.l) = some i ∧ els' = els) ∨ (kIdx N (nlists els) (keyT N x.l) = none ∧ i = els.length ∧ els' = els ++ [x]))
end Nf

set_option maxHeartbeats 4000000 in
set_option maxRecDepth 100000 in
theorem number_any (w0 w : World) (gb bx nk lk mb : Nat) (v : Nf.Gv) (g : Nf.Gr) (els : List Nf.NRow) (lv : Value) (ao : Option Addr) (cap : Nat) (l : List Nat) (hG : Nf.GrAt w0 gb v g) (h : Nf.NumAt w0 w gb bx nk lk mb g.N els lv)
    (hx : w.ownsRow w0.heap.size 3 1 (.slice ao l.length cap) l.length (l.map Nf.num)) (hp : Nf.Pool g.N l) (hlen : els.length ≤ 100000) :
    Calls Try.prog 38 #[.slice ao l.length cap, .pointer (some ⟨bx, 0, none⟩), .pointer (some ⟨nk, 0, none⟩), .pointer (some ⟨lk, 0, none⟩)] w (Nf.NumPost w0 gb bx nk lk mb g.N els lv ⟨.slice ao l.length cap, l⟩ w) := by
  have hN := hG.small
  have hpl := hp.len
  obtain ⟨ao', cap', hv', hseq, _⟩ := Nf.seq_of_own hx (by unfold maxLen; omega)
  injection hv' with e1 e2 e3
  subst e1 e3
  have hG1 := hG.below h.below
  have hK := key_any w ao l.length cap l g.N hseq hp.lt hN
  have c0 : w.cell? ⟨bx, 0, none⟩ = some (.pointer (some ⟨gb, 0, none⟩)) := Nf.blk_cell (i := 0) h.bxb rfl
  have c1 : w.cell? ⟨gb, 1, none⟩ = some (.slice (some ⟨v.eb, 0, none⟩) g.N g.N) := Nf.blk_cell (i := 1) hG1.blk rfl
  have hp2 : Nf.NumPost w0 gb bx nk lk mb g.N els lv ⟨.slice ao l.length cap, l⟩ w = fun e w' => ∃ (i : Nat) (els' : List Nf.NRow) (lv' : Value), e = .returned (.int .i64 (i : Int)) ∧ Nf.NumAt w0 w' gb bx nk lk mb g.N els' lv' ∧ Nf.NK w0.heap.size mb lk lv lv' w w' ∧
    ((Nf.kIdx g.N (Nf.nlists els) (Nf.keyT g.N l) = some i ∧ els' = els) ∨ (Nf.kIdx g.N (Nf.nlists els) (Nf.keyT g.N l) = none ∧ i = els.length ∧ els' = els ++ [⟨.slice ao l.length cap, l⟩])) := rfl
  rw [hp2]
  have hks : (Nf.keyT g.N l).size ≤ maxLen := by rw [Nf.keyT_size]; unfold maxLen; omega
  have HH := Sp.hid h
  have HX := Sp.hid hx
  have HP := Sp.hid hp
  have HK := Sp.hid hK
  have HKs := Sp.hid hks
  clear h hx hp hK hks hp2 hseq hG hG1
  obtain ⟨kt, hkt⟩ : ∃ kt, Nf.keyT g.N l = kt := ⟨_, rfl⟩
  rw [hkt] at HK HKs ⊢
  have Hkt := Sp.hid hkt
  clear hkt
  go_enter Try.func38, Try.ntmps38
  go_wp2_with fail
  refine HK.out.mono ?_
  rintro e w2 ⟨rfl, hb2⟩
  have H2 := Sp.hid (HH.out.under hb2)
  have HX2 : Hid (w2.ownsRow w0.heap.size 3 1 (.slice ao l.length cap) l.length (l.map Nf.num)) := Sp.hid (HX.out.kept (row := none) ⟨hb2.os, hb2.tape, hb2.output, hb2.size, fun i hi _ => hb2.block i hi⟩ (by cases (Value.slice ao l.length cap).ownBlock <;> simp))
  have HN2 := Sp.hid (Nf.NK.of_below (mb := mb) (lk := lk) (lv := lv) hb2 HH.out.below.size)
  have d1 : w2.cell? ⟨nk, 0, none⟩ = some (.map (some mb)) := Nf.blk_cell (i := 0) H2.out.nkb rfl
  have d2 : w2.cell? ⟨lk, 0, none⟩ = some lv := Nf.blk_cell (i := 0) H2.out.lkb rfl
  clear c0 c1 hb2
  cases hki : Nf.kIdx g.N (Nf.nlists els) kt with
  | some i =>
    have Hki := Sp.hid hki
    clear hki
    go_wp2_with (first
      | (at_lookup; refine Nf.kmap_some Nf.strK rfl _ _ 84 rfl Try.underlying84 H2.out.mp kt HKs.out i Hki.out rfl rfl ?_)
      | (at_lookup; refine Nf.kmap_get Nf.strK rfl _ _ 84 rfl Try.underlying84 H2.out.mp kt HKs.out i Hki.out rfl rfl ?_)
      | fail)
    go_ret
    exact ⟨i, els, lv, rfl, H2.out, HN2.out, .inl ⟨Hki.out, rfl⟩⟩
  | none =>
    have Hki := Sp.hid hki
    clear hki
    obtain ⟨lo, lcap, hlv⟩ : ∃ lo lcap, lv = .slice lo els.length lcap := by
      rcases H2.out.lown.2 with ⟨h1, h2⟩ | ⟨gg, cp, cur, h1, _⟩
      · exact ⟨none, 0, by rw [h1, h2]⟩
      · exact ⟨_, _, h1⟩
    subst hlv
    have hsn := Nf.kIdx_snoc (N := g.N) l (L := Nf.nlists els) (by rw [Hkt.out]; exact Hki.out)
    have hnl : (Nf.nlists els).length = els.length := by simp [Nf.nlists]
    have Hsn := Sp.hid hsn
    have Hnl := Sp.hid hnl
    clear hsn hnl
    go_wp2_with (first
      | (at_lookup; refine Nf.kmap_none Nf.strK rfl _ _ 84 rfl Try.underlying84 H2.out.mp kt HKs.out Hki.out rfl rfl ?_; intro c)
      | (at_mapUpdate; refine Nf.kmap_put Nf.strK rfl _ _ _ 84 rfl Try.underlying84 H2.out.mp kt HKs.out els.length (by omega) (by omega) (fun s => Nf.kIdx g.N (Nf.nlists els ++ [l]) s) (fun z _ => by rw [Hsn.out, Hkt.out, Hnl.out]; exact ⟨fun e => by rw [if_pos e.symm], fun e => by rw [if_neg (fun h => e h.symm)]⟩) rfl rfl rfl ?_)
      | fail)
    intro w5 hm5 hg5
    have hlk5 : w5.heap[lk]? = some (.cells #[.slice lo els.length lcap] 64 (0, 0)) := by
      obtain ⟨es, cl, hmb⟩ := H2.out.mp.blk
      exact Nf.blk_grown H2.out.lkb hg5 (fun e => by injection e with e; rw [e] at hmb; rw [H2.out.lkb] at hmb; cases hmb)
    have hlo5 : w5.ownsRow w0.heap.size 67 1 (.slice lo els.length lcap) els.length (els.map Nf.NRow.val) := by
      obtain ⟨es, cl, hmb⟩ := H2.out.mp.blk
      refine H2.out.lown.kept hg5 (.inr ?_)
      intro e
      rcases H2.out.lown.2 with ⟨e9, _⟩ | ⟨gg, cp, cur, e9, _, hgg, _⟩
      · rw [e9] at e; simp [Value.ownBlock] at e
      · rw [e9] at e
        simp [Value.ownBlock] at e
        rw [e] at hgg
        rw [hmb] at hgg
        cases hgg
    have e2 : w5.cell? ⟨lk, 0, none⟩ = some (.slice lo els.length lcap) := Nf.blk_cell (i := 0) hlk5 rfl
    have hb5 : Below w0.heap.size w0 w5 := RowKit.Below.grown H2.out.below hg5 H2.out.below.size (fun k hk => by cases hk; exact H2.out.mbase)
    have Hlo6 := Sp.hid (hlo5.alloc (.cells #[.slice ao l.length cap] 67))
    have Hlk6 := Sp.hid (Nf.blk_alloc hlk5 (.cells #[.slice ao l.length cap] 67))
    have Hb6 := Sp.hid (hb5.alloc hb5.size (.cells #[.slice ao l.length cap] 67))
    have Hnew := Sp.hid (Nf.blk_cell (i := 0) (v := .slice ao l.length cap) (Nf.Below.heap_new w5 (.cells #[.slice ao l.length cap] 67)) rfl)
    have Hm5 := Sp.hid hm5
    have Hg5 := Sp.hid hg5
    clear hm5 hg5 hlk5 hlo5 hb5 d1 d2
    go_wp2_with (first
      | (at_builtin; refine Nf.push_list rfl _ _ rfl w0.heap.size (.slice lo els.length lcap) els rfl Hlo6.out ⟨.slice ao l.length cap, l⟩ rfl ⟨w5.heap.size, 0, none⟩ 1 rfl ?c1 ?c2 ?c3 ?_)
      | fail)
    case c2 => omega
    case c3 => have h := Hb6.out.size; simpa using h
    intro v7 w7 hown7 hg7 hat7
    have hlk7 := Nf.blk_grown Hlk6.out hg7 (Nf.own_ne Hlo6.out Hlk6.out (by decide))
    have y7 : w7.cell? ⟨lk, 0, none⟩ = some (.slice lo els.length lcap) := Nf.blk_cell (i := 0) hlk7 rfl
    have f7 := Nf.blk_free (i := 0) hlk7
    have hown8 : w7.ownsRow w0.heap.size 67 1 v7 (els ++ [(⟨.slice ao l.length cap, l⟩ : Nf.NRow)]).length ((els ++ [(⟨.slice ao l.length cap, l⟩ : Nf.NRow)]).map Nf.NRow.val) := by simpa using hown7
    obtain ⟨q1, q2⟩ := H2.out.more (x := (⟨.slice ao l.length cap, l⟩ : Nf.NRow)) HX2.out HP.out (by show Nf.kIdx g.N (Nf.nlists els) (Nf.keyT g.N l) = none; rw [Hkt.out]; exact Hki.out) Hg5.out Hm5.out hg7 hown8 (by simpa using hat7)
    obtain ⟨g7, cap7, hv7⟩ := Nf.own_form hown7 (by simp)
    subst hv7
    have z7 : (w7.setCell ⟨lk, 0, none⟩ (.slice (some ⟨g7, 0, none⟩) (els.length + 1) cap7)).cell? ⟨nk, 0, none⟩ = some (.map (some mb)) := Nf.blk_cell (i := 0) q1.nkb rfl
    have Q1 := Sp.hid q1
    have Q2 := Sp.hid (HN2.out.trans q2)
    have hfin : Nf.kIdx g.N (Nf.nlists (els ++ [(⟨.slice ao l.length cap, l⟩ : Nf.NRow)])) kt = some els.length := by
      have e : Nf.nlists (els ++ [(⟨.slice ao l.length cap, l⟩ : Nf.NRow)]) = Nf.nlists els ++ [l] := by simp [Nf.nlists]
      rw [e, Hsn.out, if_pos Hkt.out, Hnl.out]
    have Hfin := Sp.hid hfin
    clear q1 q2 hown7 hown8 hg7 hat7 hlk7 hfin e2
    go_wp2_with (first
      | (at_lookup; refine Nf.kmap_get Nf.strK rfl _ _ 84 rfl Try.underlying84 Q1.out.mp kt HKs.out els.length Hfin.out rfl rfl ?_)
      | fail)
    go_ret
    exact ⟨els.length, _, _, rfl, Q1.out, Q2.out, .inr ⟨Hki.out, rfl, rfl⟩⟩
end Go.Proofs.Ytnaojfhhjknejaa
