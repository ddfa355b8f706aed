/-
  slices.SortFunc at slices of strings, by syms.Compare.
-/
import Derived.Test.YtimjgjhdkinhoaaSpecL
import Derived.Test.YtimjgjhdkinhoaaShelfS
import Derived.Test.YtimjgjhdkinhoaaWalkF
set_option linter.unusedVariables false
namespace Go.Proofs.Ytimjgjhdkinhoaa
open Go.RowKit Go.Sort

abbrev CMPW : Value := .func (.func 26) #[] #[]
theorem cmpW_enters : ∀ args w, (callFunc 26 args).run Try.prog w = .ok (.enter 26 args) w :=
  enters_of Try.func26 (by kernel_rfl) rfl

/-- A slice of strings of a world. -/
abbrev El (w : World) : Type := { x : Lst // Sp.Row w x.ao x.n x.l }
instance (w : World) : Inhabited (El w) := ⟨⟨default, rfl, by decide, fun h => absurd h (by decide), by intro s hs; cases hs⟩⟩
def El.val {w : World} (x : El w) : Value := x.1.val
def El.cf {w : World} (x y : El w) : Int := Sp.cmp x.1.l y.1.l
theorem El.lt {w : World} (x y : El w) : ltOf El.cf x y = Sp.ltL x.1.l y.1.l := rfl
theorem El.swo (w : World) : SWO (ltOf (El.cf (w := w))) where
  irrefl x := Sp.ltL_irrefl _
  trans x y z h k := Sp.ltL_trans h k
  ntrans x y z h k := Sp.ltL_ntrans h k

theorem sortW_any {w0 : World} (els : List Lst) (hE : ∀ x ∈ els, Sp.Row w0 x.ao x.n x.l) (wr : World) (hb : Below w0.heap.size w0 wr) (g cap : Nat) (hV : Vec Lst.val wr g 22 cap els.length (fun i => els.getD i default)) (hg : w0.heap.size ≤ g) (hn : els.length ≤ 100000) :
    Calls Try.prog 89 #[.slice (some ⟨g, 0, none⟩) els.length cap, CMPW] wr fun e w' =>
      e = .returned (.tuple #[]) ∧ ∃ ds : List Lst, ds.Perm els ∧ (Sp.lists ds).Pairwise (fun x y => Sp.ltL y x = false) ∧ Vec Lst.val w' g 22 cap els.length (fun i => ds.getD i default) ∧ wr.grownBy w' (some g) := by
  obtain ⟨dl, hdm⟩ : ∃ dl : List (El w0), dl.map Subtype.val = els := ⟨els.attachWith (fun x => Sp.Row w0 x.ao x.n x.l) hE, List.attachWith_map_subtype_val hE⟩
  have hdl : dl.length = els.length := by rw [← hdm]; simp
  obtain ⟨d, hd⟩ : ∃ d : Array (El w0), d.toList = dl := ⟨dl.toArray, rfl⟩
  have hds : d.size = els.length := by rw [← hdl, ← hd]; simp
  have hVd : Vec El.val wr g 22 cap els.length (fun i => dl.getD i default) := by
    obtain ⟨cur, h1, h2, h3, h4, h5⟩ := hV
    refine ⟨cur, h1, h2, h3, h4, fun i hi => ?_⟩
    rw [h5 i hi]
    have hi2 : i < dl.length := by omega
    have : els.getD i default = (dl.getD i default).1 := by
      rw [List.getD, List.getD, ← hdm, List.getElem?_map, List.getElem?_eq_getElem hi2]; rfl
    show some (els.getD i default).val = some (dl.getD i default).1.val
    rw [this]
  have hsort := fun m (dk : Array (El w0)) os (h : dk.size = els.length) => hVd.sorted m dk os h
  have hbW : ∀ m (dk : Array (El w0)) os, dk.size = els.length → Below w0.heap.size w0 (sortWorld El.val wr g 0 m dk os) := fun m dk os h =>
    hb.grown (hsort m dk os h).2 hb.size (fun k hk => by injection hk with hk; omega)
  have hcmp : CmpReads Try.prog 26 #[] El.val El.cf g 0 d.size wr := fun m os dk hs x y =>
    (compare_any x.1.ao y.1.ao x.1.n y.1.n x.1.cap y.1.cap x.1.l y.1.l _ (x.2.below (hbW m dk os (by rw [hs, hds]))) (y.2.below (hbW m dk os (by rw [hs, hds])))).mono fun e w' ⟨h1, h2⟩ => ⟨h1, 0, h2.symm⟩
  have hH : Holds El.val wr g 0 d := by
    intro j hj
    rw [Nat.zero_add]
    refine ⟨?_, hVd.free j⟩
    rw [hVd.cell (by omega)]
    show some (dl.getD j default).1.val = some d[j]!.1.val
    rw [← hd]
    simp [List.getD, hj]
  have HS0 := Any.slices_SortFunc Try.sortW El.val (fun _ => rfl) El.cf (El.swo w0) 26 #[] g 0 cap d wr cmpW_enters hcmp.lays hH hVd.lt (by omega)
  rw [hds] at HS0
  refine HS0.mono fun e w' ⟨he, d', m, os, ⟨hp1, _, hp2⟩, hs, hw⟩ => ⟨he, d'.toList.map Subtype.val, ?_, ?_, ?_, ?_⟩
  · have e1 : (d'.extract 0 els.length).toList = d'.toList := by rw [show els.length = d'.size by omega]; simp
    have e2 : (d.extract 0 els.length).toList = dl := by rw [← hd, ← hds]; simp
    rw [e1, e2] at hp2
    rw [← hdm]
    exact hp2.map _
  · unfold Sp.lists
    rw [List.map_map, List.pairwise_map, List.pairwise_iff_getElem]
    intro i j hi hj hij
    have hi' : i < d'.size := by simpa using hi
    have hj' : j < d'.size := by simpa using hj
    have := hs i j (Nat.zero_le _) hij (by omega)
    rw [El.lt] at this
    simpa [hi', hj'] using this
  · rw [hw]
    have h := (hsort m d' os (by rw [hp1, hds])).1
    obtain ⟨cur, h1, h2, h3, h4, h5⟩ := h
    refine ⟨cur, h1, h2, h3, h4, fun i hi => ?_⟩
    rw [h5 i hi]
    have hi2 : i < d'.size := by omega
    simp [List.getD, hi2, El.val]
  · rw [hw]; exact (hsort m d' os (by rw [hp1, hds])).2

end Go.Proofs.Ytimjgjhdkinhoaa
