/-
  slices.Sort on a slice that the call owns.
-/
import Derived.Test.YtikjodbboljhjaaGreatDoorScBw
import Derived.Shelf.SortM.Plain
import Derived.Shelf.SortM.SortNone
import Derived.Ground.SlgmProg
import Derived.Sort.OwnSortedInts
namespace Go.Proofs
shelf_lay_g SlLaysM.n5 Slgm 5 at Tryz 165 as Tryz.sortA
end Go.Proofs
namespace Go.Proofs.YtikjodbboljhjaaGreatDoor
open Go.RowKit

theorem sort_any (v : Value) (xs : List Int) (base : Nat) (w : World) (h : OwnS w base v xs) :
    Calls Tryz.prog 165 #[v] w fun e w' => e = .returned (.tuple #[]) ∧ OwnS w' base v (xs.mergeSort fun x y => decide (x ≤ y)) ∧ w.grownBy w' v.ownBlock := by
  obtain ⟨g, cap, rfl, ho, hl, hb⟩ := h
  rcases ho.2 with ⟨e, _⟩ | ⟨g', cap', cur, e, hg, hc, h1, h2, h3, h4⟩
  · cases e
  cases e
  have hlt : g < w.heap.size := (Array.getElem?_eq_some_iff.1 hc).1
  have h4' : cur.toList.take xs.length = xs.map (Value.int .i64) := by simpa using h4
  refine (Go.Proofs.AnyM.slices_Sort_int Tryz.sortA g 0 cap xs w (holds_of_blockI hc h4') hlt (by omega)).mono ?_
  rintro e w' ⟨rfl, n, os, rfl⟩
  have hlen : (xs.mergeSort fun x y => decide (x ≤ y)).length = xs.length := List.length_mergeSort xs
  refine ⟨rfl, ⟨g, cap, by rw [hlen], ?_, by rw [hlen]; exact hl, fun x hx => hb x ((List.mergeSort_perm xs _).mem_iff.1 hx)⟩, grownBy_sortedI _⟩
  have := ownsRow_sortedI (n := n) (os := os) (e := 2) hlen hg hc h1 h2 h3
  rw [hlen]
  exact this
end Go.Proofs.YtikjodbboljhjaaGreatDoor
