/-
  A scene, and one that may be marked, stay so where other blocks are marked.
-/
import Derived.Test.YtplnijpolkflcaaGreatDoorPqCA
namespace Go.Proofs.YtplnijpolkflcaaGreatDoor
open Go.RowKit

theorem ScR.keepS {B S : Nat → Prop} {w w' : World} {s : Sv} {m : Scn} (h : ScR B w s m) (k : FrS S w w') (hs : ∀ b, B b → ¬ S b) : ScR B w' s m := by
  obtain ⟨lvs, h1, h2, h3⟩ := h.lks
  have hl : LksR B w' lvs m.ls := ⟨h3.len, fun j p q => by
    have x := h3.at_ j p q
    exact ⟨x.o, x.wr, x.rn, x.rd.keepS k (fun b e => hs b (x.bl b e)), x.bl, x.rc, x.sz, x.io, x.iw⟩⟩
  exact { h with lks := ⟨lvs, h1.keepS k (fun b e => hs b (h.bl b e)), h2, hl⟩, chs := h.chs.keepS k (fun b e => hs b (h.bc b e)), cts := h.cts.keepS k (fun b e => hs b (h.bn b e)), ons := h.ons.keepS k (fun b e => hs b (h.bo b e)) }
theorem LO.keepS {S : Nat → Prop} {w w' : World} {g base : Nat} {lvs : List Lv} (h : LO w g base lvs) (k : FrS S w w') (hs : ∀ x, BlkL g lvs x → ¬ S x) : LO w' g base lvs := by
  refine ⟨h.row.keepS k (hs g (.inl rfl)), fun j hj => ?_, h.ap⟩
  obtain ⟨gj, a1, a2, xs, a3, a4⟩ := h.own j hj
  exact ⟨gj, a1, a2, xs, a3, a4.keepS k (hs gj (.inr ⟨j, hj, a1⟩))⟩
theorem Mky.keepS {S : Nat → Prop} {base top : Nat} {w w' : World} {s : Sv} {m : Scn} (h : Mky base top w s m) (k : FrS S w w') (hs : ∀ x, base ≤ x ∧ x < top → ¬ S x) : Mky base top w' s m := by
  rcases h with ⟨gl, gc, gn, go, ys, h, q⟩ | h
  · have hx : ∀ x, (BlkL gl ys x ∨ x = gc ∨ x = gn ∨ x = go) → ¬ S x := fun x p => hs x ⟨(h.lo x p).1, q x p⟩
    refine .inl ⟨gl, gc, gn, go, ys, { h with rl := h.rl.keepS k (fun b e => ?_), ol := h.ol.keepS k (fun x p => hx x (.inl p)), rc := h.rc.keepS k (hx gc (.inr (.inl rfl))), rn := h.rn.keepS k (hx gn (.inr (.inr (.inl rfl)))), oo := h.oo.keepS k (hx go (.inr (.inr (.inr rfl)))), lo := fun x p => ⟨(h.lo x p).1, Nat.lt_of_lt_of_le (h.lo x p).2 k.size⟩ }, q⟩
    simp only [blk, Option.map_some, Option.some.injEq] at e
    exact hx b (.inl (.inl e.symm))
  · exact .inr h
end Go.Proofs.YtplnijpolkflcaaGreatDoor
