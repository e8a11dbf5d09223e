/-
  A slice of bools that came in.
-/
import Derived.Test.YtcofhmikdkkigaaGreatDoorPrBE
import Derived.Test.YtcofhmikdkkigaaGreatDoorPrBF
namespace Go.Proofs.YtcofhmikdkkigaaGreatDoor
open Go.ChangeShapes Go.WideShapes Go.ChangeAt Go.RowKit

theorem cells_bo : Tryz.prog.cellsOf 4 = 1 := by kernel_rfl
/-- What is known of a slice of bools that came in. -/
def IsBos (w : World) (ao : Option Addr) (len : Nat) : Prop := len ≤ maxLen ∧ ∃ xs : List Bool, xs.length = len ∧ (len ≤ 16777216 → ReadsG layBo w ao xs)

theorem bos_of_arg {H : Type} {enc : TypeId × Value → H} {W : World} {base : Nat} {sp : Nat → Bool} {held : Bool} {ao : Option Addr} {len cap : Nat} {d : DataW H} {p : List MemPlace}
    (h : DataW.Trod enc Tryz.prog W base sp held 44 (.slice ao len cap) d p) : IsBos W ao len := by
  obtain ⟨fuel, hf⟩ := h
  rcases DataW.trod_slice Tryz.underlying44 hf with ⟨hcs, _⟩ | ⟨a, l, c, elems, rest, n, -, hcs, -, hb, hlc, hcm, hel, hat, -, -⟩
  · simp [Value.cells] at hcs
    obtain ⟨rfl, rfl, rfl⟩ := hcs
    exact ⟨by unfold maxLen; omega, [], rfl, fun _ => ReadsG.nil _ _ _⟩
  · simp [Value.cells] at hcs
    obtain ⟨rfl, rfl, rfl⟩ := hcs
    rw [cells_bo] at hat
    have each : ∀ i, i < len → ∃ e : Bool, W.cell? ((a.add (i * 1)).add 0) = some (.bool e) := by
      intro i hi
      have h1 := hat i hi
      rw [List.getElem?_eq_getElem (by omega)] at h1
      obtain ⟨cs, hcs, htr⟩ := Option.bind_eq_some_iff.1 h1
      obtain ⟨e, rfl, -⟩ := DataW.trod_bool Tryz.underlying4 htr
      refine ⟨e, ?_⟩
      exact (World.cells?_some hcs).2.2 0 (by omega)
    obtain ⟨xs, hl, he⟩ := list_of len _ each
    refine ⟨by omega, xs, hl, fun hlen => ⟨by omega, fun i hi => ?_⟩⟩
    obtain ⟨b, off, spot⟩ := a
    have hi0 : 0 < xs.length := by omega
    have hc := he 0 hi0
    have hspot : spot = none := by
      have := World.cell?_spot hc
      simpa [Addr.add] using this
    subst hspot
    refine ⟨b, off, rfl, fun j hj k hk => ?_⟩
    have hk0 : k = 0 := by
      have : k < 1 := hk
      omega
    subst hk0
    have := he j hj
    rw [Addr.add_lit, Addr.add_lit] at this
    exact this
end Go.Proofs.YtcofhmikdkkigaaGreatDoor
