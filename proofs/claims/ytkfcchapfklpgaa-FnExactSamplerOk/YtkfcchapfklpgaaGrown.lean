/-
  A region that draws its order and whose callees make new blocks alone: one walk, in the order of the text, serves every order.
-/
import Derived.Test.YtkfcchapfklpgaaInts
namespace Go.Proofs.Ytkfcchapfklpgaa
open Go.RowKit

/-- A world that is w and new blocks. -/
structure Later (w : World) where
  u : World
  fr : Fr w u

theorem Later.some (w : World) : Nonempty (Later w) := ⟨⟨w, Fr.refl w⟩⟩

theorem wp_region_grown {P : Program} {id : Nat} {Q : Exit → Act → World → Prop} {a : Act} {w : World} {l : List Oper} (hm : P.follows .mixedOrders = true) (hB : Region.lexB .any l.toArray = true)
    (h : wpQuiet P l.toArray (fun w' => ∃ s : Later w, w' = s.u) (fun a' => ∀ w', (∃ s : Later w, w' = s.u) → Q .normal a' w') l a) : (Code.region id l.toArray true).wp P Q a w :=
  wp_region_quiet (C := fun w' => ∃ s : Later w, w' = s.u) hm hB ⟨⟨w.drew, Fr.drew w⟩, rfl⟩ (by simpa using h)

theorem Calls.grown_of {P : Program} {f : FuncId} {args : Array Value} {w : World} {s : Later w} {v : Value}
    (h : Calls P f args s.u fun e w' => e = .returned v ∧ Fr s.u w') : Calls P f args s.u fun e w'' => e = .returned v ∧ ∃ s' : Later w, w'' = s'.u :=
  h.mono fun _ w' ⟨he, hf⟩ => ⟨he, ⟨w', s.fr.trans hf⟩, rfl⟩
theorem Calls.grown_same {P : Program} {f : FuncId} {args : Array Value} {w : World} {s : Later w} {v : Value}
    (h : Calls P f args s.u fun e w' => e = .returned v ∧ w' = s.u) : Calls P f args s.u fun e w'' => e = .returned v ∧ ∃ s' : Later w, w'' = s'.u :=
  h.mono fun _ _ ⟨he, hm⟩ => ⟨he, s, hm⟩
end Go.Proofs.Ytkfcchapfklpgaa
