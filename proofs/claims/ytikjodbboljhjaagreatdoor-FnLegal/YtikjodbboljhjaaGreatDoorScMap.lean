/-
  Maps from numbers: a block that holds a function.
-/
import Derived.Test.YtikjodbboljhjaaGreatDoorScK
import Derived.Maps.OwnSet
namespace Go.Proofs.YtikjodbboljhjaaGreatDoor
open Go.RowKit

/-- An element's value reads as itself. -/
def asIs (v : Value) : Option (DataW Value × List MemPlace) := some (.held v, [])
theorem keyed64 : Maps.Keyed Tryz.prog 2 := Maps.int_keyed Tryz.underlying2
/-- Block b is a map of at most n entries that holds f. -/
def MapF (w : World) (b n : Nat) (f : Int → Option Value) : Prop :=
  ∃ D : DataW Value, w.ownsMap Tryz.prog 2 asIs b n D ∧ ∀ i z, D.atKey (.int .i64 i) z = ((f i).map DataW.held).getD z

theorem lit64 {i : Int} (h : I64 i) : (Lit.int .i64 i).wf = true := by
  obtain ⟨h1, h2⟩ := h
  simp [Lit.wf, IntKind.min, IntKind.max, IntKind.signed, IntKind.bits]
  omega
theorem MapF.made (w : World) : MapF (w.alloc (.map #[] 0)) w.heap.size 0 (fun _ => none) :=
  ⟨.map [], World.ownsMap_made w _ _ _, fun _ _ => rfl⟩
theorem MapF.keep {w w' : World} {b n : Nat} {f : Int → Option Value} {row : Option Nat} (h : MapF w b n f) (k : w.grownBy w' row) (hr : some b ≠ row) : MapF w' b n f := by
  obtain ⟨D, h1, h2⟩ := h
  exact ⟨D, h1.kept k hr, h2⟩
theorem MapF.fr {w w' : World} {b n : Nat} {f : Int → Option Value} (h : MapF w b n f) (k : Fr w w') : MapF w' b n f := h.keep k (by simp)
theorem MapF.lt {w : World} {b n : Nat} {f : Int → Option Value} (h : MapF w b n f) : b < w.heap.size := by
  obtain ⟨D, h1, _⟩ := h
  exact h1.lt
theorem mapF_has {f : Int → Option Value} {D : DataW Value} (h : ∀ i z, D.atKey (.int .i64 i) z = ((f i).map DataW.held).getD z) (i : Int) : Maps.has D (.int .i64 i) = (f i).isSome := by
  cases hf : f i with
  | none => exact Maps.has_false_of_atKey fun z => by rw [h i z, hf]; rfl
  | some v => exact Maps.has_true_of_atKey (y := .held v) fun z => by rw [h i z, hf]; rfl
/-- 'v, ok := m[i]'. -/
theorem MapF.look_ok {w : World} {b n : Nat} {f : Int → Option Value} (h : MapF w b n f) {t e : TypeId} (ht : Tryz.prog.underlying t = some (.map 2 e)) {z : Value} (hz : (zeroValue e).run Tryz.prog w = .ok z w) {i : Int} (hi : I64 i) :
    (Instr.lookup t (.map (some b)) (.int .i64 i) true).run Tryz.prog w = .ok (.tuple #[(f i).getD z, .bool (f i).isSome]) w := by
  obtain ⟨D, h1, h2⟩ := h
  obtain ⟨v, ps, hrun, hv⟩ := h1.look_ok keyed64 ht hz (zd := .held z) (zp := []) rfl (Maps.keyOf_int_mk Tryz.underlying2 (lit64 hi))
  rw [mapF_has h2] at hrun
  simp only [asIs, Option.some.injEq, Prod.mk.injEq] at hv
  have hv := hv.1
  rw [h2] at hv
  have : v = (f i).getD z := by
    cases hf : f i with
    | none => rw [hf] at hv; simpa using hv
    | some u => rw [hf] at hv; simpa using hv
  rw [hrun, this]
/-- 'm[i]'. -/
theorem MapF.look {w : World} {b n : Nat} {f : Int → Option Value} (h : MapF w b n f) {t e : TypeId} (ht : Tryz.prog.underlying t = some (.map 2 e)) {z : Value} (hz : (zeroValue e).run Tryz.prog w = .ok z w) {i : Int} (hi : I64 i) :
    (Instr.lookup t (.map (some b)) (.int .i64 i) false).run Tryz.prog w = .ok ((f i).getD z) w := by
  obtain ⟨D, h1, h2⟩ := h
  obtain ⟨v, ps, hrun, hv⟩ := h1.lookup keyed64 ht hz (zd := .held z) (zp := []) rfl (Maps.keyOf_int_mk Tryz.underlying2 (lit64 hi))
  simp only [asIs, Option.some.injEq, Prod.mk.injEq] at hv
  have hv := hv.1
  rw [h2] at hv
  have : v = (f i).getD z := by
    cases hf : f i with
    | none => rw [hf] at hv; simpa using hv
    | some u => rw [hf] at hv; simpa using hv
  rw [hrun, this]
/-- f with v at i. -/
def putM (f : Int → Option Value) (i : Int) (v : Value) : Int → Option Value := fun j => if j = i then some v else f j
/-- 'm[i] = v'. -/
theorem MapF.put {w : World} {b n : Nat} {f : Int → Option Value} (h : MapF w b n f) {t e : TypeId} (ht : Tryz.prog.underlying t = some (.map 2 e)) (hn : n < maxLen) {i : Int} (hi : I64 i) (v : Value) :
    ∃ w', (Instr.mapUpdate t (.map (some b)) (.int .i64 i) v).run Tryz.prog w = .ok () w' ∧ MapF w' b (n + 1) (putM f i v) ∧ w.grownBy w' (some b) := by
  obtain ⟨D, h1, h2⟩ := h
  obtain ⟨w', hrun, h3, h4⟩ := h1.update keyed64 ht hn (Maps.keyOf_int_mk Tryz.underlying2 (lit64 hi)) (val := v) (d := .held v) (ps := []) rfl
  refine ⟨w', hrun, ⟨_, h3, fun j z => ?_⟩, h4⟩
  unfold putM
  by_cases e : j = i
  · subst e
    rw [if_pos rfl, Maps.atKey_put_same h1.isMap (keyed64.key (Maps.keyOf_int_mk Tryz.underlying2 (lit64 hi)))]
    rfl
  · rw [if_neg e, Maps.atKey_put_other (by simpa using e), h2]
/-- 'm[i] = v' at the operation. -/
theorem wp_put {w : World} {ops : Array Oper} {rest : List Oper} {o : Oper} {a : Act} {Q : Exit → Act → World → Prop} (hg : o.guard = none) (m x u : Operand) (t : TypeId) (hop : o.op = Op.mapUpdate t m x u)
    {e : TypeId} (ht : Tryz.prog.underlying t = some (.map 2 e)) (b n : Nat) (f : Int → Option Value) (i : Int) (v : Value) (hm : a.eval m = .map (some b)) (hx : a.eval x = .int .i64 i) (hu : a.eval u = v) (h : MapF w b n f) (hn : n < maxLen) (hi : I64 i)
    (hK : ∀ w', MapF w' b (n + 1) (putM f i v) → w.grownBy w' (some b) → wpList Tryz.prog ops Q rest (a.put o.dst undef) w') : wpList Tryz.prog ops Q (o :: rest) a w := by
  refine wpList_plain hg fun K' hK' => ?_
  obtain ⟨w', hrun, r1, r2⟩ := h.put ht hn hi v
  unfold Oper.wp
  simp [execOp, hop, hm, hx, hu, hrun, Result.andThen]
  exact hK' _ _ (hK w' r1 r2)
end Go.Proofs.YtikjodbboljhjaaGreatDoor
