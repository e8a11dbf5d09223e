/-
  'append' of one element to a list that is nil or owned: the operation alone.
-/
import Derived.Test.YtcofhmikdkkigaaGreatDoorPfAR
import Derived.Test.YtcofhmikdkkigaaGreatDoorPfAB
namespace Go.Proofs.YtcofhmikdkkigaaGreatDoor
open Go.RowKit

theorem HasG.own {α : Type} {L : Lay α} {w : World} {ao : Option Addr} {n c : Nat} {xs : List α} (h : HasG L w ao n c xs) : w.ownsRow 0 L.ty L.sz (.slice ao n c) xs.length (xs.flatMap L.cs) := by
  rcases h with ⟨rfl, rfl, rfl, rfl⟩ | ⟨g, cap, e, ho, hl⟩
  · exact ⟨by simp, .inl ⟨rfl, rfl⟩⟩
  · rw [e]; exact ho
theorem op_appH {α : Type} (L : Lay α) {o : Oper} {a : Act} {w : World} {K : Act → World → Prop} {Q : Exit → Act → World → Prop} (s x : Operand) (T : TypeId) (z : Value) (bytes : Nat)
    (ho : o.op = .call { callee := .builtin .append, args := #[s, x], argTypes := #[T, T] })
    (hT : Tryz.prog.underlying T = some (.slice L.ty)) (hI : (Tryz.prog.info? L.ty).map (fun i => (i.zero, i.size, i.bytes)) = some (some z, L.sz, bytes)) (hzs : z.cells.size = L.sz) (hby : bytes ≤ 1000)
    (ao : Option Addr) (n c : Nat) (xs : List α) (e : α) (hs : a.eval s = .slice ao n c) (hown : HasG L w ao n c xs)
    (b : Nat) (c1 : Nat) (hx : a.eval x = .slice (some ⟨b, 0, none⟩) 1 c1) (hnew : ∀ k, k < L.sz → w.cell? ⟨b, k, none⟩ = (L.cs e)[k]?)
    (hlen : xs.length ≤ 1000)
    (h : ∀ g' c' w', OwnG L w' 0 (.slice (some ⟨g', 0, none⟩) (xs.length + 1) c') (xs ++ [e]) → w.grownBy w' (blk ao) → (some g' = blk ao ∨ g' = w.heap.size) → K (a.put o.dst (.slice (some ⟨g', 0, none⟩) (xs.length + 1) c')) w') : o.wp Tryz.prog a w K Q := by
  obtain ⟨i0, hi, hz0, hz1, hz2⟩ := info_parts hI
  have hb : (xs.length + 1) * bytes ≤ 140737488355328 := by
    have := Nat.mul_le_mul (show xs.length + 1 ≤ 16777216 by omega) hby
    omega
  have hob : (Value.slice ao n c).ownBlock = blk ao := by cases ao <;> rfl
  obtain ⟨v', w', hr, hv, hg, hnz, hat⟩ := run_append_own_at (P := Tryz.prog) w 0 T o.type L.ty i0 z L.sz bytes hT hi hz0 hz1 hz2 hzs L.pos _ _ _ hown.own ⟨b, 0, none⟩ 1 c1 (L.cs e) (by rw [L.len, Nat.one_mul]) (by
    intro j u hu
    rw [Addr.add_lit]
    have hj : j < L.sz := by
      have := (List.getElem?_eq_some_iff.1 hu).1
      rwa [L.len] at this
    rw [Nat.zero_add, hnew j hj, hu]) (L.one e) (by unfold maxLen; omega) hb (Nat.zero_le _)
  rw [hob] at hg hat
  have hF : K (a.put o.dst v') w' := by
    rcases hv.2 with ⟨e', _⟩ | ⟨g', cap', cur, e', r⟩
    · have := (hnz.1 e').2
      simp at this
    · subst e'
      exact h g' cap' w' ⟨g', cap', by simp, by simpa [List.flatMap_append] using hv, by simp; omega⟩ hg (by simpa [Value.ownBlock] using hat)
  unfold Oper.wp execOp
  simp only [ho, resolve, invoke, builtin, Sem.run_bind, Sem.run_pure, Result.andThen_ok, List.map_toArray, List.map_cons, List.map_nil, hs, hx, hr]
  exact hF

/-- Numbers as elements. -/
def layI : Lay Int where
  ty := 2
  sz := 1
  cs l := [.int .i64 l]
  pos := by omega
  len _ := rfl
  one x u hu := by
    simp only [List.mem_cons, List.not_mem_nil, or_false] at hu
    rcases hu with rfl
    rfl
theorem layI_flat (xs : List Int) : xs.flatMap layI.cs = xs.map (Value.int .i64) := by
  induction xs with
  | nil => rfl
  | cons x xs ih => rw [List.flatMap_cons, ih]; rfl
theorem HasS.own {w : World} {ao : Option Addr} {n c : Nat} (h : HasS w ao n c) (hn : n ≤ 1000) : ∃ xs, HasG layI w ao n c xs ∧ n = xs.length ∧ ∀ x ∈ xs, I64 x := by
  rcases h with ⟨rfl, rfl, rfl⟩ | ⟨xs, g, cap, e, ho⟩
  · exact ⟨[], .inl ⟨rfl, rfl, rfl, rfl⟩, rfl, by simp⟩
  · simp only [Value.slice.injEq] at e
    obtain ⟨rfl, rfl, rfl⟩ := e
    exact ⟨xs, .inr ⟨g, c, rfl, by rw [layI_flat]; exact ho.1, by omega⟩, rfl, ho.2.2⟩
end Go.Proofs.YtcofhmikdkkigaaGreatDoor
