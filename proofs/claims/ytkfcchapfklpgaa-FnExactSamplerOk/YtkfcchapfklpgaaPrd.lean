/-
  Periods: the program's limited config: what it admits, what is on, what opens.
-/
import Derived.Test.YtkfcchapfklpgaaCfg
import Derived.Test.YtkfcchapfklpgaaGrownSet
import Derived.Test.YtkfcchapfklpgaaRegStab
namespace Go.Proofs.Ytkfcchapfklpgaa
open Go.RowKit

/-- A limited config's cells. -/
def LcAt (w : World) (b : Nat) (c : Cf) : Prop := LmAt w b ∧ CfAt w b 14 c
theorem LcAt.fr {w w' : World} {b : Nat} {c : Cf} (h : LcAt w b c) (k : Fr w w') : LcAt w' b c := ⟨h.1.fr k, h.2.fr k⟩
/-- The block of a limited config. -/
def LcZ (w : World) (b : Nat) (c : Array Value) : Prop := w.heap[b]? = some (.cells c 71 (0, 0))
theorem LcZ.lt {w : World} {b : Nat} {c : Array Value} (h : LcZ w b c) : b < w.heap.size := (Array.getElem?_eq_some_iff.1 h).1
theorem LcZ.fr {w w' : World} {b : Nat} {c : Array Value} (h : LcZ w b c) (k : Fr w w') : LcZ w' b c := (k.block b h.lt (fun q => by simp at q)).trans h
theorem LcZ.free {w : World} {b : Nat} {c : Array Value} (h : LcZ w b c) (i : Nat) : w.frozen? ⟨b, i, none⟩ = false := frozen_of_row w b i _ _ h
theorem LcZ.at {w : World} {b : Nat} {c : Cf} (h : LcZ w b #[.int .i64 0, .int .i64 1, .int .i64 1, .int .i64 1, .int .i64 0, .int .i64 1, .int .i64 1, .int .i64 1000000, .int .i64 1000, .int .i64 1000, .int .i64 100000, .int .i64 100000, .int .i64 512, .int .i64 64, .int .i64 c.r, .int .i64 c.s, .int .i64 c.b, .int .i64 c.m, .int .i64 c.q, .int .i64 c.c, .int .i64 c.w]) : LcAt w b c := by
  refine ⟨?_, ?_⟩
  · refine ⟨?_, ?_, ?_, ?_, ?_, ?_, ?_, ?_, ?_, ?_, ?_, ?_, ?_, ?_⟩ <;> rw [cell_of_row _ _ _ _ _ _ h] <;> rfl
  · refine ⟨?_, ?_, ?_, ?_, ?_, ?_, ?_⟩ <;> rw [cell_of_row _ _ _ _ _ _ h] <;> rfl
theorem LcZ.set {w : World} {b : Nat} {c d : Array Value} (h : LcZ w b c) : LcZ (w.setRow b d) b d := by
  unfold LcZ at *
  simp only [World.setRow, Array.getElem?_modify, if_true, h, Option.map_some]
theorem LcZ.grown (w : World) (b : Nat) (d : Array Value) : w.grownBy (w.setRow b d) (some b) :=
  ⟨rfl, rfl, rfl, by simp [World.setRow], fun k hk hne => by
    simp only [World.setRow, Array.getElem?_modify]
    rw [if_neg (fun q => hne (by rw [q]))]⟩

def dstL : Nat → Nat | 0 => 3 | 1 => 4 | _ => 5
/-- What each operation yields. -/
def RL (c : Cf) : Nat → Value → World → Prop
  | 0, v, _ => v = .agg #[.int .i64 0, .int .i64 1, .int .i64 1, .int .i64 1, .int .i64 0, .int .i64 1, .int .i64 1, .int .i64 1000000, .int .i64 1000, .int .i64 1000, .int .i64 100000, .int .i64 100000, .int .i64 512, .int .i64 64]
  | 1, v, _ => v = .agg #[.int .i64 c.r, .int .i64 c.s, .int .i64 c.b, .int .i64 c.m, .int .i64 c.q, .int .i64 c.c, .int .i64 c.w]
  | 2, v, _ => v = .agg #[.int .i64 0, .int .i64 1, .int .i64 1, .int .i64 1, .int .i64 0, .int .i64 1, .int .i64 1, .int .i64 1000000, .int .i64 1000, .int .i64 1000, .int .i64 100000, .int .i64 100000, .int .i64 512, .int .i64 64, .int .i64 c.r, .int .i64 c.s, .int .i64 c.b, .int .i64 c.m, .int .i64 c.q, .int .i64 c.c, .int .i64 c.w]
  | _, _, _ => True

set_option maxRecDepth 20000 in
set_option maxHeartbeats 2000000 in
theorem limited_any (c : Cf) (W : World) :
    Calls Try.prog 40 #[.agg #[.int .i64 c.r, .int .i64 c.s, .int .i64 c.b, .int .i64 c.m, .int .i64 c.q, .int .i64 c.c, .int .i64 c.w]] W fun e w' => e = .returned (.agg #[.int .i64 0, .int .i64 1, .int .i64 1, .int .i64 1, .int .i64 0, .int .i64 1, .int .i64 1, .int .i64 1000000, .int .i64 1000, .int .i64 1000, .int .i64 100000, .int .i64 100000, .int .i64 512, .int .i64 64, .int .i64 c.r, .int .i64 c.s, .int .i64 c.b, .int .i64 c.m, .int .i64 c.q, .int .i64 c.c, .int .i64 c.w]) ∧ Fr W w' := by
  obtain ⟨r, s, b, m, q, c, w⟩ := c
  have aC := CfAt.new W ⟨r, s, b, m, q, c, w⟩ 29
  have f := Fr.alloc W (.cells #[.int .i64 r, .int .i64 s, .int .i64 b, .int .i64 m, .int .i64 q, .int .i64 c, .int .i64 w] 29)
  go_enter Try.func40, Try.ntmps40
  go_wp2_with fail
  obtain ⟨U, hU⟩ : ∃ U, U = W.alloc (.cells #[.int .i64 r, .int .i64 s, .int .i64 b, .int .i64 m, .int .i64 q, .int .i64 c, .int .i64 w] 29) := ⟨_, rfl⟩
  have hs : U.heap.size = W.heap.size + 1 := by rw [hU]; simp
  rw [← hU] at aC f ⊢
  clear hU
  have kz : LcZ (U.alloc (.cells #[.int .i64 0, .int .i64 0, .int .i64 0, .int .i64 0, .int .i64 0, .int .i64 0, .int .i64 0, .int .i64 0, .int .i64 0, .int .i64 0, .int .i64 0, .int .i64 0, .int .i64 0, .int .i64 0, .int .i64 0, .int .i64 0, .int .i64 0, .int .i64 0, .int .i64 0, .int .i64 0, .int .i64 0] 71)) U.heap.size #[.int .i64 0, .int .i64 0, .int .i64 0, .int .i64 0, .int .i64 0, .int .i64 0, .int .i64 0, .int .i64 0, .int .i64 0, .int .i64 0, .int .i64 0, .int .i64 0, .int .i64 0, .int .i64 0, .int .i64 0, .int .i64 0, .int .i64 0, .int .i64 0, .int .i64 0, .int .i64 0, .int .i64 0] := heap_alloc_new U _
  have f2 := Fr.alloc U (.cells #[.int .i64 0, .int .i64 0, .int .i64 0, .int .i64 0, .int .i64 0, .int .i64 0, .int .i64 0, .int .i64 0, .int .i64 0, .int .i64 0, .int .i64 0, .int .i64 0, .int .i64 0, .int .i64 0, .int .i64 0, .int .i64 0, .int .i64 0, .int .i64 0, .int .i64 0, .int .i64 0, .int .i64 0] 71)
  obtain ⟨V, hV⟩ : ∃ V, V = U.alloc (.cells #[.int .i64 0, .int .i64 0, .int .i64 0, .int .i64 0, .int .i64 0, .int .i64 0, .int .i64 0, .int .i64 0, .int .i64 0, .int .i64 0, .int .i64 0, .int .i64 0, .int .i64 0, .int .i64 0, .int .i64 0, .int .i64 0, .int .i64 0, .int .i64 0, .int .i64 0, .int .i64 0, .int .i64 0] 71) := ⟨_, rfl⟩
  rw [← hV] at f2 kz ⊢
  clear hV
  rw [hs] at kz
  replace aC := aC.fr f2
  replace f := f.trans f2
  clear f2 hs
  refine wp_region_stab 3 dstL (fun X => { tmps := #[.agg #[.int .i64 r, .int .i64 s, .int .i64 b, .int .i64 m, .int .i64 q, .int .i64 c, .int .i64 w], .pointer (some ⟨W.heap.size, 0, none⟩), .pointer (some ⟨W.heap.size + 1, 0, none⟩), X 3, X 4, X 5], defers := [] }) (RL ⟨r, s, b, m, q, c, w⟩) (fun _ => undef) (by kernel_rfl) rfl (dst_of (by kernel_rfl)) (fun i v u u' h _ => by rcases i with _ | _ | _ | i <;> exact h) (lex_of (by kernel_rfl)) (allR_of (by kernel_rfl)) ?_ ?_
  · intro i o X u hi ho hF hE
    have hFV : Fr V u := (Fr.drew V).trans hF
    obtain ⟨k0, k1, k2, k3, k4, k5, k6⟩ := aC.fr hFV
    simp only [Nat.zero_add] at k0 k1 k2 k3 k4 k5 k6
    rcases i with _ | _ | _ | i
    · simp only [List.getElem?_toArray, List.getElem?_cons_zero, Option.some.injEq] at ho
      subst ho
      refine ⟨by simp [Region.wanted], ?_⟩
      go_simp
      refine (limits_any _).mono ?_
      rintro x u' ⟨rfl, f'⟩
      exact ⟨_, (by simp [upd, dstL]), f', rfl⟩
    · simp only [List.getElem?_toArray, List.getElem?_cons_succ, List.getElem?_cons_zero, Option.some.injEq] at ho
      subst ho
      refine ⟨by simp [Region.wanted], ?_⟩
      go_simp
      exact ⟨_, (by simp [upd, dstL]), Fr.refl _, rfl⟩
    · simp only [List.getElem?_toArray, List.getElem?_cons_succ, List.getElem?_cons_zero, Option.some.injEq] at ho
      subst ho
      refine ⟨by simp [Region.wanted], ?_⟩
      have e0 : X 3 = .agg #[.int .i64 0, .int .i64 1, .int .i64 1, .int .i64 1, .int .i64 0, .int .i64 1, .int .i64 1, .int .i64 1000000, .int .i64 1000, .int .i64 1000, .int .i64 100000, .int .i64 100000, .int .i64 512, .int .i64 64] := hE ⟨0, .data⟩ (by simp) rfl
      have e1 : X 4 = .agg #[.int .i64 r, .int .i64 s, .int .i64 b, .int .i64 m, .int .i64 q, .int .i64 c, .int .i64 w] := hE ⟨1, .data⟩ (by simp) rfl
      go_simp
      exact ⟨_, (by simp only [upd, dstL, e0, e1]; simp), Fr.refl _, rfl⟩
    · omega
  · intro o X u ho hF hX
    simp only [List.getElem?_toArray, List.getElem?_cons_succ, List.getElem?_cons_zero, Option.some.injEq] at ho
    subst ho
    have hFV : Fr V u := (Fr.drew V).trans hF
    have e2 : X 5 = .agg #[.int .i64 0, .int .i64 1, .int .i64 1, .int .i64 1, .int .i64 0, .int .i64 1, .int .i64 1, .int .i64 1000000, .int .i64 1000, .int .i64 1000, .int .i64 100000, .int .i64 100000, .int .i64 512, .int .i64 64, .int .i64 r, .int .i64 s, .int .i64 b, .int .i64 m, .int .i64 q, .int .i64 c, .int .i64 w] := hX 2 (by omega)
    have ku := kz.fr hFV
    refine ⟨by simp [Region.wanted], wp_store_row 71 (.tmp 2) (.tmp 5) rfl (W.heap.size + 1) #[.int .i64 0, .int .i64 1, .int .i64 1, .int .i64 1, .int .i64 0, .int .i64 1, .int .i64 1, .int .i64 1000000, .int .i64 1000, .int .i64 1000, .int .i64 100000, .int .i64 100000, .int .i64 512, .int .i64 64, .int .i64 r, .int .i64 s, .int .i64 b, .int .i64 m, .int .i64 q, .int .i64 c, .int .i64 w] rfl e2 71 _ ku (by kernel_rfl) (by simp) (by simp [Value.oneCell']) ?_⟩
    have kr : LcZ (u.setRow (W.heap.size + 1) #[.int .i64 0, .int .i64 1, .int .i64 1, .int .i64 1, .int .i64 0, .int .i64 1, .int .i64 1, .int .i64 1000000, .int .i64 1000, .int .i64 1000, .int .i64 100000, .int .i64 100000, .int .i64 512, .int .i64 64, .int .i64 r, .int .i64 s, .int .i64 b, .int .i64 m, .int .i64 q, .int .i64 c, .int .i64 w]) (W.heap.size + 1) #[.int .i64 0, .int .i64 1, .int .i64 1, .int .i64 1, .int .i64 0, .int .i64 1, .int .i64 1, .int .i64 1000000, .int .i64 1000, .int .i64 1000, .int .i64 100000, .int .i64 100000, .int .i64 512, .int .i64 64, .int .i64 r, .int .i64 s, .int .i64 b, .int .i64 m, .int .i64 q, .int .i64 c, .int .i64 w] := ku.set
    have gr := LcZ.grown u (W.heap.size + 1) (#[.int .i64 0, .int .i64 1, .int .i64 1, .int .i64 1, .int .i64 0, .int .i64 1, .int .i64 1, .int .i64 1000000, .int .i64 1000, .int .i64 1000, .int .i64 100000, .int .i64 100000, .int .i64 512, .int .i64 64, .int .i64 r, .int .i64 s, .int .i64 b, .int .i64 m, .int .i64 q, .int .i64 c, .int .i64 w])
    obtain ⟨Y, hY⟩ : ∃ Y, Y = u.setRow (W.heap.size + 1) #[.int .i64 0, .int .i64 1, .int .i64 1, .int .i64 1, .int .i64 0, .int .i64 1, .int .i64 1, .int .i64 1000000, .int .i64 1000, .int .i64 1000, .int .i64 100000, .int .i64 100000, .int .i64 512, .int .i64 64, .int .i64 r, .int .i64 s, .int .i64 b, .int .i64 m, .int .i64 q, .int .i64 c, .int .i64 w] := ⟨_, rfl⟩
    rw [← hY] at kr gr ⊢
    clear hY
    have hr := run_loadVar_row (P := Try.prog) Y (W.heap.size + 1) 71 71 #[.int .i64 0, .int .i64 1, .int .i64 1, .int .i64 1, .int .i64 0, .int .i64 1, .int .i64 1, .int .i64 1000000, .int .i64 1000, .int .i64 1000, .int .i64 100000, .int .i64 100000, .int .i64 512, .int .i64 64, .int .i64 r, .int .i64 s, .int .i64 b, .int .i64 m, .int .i64 q, .int .i64 c, .int .i64 w] (0, 0) _ kr Try.underlying71 rfl (by kernel_rfl)
    go_wp2_with fail
    refine bodyPost_ret (v := .agg #[.int .i64 0, .int .i64 1, .int .i64 1, .int .i64 1, .int .i64 0, .int .i64 1, .int .i64 1, .int .i64 1000000, .int .i64 1000, .int .i64 1000, .int .i64 100000, .int .i64 100000, .int .i64 512, .int .i64 64, .int .i64 r, .int .i64 s, .int .i64 b, .int .i64 m, .int .i64 q, .int .i64 c, .int .i64 w]) (by simp only [results, Try.results40]; simp; exact hr) rfl ⟨rfl, ?_⟩
    exact (f.trans hFV).then gr (by intro j hj; cases hj; omega)

set_option maxRecDepth 20000 in
set_option maxHeartbeats 2000000 in
theorem lcOk_any (c : Cf) (W : World) :
    Calls Try.prog 48 #[.agg #[.int .i64 0, .int .i64 1, .int .i64 1, .int .i64 1, .int .i64 0, .int .i64 1, .int .i64 1, .int .i64 1000000, .int .i64 1000, .int .i64 1000, .int .i64 100000, .int .i64 100000, .int .i64 512, .int .i64 64, .int .i64 c.r, .int .i64 c.s, .int .i64 c.b, .int .i64 c.m, .int .i64 c.q, .int .i64 c.c, .int .i64 c.w]] W fun e w' => e = .returned (.bool (cfB c)) ∧ Fr W w' := by
  have cA := fun u => admit_any c u
  obtain ⟨r, s, b, m, q, c, w⟩ := c
  generalize cfB ⟨r, s, b, m, q, c, w⟩ = B at cA ⊢
  simp only at cA ⊢
  have kb : LcZ (W.alloc (.cells #[.int .i64 0, .int .i64 1, .int .i64 1, .int .i64 1, .int .i64 0, .int .i64 1, .int .i64 1, .int .i64 1000000, .int .i64 1000, .int .i64 1000, .int .i64 100000, .int .i64 100000, .int .i64 512, .int .i64 64, .int .i64 r, .int .i64 s, .int .i64 b, .int .i64 m, .int .i64 q, .int .i64 c, .int .i64 w] 71)) W.heap.size #[.int .i64 0, .int .i64 1, .int .i64 1, .int .i64 1, .int .i64 0, .int .i64 1, .int .i64 1, .int .i64 1000000, .int .i64 1000, .int .i64 1000, .int .i64 100000, .int .i64 100000, .int .i64 512, .int .i64 64, .int .i64 r, .int .i64 s, .int .i64 b, .int .i64 m, .int .i64 q, .int .i64 c, .int .i64 w] := heap_alloc_new W _
  have f := Fr.alloc W (.cells #[.int .i64 0, .int .i64 1, .int .i64 1, .int .i64 1, .int .i64 0, .int .i64 1, .int .i64 1, .int .i64 1000000, .int .i64 1000, .int .i64 1000, .int .i64 100000, .int .i64 100000, .int .i64 512, .int .i64 64, .int .i64 r, .int .i64 s, .int .i64 b, .int .i64 m, .int .i64 q, .int .i64 c, .int .i64 w] 71)
  go_enter Try.func48, Try.ntmps48
  go_wp2_with fail
  obtain ⟨U, hU⟩ : ∃ U, U = W.alloc (.cells #[.int .i64 0, .int .i64 1, .int .i64 1, .int .i64 1, .int .i64 0, .int .i64 1, .int .i64 1, .int .i64 1000000, .int .i64 1000, .int .i64 1000, .int .i64 100000, .int .i64 100000, .int .i64 512, .int .i64 64, .int .i64 r, .int .i64 s, .int .i64 b, .int .i64 m, .int .i64 q, .int .i64 c, .int .i64 w] 71) := ⟨_, rfl⟩
  rw [← hU] at kb f ⊢
  clear hU
  refine (cA _).mono ?_
  rintro e u1 ⟨rfl, f1⟩
  go_wp2_with fail
  go_ret
  exact ⟨rfl, f.trans f1⟩

/-- Are these right draws? -/
def dwB (xs : List Int) : Bool := decide (xs.length ≤ 300) && xs.all (inB 0 999999)
theorem dwB_long {xs : List Int} (h : 300 < xs.length) : dwB xs = false := by
  have : decide (xs.length ≤ 300) = false := decide_eq_false (by omega)
  simp [dwB, this]
theorem dwB_bad {xs : List Int} {j : Nat} (hj : j < xs.length) (h : inB 0 999999 xs[j] = false) : dwB xs = false := by
  have : xs.all (inB 0 999999) = false := by
    rw [Bool.eq_false_iff]; intro e; rw [List.all_eq_true] at e; have := e xs[j] (List.getElem_mem hj); rw [h] at this; cases this
  simp [dwB, this]
theorem dwB_mk {xs : List Int} (h1 : xs.length ≤ 300) (h2 : ∀ j, j < xs.length → inB 0 999999 (xs.getD j 0) = true) : dwB xs = true := by
  simp only [dwB, Bool.and_eq_true, decide_eq_true_eq, List.all_eq_true]
  refine ⟨h1, fun x hx => ?_⟩
  obtain ⟨j, hj, rfl⟩ := List.mem_iff_getElem.1 hx
  have := h2 j hj
  rwa [getD_at hj] at this
theorem dwB_len {xs : List Int} (h : dwB xs = true) : xs.length ≤ 300 := by
  simp only [dwB, Bool.and_eq_true, decide_eq_true_eq] at h; exact h.1
theorem dwB_at {xs : List Int} (h : dwB xs = true) {j : Nat} (hj : j < xs.length) : 0 ≤ xs.getD j 0 ∧ xs.getD j 0 ≤ 999999 := by
  simp only [dwB, Bool.and_eq_true, List.all_eq_true] at h
  rw [getD_at hj]
  exact inB_true (h.2 _ (List.getElem_mem hj))

set_option maxRecDepth 20000 in
set_option maxHeartbeats 2000000 in
theorem admitDraws_any (ao : Option Addr) (n cap : Nat) (xs : List Int) (W : World) (hn : xs.length = n) (h : Reads W ao xs) :
    Calls Try.prog 56 #[.agg #[.int .i64 0, .int .i64 1, .int .i64 1, .int .i64 1, .int .i64 0, .int .i64 1, .int .i64 1, .int .i64 1000000, .int .i64 1000, .int .i64 1000, .int .i64 100000, .int .i64 100000, .int .i64 512, .int .i64 64], .slice ao n cap] W fun e w' => e = .returned (.bool (dwB xs)) ∧ Fr W w' := by
  subst hn
  have hl := h.len
  have aL := LmAt.new W 69
  have f := Fr.alloc W (.cells #[.int .i64 0, .int .i64 1, .int .i64 1, .int .i64 1, .int .i64 0, .int .i64 1, .int .i64 1, .int .i64 1000000, .int .i64 1000, .int .i64 1000, .int .i64 100000, .int .i64 100000, .int .i64 512, .int .i64 64] 69)
  by_cases h3 : 300 < xs.length
  · go_enter Try.func56, Try.ntmps56
    go_wp2_with fail
    go_ret
    exact ⟨ret_bool (dwB_long h3).symm, f⟩
  · have h3' : xs.length ≤ 300 := by omega
    go_enter Try.func56, Try.ntmps56
    go_wp2
    obtain ⟨U, hU⟩ : ∃ U, U = W.alloc (.cells #[.int .i64 0, .int .i64 1, .int .i64 1, .int .i64 1, .int .i64 0, .int .i64 1, .int .i64 1, .int .i64 1000000, .int .i64 1000, .int .i64 1000, .int .i64 100000, .int .i64 100000, .int .i64 512, .int .i64 64] 69) := ⟨_, rfl⟩
    rw [← hU] at aL f ⊢
    clear hU
    obtain ⟨m0, m1, m2, m3, m4, m5, m6, n0, n1, n2, n3, n4, n5, n6⟩ := aL
    have h := h.fr f
    go_loop [12] (fun i => ∃ k : Nat, k ≤ xs.length ∧ i = .int .i64 k ∧ Hid (∀ j, j < k → inB 0 999999 (xs.getD j 0) = true)) (fun i => xs.length - (intOf i).toNat)
    case atStart => exact ⟨0, Nat.zero_le _, rfl, fun j hj => by omega⟩
    case round =>
      obtain ⟨k, hk, rfl, HA⟩ := hrel
      by_cases hlt : k < xs.length
      · obtain ⟨b, off, rfl, hc⟩ := h.at_ k hlt
        have hck := hc k hlt
        rw [getD_at hlt] at hck
        clear hc
        cases hin : inB 0 999999 xs[k]
        · go_wp2_with (go_at_call 29; refine (within_any _ _ _ _).mono ?_; rintro e w' ⟨rfl, rfl⟩)
          go_ret
          exact ⟨ret_bool (dwB_bad hlt hin).symm, f⟩
        · go_wp2_with (go_at_call 29; refine (within_any _ _ _ _).mono ?_; rintro e w' ⟨rfl, rfl⟩)
          go_round
          case rel =>
            refine ⟨k + 1, by omega, by go_num, fun j hj => ?_⟩
            by_cases e : j = k
            · subst e; rw [getD_at hlt]; exact hin
            · exact HA.out j (by omega)
          case measure => simp [intOf]; omega
      · go_wp2
        go_ret
        exact ⟨ret_bool (dwB_mk h3' fun j hj => HA.out j (by omega)).symm, f⟩
end Go.Proofs.Ytkfcchapfklpgaa
