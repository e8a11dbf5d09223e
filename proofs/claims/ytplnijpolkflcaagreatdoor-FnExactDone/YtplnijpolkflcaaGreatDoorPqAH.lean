/-
  Pack AH: EvTo, Ev2, EvOk, Bytes, Num, Dec.
-/
import Derived.Test.YtplnijpolkflcaaGreatDoorPqAE
import Derived.Test.YtplnijpolkflcaaGreatDoorPqAA
import Derived.Laws.AppendOwnNone
namespace Go.Proofs.YtplnijpolkflcaaGreatDoor
open Go.RowKit

def EvAt (w : World) (b : Nat) (e : Ev) : Prop :=
  w.cell? ⟨b, 0, none⟩ = some (.int .i64 e.k) ∧ w.cell? ⟨b, 1, none⟩ = some (.int .i64 e.g) ∧ w.cell? ⟨b, 2, none⟩ = some (.int .i64 e.o) ∧ w.cell? ⟨b, 3, none⟩ = some (.int .i64 e.w) ∧ w.cell? ⟨b, 4, none⟩ = some (.int .i64 e.l) ∧ w.cell? ⟨b, 5, none⟩ = some (.int .i64 e.s) ∧ w.cell? ⟨b, 6, none⟩ = some (.int .i64 e.f) ∧ w.cell? ⟨b, 7, none⟩ = some (.int .i64 e.t)
theorem EvAt.fr {w w' : World} {b : Nat} {e : Ev} (h : EvAt w b e) (k : Fr w w') : EvAt w' b e := by
  obtain ⟨c0, c1, c2, c3, c4, c5, c6, c7⟩ := h
  exact ⟨k.cell c0, k.cell c1, k.cell c2, k.cell c3, k.cell c4, k.cell c5, k.cell c6, k.cell c7⟩
theorem EvAt.new (w : World) (e : Ev) (t : TypeId) : EvAt (w.alloc (.cells #[.int .i64 e.k, .int .i64 e.g, .int .i64 e.o, .int .i64 e.w, .int .i64 e.l, .int .i64 e.s, .int .i64 e.f, .int .i64 e.t] t)) w.heap.size e := by
  refine ⟨?_, ?_, ?_, ?_, ?_, ?_, ?_, ?_⟩ <;> rw [cell_of_row _ _ _ _ _ _ (heap_alloc_new w _)] <;> rfl

set_option maxHeartbeats 1000000 in
theorem toEvent_any (e : Ev) (w : World) :
    Calls Tryz.prog 34 #[.agg #[.int .i64 e.k, .int .i64 e.g, .int .i64 e.o, .int .i64 e.w, .int .i64 e.l, .int .i64 e.s, .int .i64 e.f, .int .i64 e.t]] w fun x w' => x = .returned (.agg #[.int .i64 e.k, .int .i64 e.g, .int .i64 e.o, .int .i64 e.w, .int .i64 e.l, .int .i64 e.s, .int .i64 e.f, .int .i64 e.t]) ∧ Fr w w' := by
  obtain ⟨k, g, o, wi, l, sz, f, t⟩ := e
  simp only
  go_enter Tryz.func34, Tryz.ntmps34
  go_wp2_with fail
  refine bodyPost_ret (v := .agg #[.int .i64 k, .int .i64 g, .int .i64 o, .int .i64 wi, .int .i64 l, .int .i64 sz, .int .i64 f, .int .i64 t]) (by simp [results, Tryz.results34, go_sem]) rfl ⟨rfl, ?_⟩
  exact ((Fr.alloc _ _).trans (Fr.alloc _ _)).trans (Fr.alloc _ _)

def EvB (w : World) (b : Nat) (e : Ev) : Prop := w.heap[b]? = some (.cells #[.int .i64 e.k, .int .i64 e.g, .int .i64 e.o, .int .i64 e.w, .int .i64 e.l, .int .i64 e.s, .int .i64 e.f, .int .i64 e.t] 31 (0, 0))

theorem EvB.lt {w : World} {b : Nat} {e : Ev} (h : EvB w b e) : b < w.heap.size := (Array.getElem?_eq_some_iff.1 h).1
theorem EvB.keep {w w' : World} {b : Nat} {e : Ev} {row : Option Nat} (h : EvB w b e) (k : w.grownBy w' row) (hr : row ≠ some b) : EvB w' b e := (k.block b h.lt (fun q => hr q.symm)).trans h
theorem EvB.new (w : World) (e : Ev) : EvB (w.alloc (.cells #[.int .i64 e.k, .int .i64 e.g, .int .i64 e.o, .int .i64 e.w, .int .i64 e.l, .int .i64 e.s, .int .i64 e.f, .int .i64 e.t] 31)) w.heap.size e := heap_alloc_new w _
theorem EvB.at {w : World} {b : Nat} {e : Ev} (h : EvB w b e) : EvAt w b e := by
  refine ⟨?_, ?_, ?_, ?_, ?_, ?_, ?_, ?_⟩ <;> rw [cell_of_row _ _ _ _ _ _ h] <;> rfl
theorem EvB.free {w : World} {b : Nat} {e : Ev} (h : EvB w b e) (i : Nat) : w.frozen? ⟨b, i, none⟩ = false := frozen_of_row w b i _ _ h
theorem EvB.setK {w : World} {b : Nat} {e : Ev} (h : EvB w b e) (x : Int) : EvB (w.setCell ⟨b, 0, none⟩ (.int .i64 x)) b { e with k := x } := by
  have h1 := heap_setCell_same w b 0 _ _ (.int .i64 x) h
  exact h1
theorem EvB.setG {w : World} {b : Nat} {e : Ev} (h : EvB w b e) (x : Int) : EvB (w.setCell ⟨b, 1, none⟩ (.int .i64 x)) b { e with g := x } := by
  have h1 := heap_setCell_same w b 1 _ _ (.int .i64 x) h
  exact h1
theorem EvB.setO {w : World} {b : Nat} {e : Ev} (h : EvB w b e) (x : Int) : EvB (w.setCell ⟨b, 2, none⟩ (.int .i64 x)) b { e with o := x } := by
  have h1 := heap_setCell_same w b 2 _ _ (.int .i64 x) h
  exact h1
theorem EvB.setW {w : World} {b : Nat} {e : Ev} (h : EvB w b e) (x : Int) : EvB (w.setCell ⟨b, 3, none⟩ (.int .i64 x)) b { e with w := x } := by
  have h1 := heap_setCell_same w b 3 _ _ (.int .i64 x) h
  exact h1
theorem EvB.setL {w : World} {b : Nat} {e : Ev} (h : EvB w b e) (x : Int) : EvB (w.setCell ⟨b, 4, none⟩ (.int .i64 x)) b { e with l := x } := by
  have h1 := heap_setCell_same w b 4 _ _ (.int .i64 x) h
  exact h1
theorem EvB.setS {w : World} {b : Nat} {e : Ev} (h : EvB w b e) (x : Int) : EvB (w.setCell ⟨b, 5, none⟩ (.int .i64 x)) b { e with s := x } := by
  have h1 := heap_setCell_same w b 5 _ _ (.int .i64 x) h
  exact h1
theorem EvB.setF {w : World} {b : Nat} {e : Ev} (h : EvB w b e) (x : Int) : EvB (w.setCell ⟨b, 6, none⟩ (.int .i64 x)) b { e with f := x } := by
  have h1 := heap_setCell_same w b 6 _ _ (.int .i64 x) h
  exact h1
theorem EvB.setT {w : World} {b : Nat} {e : Ev} (h : EvB w b e) (x : Int) : EvB (w.setCell ⟨b, 7, none⟩ (.int .i64 x)) b { e with t := x } := by
  have h1 := heap_setCell_same w b 7 _ _ (.int .i64 x) h
  exact h1
end Go.Proofs.YtplnijpolkflcaaGreatDoor
namespace Go.Proofs.YtplnijpolkflcaaGreatDoor
open Go.RowKit

theorem l2Gor_any (x : Int) (w : World) :
    Calls Tryz.prog 120 #[.int .i64 x] w fun e w' => e = .returned (.bool (inB 0 15 x)) ∧ w' = w := by
  go_enter Tryz.func120, Tryz.ntmps120
  go_wp2_with fail
  refine (l1In_any _ _ _ _).mono ?_
  rintro e w1 ⟨rfl, rfl⟩
  go_wp2_with fail
  go_ret
  exact ⟨rfl, rfl⟩

theorem l2Field_any (h : Bool) (n lo hi : Int) (w : World) :
    Calls Tryz.prog 122 #[.bool h, .int .i64 n, .int .i64 lo, .int .i64 hi] w fun e w' => e = .returned (.bool (fitB h n lo hi)) ∧ w' = w := by
  cases h
  · go_enter Tryz.func122, Tryz.ntmps122
    go_wp2
    go_ret
    exact ⟨rfl, rfl⟩
  · go_enter Tryz.func122, Tryz.ntmps122
    go_wp2_with fail
    refine (l1In_any _ _ _ _).mono ?_
    rintro e w1 ⟨rfl, rfl⟩
    go_wp2_with fail
    go_ret
    exact ⟨rfl, rfl⟩

theorem l2Sizes_any (k : Int) (w : World) :
    Calls Tryz.prog 121 #[.int .i64 k] w fun e w' => e = .returned (.tuple #[.int .i64 (loV k), .int .i64 (hiV k)]) ∧ w' = w := by
  by_cases h6 : k = 6
  · subst h6
    go_enter Tryz.func121, Tryz.ntmps121
    go_wp2
    go_ret2
    exact ⟨rfl, rfl⟩
  by_cases h12 : k = 12
  · subst h12
    go_enter Tryz.func121, Tryz.ntmps121
    go_wp2
    go_ret2
    exact ⟨rfl, rfl⟩
  by_cases h20 : k = 20
  · subst h20
    go_enter Tryz.func121, Tryz.ntmps121
    go_wp2
    go_ret2
    exact ⟨rfl, rfl⟩
  by_cases h21 : k = 21
  · subst h21
    go_enter Tryz.func121, Tryz.ntmps121
    go_wp2
    go_ret2
    exact ⟨rfl, rfl⟩
  by_cases h22 : k = 22
  · subst h22
    go_enter Tryz.func121, Tryz.ntmps121
    go_wp2
    go_ret2
    exact ⟨rfl, rfl⟩
  have e1 : loV k = 0 := by rw [loV, if_neg (by omega)]
  have e2 : hiV k = 0 := by rw [hiV, if_neg h6, if_neg h12, if_neg (by omega), if_neg h22]
  rw [e1, e2]
  clear e1 e2
  go_enter Tryz.func121, Tryz.ntmps121
  go_wp2
  go_ret2
  exact ⟨rfl, rfl⟩

theorem l2Has_any (k d : Int) (w : World) (hd : d = 1 ∨ d = 2 ∨ d = 4 ∨ d = 8 ∨ d = 16 ∨ d = 32) :
    Calls Tryz.prog 123 #[.int .i64 k, .int .i64 d] w fun e w' => e = .returned (.bool (hasB k d)) ∧ Fr w w' := by
  have c1 := fun w => specFields_any k w
  have hb := fldV_in k
  unfold hasB
  obtain ⟨z, hz⟩ : ∃ z, z = fldV k := ⟨_, rfl⟩
  rw [← hz] at hb ⊢
  simp only [← hz] at c1
  clear hz
  rcases hd with rfl | rfl | rfl | rfl | rfl | rfl
  all_goals
    go_enter Tryz.func123, Tryz.ntmps123
    go_wp2_with fail
    refine (c1 _).mono ?_
    rintro e w1 ⟨rfl, f1⟩
    go_wp2_with fail
    go_ret
    first
      | exact ⟨rfl, f1⟩
      | exact ⟨ret_bool (by rw [Int.tdiv_one]), f1⟩
end Go.Proofs.YtplnijpolkflcaaGreatDoor
namespace Go.Proofs.YtplnijpolkflcaaGreatDoor
open Go.RowKit

def Shapes (w : World) : Prop := ∀ n : Nat, n < 22 → w.cell? ⟨0, (n + 1) * 3, none⟩ = some (.int .i64 (fldN n)) ∧
  w.cell? ⟨0, (n + 1) * 3 + 1, none⟩ = some (.int .i64 (loV ((n : Int) + 1))) ∧ w.cell? ⟨0, (n + 1) * 3 + 2, none⟩ = some (.int .i64 (hiV ((n : Int) + 1)))

theorem Shapes.keep {w w' : World} {row : Option Nat} (h : Shapes w) (k : w.grownBy w' row) (hr : row ≠ some 0) : Shapes w' := fun n hn => by
  obtain ⟨h1, h2, h3⟩ := h n hn
  exact ⟨k.cell h1 (fun e => hr e.symm), k.cell h2 (fun e => hr e.symm), k.cell h3 (fun e => hr e.symm)⟩
theorem Shapes.fr {w w' : World} (h : Shapes w) (k : Fr w w') : Shapes w' := h.keep k (by simp)

set_option maxHeartbeats 2000000 in
theorem implOk_any (e : Ev) (w : World) (hs : Shapes w) :
    Calls Tryz.prog 126 #[.agg #[.int .i64 e.k, .int .i64 e.g, .int .i64 e.o, .int .i64 e.w, .int .i64 e.l, .int .i64 e.s, .int .i64 e.f, .int .i64 e.t]] w fun x w' => x = .returned (.bool (evOk e)) ∧ Fr w w' := by
  have ck := fun w => kindIn_any e.k w
  have cg := fun w => gorIn_any e.g w
  cases hk : inB 1 22 e.k
  · have hv : evOk e = false := by simp [evOk, hk]
    rw [hv]
    simp only [hk] at ck
    clear hv hk hs cg
    go_enter Tryz.func126, Tryz.ntmps126
    go_wp2_with fail
    refine (ck _).mono ?_
    rintro e w1 ⟨rfl, rfl⟩
    go_wp2_with fail
    go_ret
    exact ⟨rfl, Fr.alloc _ _⟩
  cases hg : inB 0 15 e.g
  · have hv : evOk e = false := by simp [evOk, hg]
    rw [hv]
    simp only [hk] at ck
    simp only [hg] at cg
    clear hv hk hs hg
    go_enter Tryz.func126, Tryz.ntmps126
    go_wp2_with fail
    refine (ck _).mono ?_
    rintro e w1 ⟨rfl, rfl⟩
    go_wp2_with fail
    refine (cg _).mono ?_
    rintro e w1 ⟨rfl, rfl⟩
    go_wp2_with fail
    go_ret
    exact ⟨rfl, Fr.alloc _ _⟩
  simp only [hk] at ck
  simp only [hg] at cg
  have hv : evOk e = (ev1 e && ev2 e && ev3 e && ev4 e && ev5 e && ev6 e) := by simp [evOk, hk, hg]
  rw [hv]
  clear hv
  obtain ⟨n, hn, hkn⟩ := kinds hk
  obtain ⟨h1, h2, h3⟩ := hs n hn
  have hw0 : 0 < w.heap.size := World.block_lt_of_cell? w _ h1
  obtain ⟨z, hz⟩ : ∃ z, z = fldN n := ⟨_, rfl⟩
  obtain ⟨lo, hlo⟩ : ∃ z, z = loV ((n : Int) + 1) := ⟨_, rfl⟩
  obtain ⟨hi, hhi⟩ : ∃ z, z = hiV ((n : Int) + 1) := ⟨_, rfl⟩
  rw [← hz] at h1
  rw [← hlo] at h2
  rw [← hhi] at h3
  obtain ⟨k, g, o, wi, l, sz, f, t⟩ := e
  simp only at hkn ck cg ⊢
  subst hkn
  have m := mask_has n hn
  rw [← hz] at m
  have c1 := fun w => fits_any z lo hi 1 o 0 15 _ (m 1 (by simp)) w
  have c2 := fun w => fits_any z lo hi 2 wi 0 15 _ (m 2 (by simp)) w
  have c3 := fun w => fits_any z lo hi 4 l 0 65535 _ (m 4 (by simp)) w
  have c4 := fun w => fits_any z lo hi 8 sz lo hi _ (m 8 (by simp)) w
  have c5 := fun w => fits_any z lo hi 16 f 0 999 _ (m 16 (by simp)) w
  have c6 := fun w => fits_any z lo hi 32 t 0 999 _ (m 32 (by simp)) w
  unfold ev1 ev2 ev3 ev4 ev5 ev6
  simp only
  rw [← hlo, ← hhi]
  obtain ⟨b1, e1⟩ : ∃ b, b = fitB (hasB ((n : Int) + 1) 1) o 0 15 := ⟨_, rfl⟩
  obtain ⟨b2, e2⟩ : ∃ b, b = fitB (hasB ((n : Int) + 1) 2) wi 0 15 := ⟨_, rfl⟩
  obtain ⟨b3, e3⟩ : ∃ b, b = fitB (hasB ((n : Int) + 1) 4) l 0 65535 := ⟨_, rfl⟩
  obtain ⟨b4, e4⟩ : ∃ b, b = fitB (hasB ((n : Int) + 1) 8) sz lo hi := ⟨_, rfl⟩
  obtain ⟨b5, e5⟩ : ∃ b, b = fitB (hasB ((n : Int) + 1) 16) f 0 999 := ⟨_, rfl⟩
  obtain ⟨b6, e6⟩ : ∃ b, b = fitB (hasB ((n : Int) + 1) 32) t 0 999 := ⟨_, rfl⟩
  simp only [← e1] at c1 ⊢
  simp only [← e2] at c2 ⊢
  simp only [← e3] at c3 ⊢
  simp only [← e4] at c4 ⊢
  simp only [← e5] at c5 ⊢
  simp only [← e6] at c6 ⊢
  clear e1 e2 e3 e4 e5 e6 m hz hlo hhi hs hk hg
  go_enter Tryz.func126, Tryz.ntmps126
  go_wp2_with fail
  refine (ck _).mono ?_
  rintro e w1 ⟨rfl, rfl⟩
  go_wp2_with fail
  refine (cg _).mono ?_
  rintro e w1 ⟨rfl, rfl⟩
  go_wp2_with fail
  obtain ⟨W, hW⟩ : ∃ W, W = (w.alloc (.cells #[.int .i64 ((n : Int) + 1), .int .i64 g, .int .i64 o, .int .i64 wi, .int .i64 l, .int .i64 sz, .int .i64 f, .int .i64 t] 31)).alloc (.cells #[.int .i64 z, .int .i64 lo, .int .i64 hi] 207) := ⟨_, rfl⟩
  rw [← hW]
  have fW : Fr w W := by rw [hW]; exact (Fr.alloc _ _).trans (Fr.alloc _ _)
  have d0 : ∀ s : Later W, s.u.cell? ⟨w.heap.size, 0, none⟩ = some (.int .i64 ((n : Int) + 1)) := fun s => s.fr.cell (by rw [hW]; go_simp)
  have d1 : ∀ s : Later W, s.u.cell? ⟨w.heap.size, 1, none⟩ = some (.int .i64 g) := fun s => s.fr.cell (by rw [hW]; go_simp)
  have d2 : ∀ s : Later W, s.u.cell? ⟨w.heap.size, 2, none⟩ = some (.int .i64 o) := fun s => s.fr.cell (by rw [hW]; go_simp)
  have d3 : ∀ s : Later W, s.u.cell? ⟨w.heap.size, 3, none⟩ = some (.int .i64 wi) := fun s => s.fr.cell (by rw [hW]; go_simp)
  have d4 : ∀ s : Later W, s.u.cell? ⟨w.heap.size, 4, none⟩ = some (.int .i64 l) := fun s => s.fr.cell (by rw [hW]; go_simp)
  have d5 : ∀ s : Later W, s.u.cell? ⟨w.heap.size, 5, none⟩ = some (.int .i64 sz) := fun s => s.fr.cell (by rw [hW]; go_simp)
  have d6 : ∀ s : Later W, s.u.cell? ⟨w.heap.size, 6, none⟩ = some (.int .i64 f) := fun s => s.fr.cell (by rw [hW]; go_simp)
  have d7 : ∀ s : Later W, s.u.cell? ⟨w.heap.size, 7, none⟩ = some (.int .i64 t) := fun s => s.fr.cell (by rw [hW]; go_simp)
  have q0 : ∀ s : Later W, s.u.cell? ⟨w.heap.size + 1, 0, none⟩ = some (.int .i64 z) := fun s => s.fr.cell (by rw [hW]; go_simp)
  have q1 : ∀ s : Later W, s.u.cell? ⟨w.heap.size + 1, 1, none⟩ = some (.int .i64 lo) := fun s => s.fr.cell (by rw [hW]; go_simp)
  have q2 : ∀ s : Later W, s.u.cell? ⟨w.heap.size + 1, 2, none⟩ = some (.int .i64 hi) := fun s => s.fr.cell (by rw [hW]; go_simp)
  clear hW h1 h2 h3 hw0 ck cg hn
  have := Later.some W
  have hb : b1 = false ∨ (b1 = true ∧ b2 = false) ∨ (b1 = true ∧ b2 = true ∧ b3 = false) ∨ (b1 = true ∧ b2 = true ∧ b3 = true ∧ b4 = false) ∨ (b1 = true ∧ b2 = true ∧ b3 = true ∧ b4 = true ∧ b5 = false) ∨ (b1 = true ∧ b2 = true ∧ b3 = true ∧ b4 = true ∧ b5 = true) := by
    cases b1 <;> cases b2 <;> cases b3 <;> cases b4 <;> cases b5 <;> simp
  refine wp_region_grown (by kernel_rfl) (by kernel_rfl) ?_
  rcases hb with rfl | ⟨rfl, rfl⟩ | ⟨rfl, rfl, rfl⟩ | ⟨rfl, rfl, rfl, rfl⟩ | ⟨rfl, rfl, rfl, rfl, rfl⟩ | ⟨rfl, rfl, rfl, rfl, rfl⟩
  all_goals
    repeat (go_big_quiet_step (first | with_reducible exact Calls.grown_of (c1 _) | with_reducible exact Calls.grown_of (c2 _) | with_reducible exact Calls.grown_of (c3 _) | with_reducible exact Calls.grown_of (c4 _) | with_reducible exact Calls.grown_of (c5 _) | with_reducible exact Calls.grown_of (c6 _) | with_reducible exact Calls.grown_same (mostObj_any _ _)))
    refine wpQuiet_nil ?_
    rintro _ ⟨s, rfl⟩
    go_wp2_with fail
    go_ret
    exact ⟨ret_bool (by simp), fW.trans s.fr⟩
end Go.Proofs.YtplnijpolkflcaaGreatDoor
namespace Go.Proofs.YtplnijpolkflcaaGreatDoor
open Go.RowKit

def U8 (x : Int) : Prop := 0 ≤ x ∧ x ≤ 255

structure ReadsB (w : World) (ao : Option Addr) (xs : List Int) : Prop where
  len : xs.length ≤ 4294967296
  bd : ∀ x ∈ xs, U8 x
  at_ : ∀ i, i < xs.length → ∃ b off, ao = some ⟨b, off, none⟩ ∧ ∀ j, j < xs.length → w.cell? ⟨b, off + j, none⟩ = some (.int .u8 (xs.getD j 0))

theorem ReadsB.nil (w : World) (ao : Option Addr) : ReadsB w ao [] := ⟨by simp, by simp, by simp⟩

theorem ReadsB.keep {w w' : World} {ao : Option Addr} {xs : List Int} {row : Option Nat} (h : ReadsB w ao xs) (k : w.grownBy w' row) (hne : row = none ∨ blk ao ≠ row) : ReadsB w' ao xs := by
  refine ⟨h.len, h.bd, fun i hi => ?_⟩
  obtain ⟨b, off, e, hc⟩ := h.at_ i hi
  refine ⟨b, off, e, fun j hj => k.cell (hc j hj) ?_⟩
  rcases hne with rfl | hne
  · simp
  · intro hh
    apply hne
    rw [e, ← hh]
    rfl
theorem ReadsB.fr {w w' : World} {ao : Option Addr} {xs : List Int} (h : ReadsB w ao xs) (k : Fr w w') : ReadsB w' ao xs := h.keep k (.inl rfl)

def OwnB (w : World) (base : Nat) (v : Value) (xs : List Int) : Prop :=
  w.ownsRow base 5 1 v xs.length (xs.map (Value.int .u8)) ∧ xs.length ≤ 4294967296 ∧ ∀ x ∈ xs, U8 x

theorem OwnB.reads {w : World} {base : Nat} {g n cap : Nat} {xs : List Int} (h : OwnB w base (.slice (some ⟨g, 0, none⟩) n cap) xs) : ReadsB w (some ⟨g, 0, none⟩) xs := by
  obtain ⟨ho, hl, hb⟩ := h
  have hn : n = xs.length := by
    rcases ho.2 with ⟨e, _⟩ | ⟨g', c', cur, e, _⟩
    · simp at e
    · simp at e; exact e.2.1
  subst hn
  refine ⟨hl, hb, fun i _ => ⟨g, 0, rfl, fun j hj => ?_⟩⟩
  have := ho.cellAt j (by simpa using hj)
  simp only [Nat.zero_add]
  rw [this]
  simp [List.getElem?_eq_getElem hj, List.getD]

theorem Tryz.info5 : (Tryz.prog.info? 5).map (fun i => (i.zero, i.size, i.bytes)) = some (some (.int .u8 0), 1, 1) := by kernel_rfl
end Go.Proofs.YtplnijpolkflcaaGreatDoor
namespace Go.Proofs.YtplnijpolkflcaaGreatDoor
open Go.RowKit

end Go.Proofs.YtplnijpolkflcaaGreatDoor
namespace Go.Proofs.YtplnijpolkflcaaGreatDoor
open Go.RowKit

def Ev.at (e : Ev) (i : Nat) : Int := [e.k, e.g, e.o, e.w, e.l, e.s, e.f, e.t].getD i 0
def Ev.put (e : Ev) (i : Nat) (x : Int) : Ev :=
  match i with
  | 0 => { e with k := x }
  | 1 => { e with g := x }
  | 2 => { e with o := x }
  | 3 => { e with w := x }
  | 4 => { e with l := x }
  | 5 => { e with s := x }
  | 6 => { e with f := x }
  | 7 => { e with t := x }
  | _ => e
end Go.Proofs.YtplnijpolkflcaaGreatDoor
