/-
  What can be done in a scene, and what comes of it: the model.
-/
import Derived.Test.YtikjodbboljhjaaGreatDoorPackAE
import Derived.Test.YtikjodbboljhjaaGreatDoorPackAD
import Derived.Test.YtikjodbboljhjaaGreatDoorPackAA
import Derived.Test.YtikjodbboljhjaaGreatDoorPackAC
namespace Go.Proofs.YtikjodbboljhjaaGreatDoor
open Go.RowKit

def lockCode (m : Scn) (e : Ev) : Int :=
  if e.k = 2 then (if 0 ≤ (lockOf m.ls e.o).wr ∨ 0 < (lockOf m.ls e.o).rd.length then 3 else 0)
  else if e.k = 4 then (if 0 ≤ (lockOf m.ls e.o).wr ∨ memB (lockOf m.ls e.o).rd e.g = true then 3 else 0)
  else if e.k = 3 then (if (lockOf m.ls e.o).wr = e.g then 0 else 4)
  else if e.k = 5 then (if memB (lockOf m.ls e.o).rd e.g = true then 0 else 4)
  else 0
def chanCode (m : Scn) (e : Ev) : Int :=
  if isChan m.cs e.o = decide (e.k = 6) then 5
  else if ((e.k = 7 ∨ e.k = 8) ∧ (chanOf m.cs e.o).cap = 0) ∨ (e.k = 9 ∧ (chanOf m.cs e.o).cap ≠ 0) then 5
  else if ((e.k = 7 ∨ e.k = 9 ∨ e.k = 10) ∧ (chanOf m.cs e.o).cl = true) ∨ (e.k = 11 ∧ (chanOf m.cs e.o).cl = false) then 6
  else if e.k = 7 ∧ (chanOf m.cs e.o).sent - (chanOf m.cs e.o).got = (chanOf m.cs e.o).cap then 7
  else if (e.k = 8 ∧ (chanOf m.cs e.o).sent = (chanOf m.cs e.o).got) ∨ (e.k = 11 ∧ (chanOf m.cs e.o).sent ≠ (chanOf m.cs e.o).got) then 8
  else if e.k = 7 ∧ (chanOf m.cs e.o).sent = 1000000 then 9
  else 0
/-- Gor, Obj of a go, With of a meeting: is one of them no goroutine that it can be? -/
def gorBad (m : Scn) (e : Ev) : Prop := m.g ≤ e.g ∨ (e.k = 1 ∧ e.o ≠ m.g) ∨ (e.k = 9 ∧ (m.g ≤ e.w ∨ e.w = e.g))
instance (m : Scn) (e : Ev) : Decidable (gorBad m e) := by unfold gorBad; exact inferInstance
def restCode (m : Scn) (e : Ev) : Int :=
  if 2 ≤ e.k ∧ e.k ≤ 5 then lockCode m e
  else if 6 ≤ e.k ∧ e.k ≤ 11 then chanCode m e
  else if e.k = 13 then (if countOf m.gs e.o = 0 then 9 else 0)
  else if e.k = 14 then (if countOf m.gs e.o = 0 then 0 else 9)
  else if e.k = 12 then (if 1000000 < countOf m.gs e.o + e.s then 9 else 0)
  else if e.k = 15 ∨ e.k = 16 then (if memB m.os e.o = decide (e.k = 15) then 10 else 0)
  else 0
def codeIn (m : Scn) (e : Ev) : Int :=
  if evOk e = false ∨ scB m = false then 1 else if gorBad m e then 2 else restCode m e

/-- One put in its place in a list that rises by key: in the place of the one that has it, if there is one. -/
def setS {α : Type} (key : α → Int) (x : α) (a : List α × Bool) (y : α) : List α × Bool :=
  let a1 := if !a.2 && decide (key x ≤ key y) then (a.1 ++ [x], true) else a
  if key y = key x then a1 else (a1.1 ++ [y], a1.2)
def setP {α : Type} (key : α → Int) (x : α) (put : Bool) (xs : List α) : List α × Bool := xs.foldl (setS key x) ([], put)
def setL {α : Type} (key : α → Int) (x : α) (put : Bool) (xs : List α) : List α := if (setP key x put xs).2 then (setP key x put xs).1 else (setP key x put xs).1 ++ [x]
theorem setP_step {α : Type} (key : α → Int) (x : α) (put : Bool) (xs : List α) (k : Nat) (hk : k < xs.length) : setP key x put (xs.take (k + 1)) = setS key x (setP key x put (xs.take k)) xs[k] := by
  rw [setP, List.take_succ_eq_append_getElem hk, List.foldl_append]
  rfl
/-- The four ways of a round. -/
theorem setS_in {α : Type} {key : α → Int} {x y : α} {out : List α} (h : key x < key y) : setS key x (out, false) y = (out ++ [x] ++ [y], true) := by
  unfold setS
  have h1 : key x ≤ key y := by omega
  have h2 : ¬ key y = key x := by omega
  simp [h1, h2]
theorem setS_at {α : Type} {key : α → Int} {x y : α} {out : List α} (h : key y = key x) : setS key x (out, false) y = (out ++ [x], true) := by
  unfold setS
  simp [h]
theorem setS_on {α : Type} {key : α → Int} {x y : α} {out : List α} (h : key y < key x) : setS key x (out, false) y = (out ++ [y], false) := by
  unfold setS
  have h1 : ¬ key x ≤ key y := by omega
  have h2 : ¬ key y = key x := by omega
  simp [h1, h2]
theorem setS_by {α : Type} {key : α → Int} {x y : α} {out : List α} (h : key y = key x) : setS key x (out, true) y = (out, true) := by
  unfold setS
  simp [h]
theorem setS_go {α : Type} {key : α → Int} {x y : α} {out : List α} (h : key y ≠ key x) : setS key x (out, true) y = (out ++ [y], true) := by
  unfold setS
  simp [h]
theorem setS_len {α : Type} (key : α → Int) (x : α) (a : List α × Bool) (y : α) : (setS key x a y).1.length ≤ a.1.length + 2 := by
  unfold setS
  dsimp only
  split <;> split <;> simp
theorem setP_len {α : Type} (key : α → Int) (x : α) (put : Bool) (xs : List α) (k : Nat) (hk : k ≤ xs.length) : (setP key x put (xs.take k)).1.length ≤ 2 * k := by
  induction k with
  | zero => simp [setP]
  | succ k ih =>
    have := ih (by omega)
    have h2 := setS_len key x (setP key x put (xs.take k)) (xs[k]'(by omega))
    rw [setP_step key x put xs k (by omega)]
    omega

/-- A channel after an event; a lock after one. -/
def chanTo (m : Scn) (e : Ev) : Ch :=
  if e.k = 6 then { chanOf m.cs e.o with cap := e.s }
  else if e.k = 7 then { chanOf m.cs e.o with sent := (chanOf m.cs e.o).sent + 1 }
  else if e.k = 8 then { chanOf m.cs e.o with got := (chanOf m.cs e.o).got + 1 }
  else { chanOf m.cs e.o with cl := true }
def lockTo (m : Scn) (e : Ev) : Lk :=
  if e.k = 2 then { lockOf m.ls e.o with wr := e.g }
  else if e.k = 3 then { lockOf m.ls e.o with wr := -1 }
  else if e.k = 4 then { lockOf m.ls e.o with rd := withL (lockOf m.ls e.o).rd e.g }
  else { lockOf m.ls e.o with rd := outL (lockOf m.ls e.o).rd e.g }
/-- Nobody has it. -/
def lkFree (l : Lk) : Bool := decide (l.wr < 0) && decide (l.rd.length = 0)
def setLk (m : Scn) (l : Lk) : Scn := { m with ls := setL Lk.o l (lkFree l) m.ls }
def setCh (m : Scn) (c : Ch) : Scn := { m with cs := setL Ch.o c false m.cs }
def setCt (m : Scn) (o n : Int) : Scn := { m with gs := setL Ct.o ⟨o, n⟩ (n == 0) m.gs }
/-- What an event makes of a scene. -/
def doS (m : Scn) (e : Ev) : Scn :=
  if e.k = 1 then { m with g := m.g + 1 }
  else if 2 ≤ e.k ∧ e.k ≤ 5 then setLk m (lockTo m e)
  else if 6 ≤ e.k ∧ e.k ≤ 8 ∨ e.k = 10 then setCh m (chanTo m e)
  else if e.k = 12 then setCt m e.o (countOf m.gs e.o + e.s)
  else if e.k = 13 then setCt m e.o (countOf m.gs e.o - 1)
  else if e.k = 15 then { m with os := withL m.os e.o }
  else m
end Go.Proofs.YtikjodbboljhjaaGreatDoor
/-
  The laws' own copy of an event.
-/
namespace Go.Proofs.YtikjodbboljhjaaGreatDoor
open Go.RowKit

/-- An event's eight cells. -/
def EvAt (w : World) (b : Nat) (e : Ev) : Prop :=
  w.cell? ⟨b, 0, none⟩ = some (.int .i64 e.k) ∧ w.cell? ⟨b, 1, none⟩ = some (.int .i64 e.g) ∧ w.cell? ⟨b, 2, none⟩ = some (.int .i64 e.o) ∧ w.cell? ⟨b, 3, none⟩ = some (.int .i64 e.w) ∧ w.cell? ⟨b, 4, none⟩ = some (.int .i64 e.l) ∧ w.cell? ⟨b, 5, none⟩ = some (.int .i64 e.s) ∧ w.cell? ⟨b, 6, none⟩ = some (.int .i64 e.f) ∧ w.cell? ⟨b, 7, none⟩ = some (.int .i64 e.t)
theorem EvAt.fr {w w' : World} {b : Nat} {e : Ev} (h : EvAt w b e) (k : Fr w w') : EvAt w' b e := by
  obtain ⟨c0, c1, c2, c3, c4, c5, c6, c7⟩ := h
  exact ⟨k.cell c0, k.cell c1, k.cell c2, k.cell c3, k.cell c4, k.cell c5, k.cell c6, k.cell c7⟩
theorem EvAt.new (w : World) (e : Ev) (t : TypeId) : EvAt (w.alloc (.cells #[.int .i64 e.k, .int .i64 e.g, .int .i64 e.o, .int .i64 e.w, .int .i64 e.l, .int .i64 e.s, .int .i64 e.f, .int .i64 e.t] t)) w.heap.size e := by
  refine ⟨?_, ?_, ?_, ?_, ?_, ?_, ?_, ?_⟩ <;> rw [cell_of_row _ _ _ _ _ _ (heap_alloc_new w _)] <;> rfl

set_option maxHeartbeats 1000000 in
theorem toEvent_any (e : Ev) (w : World) :
    Calls Tryz.prog 28 #[.agg #[.int .i64 e.k, .int .i64 e.g, .int .i64 e.o, .int .i64 e.w, .int .i64 e.l, .int .i64 e.s, .int .i64 e.f, .int .i64 e.t]] w fun x w' => x = .returned (.agg #[.int .i64 e.k, .int .i64 e.g, .int .i64 e.o, .int .i64 e.w, .int .i64 e.l, .int .i64 e.s, .int .i64 e.f, .int .i64 e.t]) ∧ Fr w w' := by
  obtain ⟨k, g, o, wi, l, sz, f, t⟩ := e
  simp only
  go_enter Tryz.func28, Tryz.ntmps28
  go_wp2_with fail
  refine bodyPost_ret (v := .agg #[.int .i64 k, .int .i64 g, .int .i64 o, .int .i64 wi, .int .i64 l, .int .i64 sz, .int .i64 f, .int .i64 t]) (by simp [results, Tryz.results28, go_sem]) rfl ⟨rfl, ?_⟩
  exact ((Fr.alloc _ _).trans (Fr.alloc _ _)).trans (Fr.alloc _ _)

/-- An event that lies in a block of its own. -/
def EvB (w : World) (b : Nat) (e : Ev) : Prop := w.heap[b]? = some (.cells #[.int .i64 e.k, .int .i64 e.g, .int .i64 e.o, .int .i64 e.w, .int .i64 e.l, .int .i64 e.s, .int .i64 e.f, .int .i64 e.t] 31 (0, 0))

theorem EvB.lt {w : World} {b : Nat} {e : Ev} (h : EvB w b e) : b < w.heap.size := (Array.getElem?_eq_some_iff.1 h).1
theorem EvB.keep {w w' : World} {b : Nat} {e : Ev} {row : Option Nat} (h : EvB w b e) (k : w.grownBy w' row) (hr : row ≠ some b) : EvB w' b e := (k.block b h.lt (fun q => hr q.symm)).trans h
theorem EvB.new (w : World) (e : Ev) : EvB (w.alloc (.cells #[.int .i64 e.k, .int .i64 e.g, .int .i64 e.o, .int .i64 e.w, .int .i64 e.l, .int .i64 e.s, .int .i64 e.f, .int .i64 e.t] 31)) w.heap.size e := heap_alloc_new w _
theorem EvB.at {w : World} {b : Nat} {e : Ev} (h : EvB w b e) : EvAt w b e := by
  refine ⟨?_, ?_, ?_, ?_, ?_, ?_, ?_, ?_⟩ <;> rw [cell_of_row _ _ _ _ _ _ h] <;> rfl
theorem EvB.free {w : World} {b : Nat} {e : Ev} (h : EvB w b e) (i : Nat) : w.frozen? ⟨b, i, none⟩ = false := frozen_of_row w b i _ _ h
theorem EvB.setK {w : World} {b : Nat} {e : Ev} (h : EvB w b e) (x : Int) : EvB (w.setCell ⟨b, 0, none⟩ (.int .i64 x)) b { e with k := x } := by
  have h1 := heap_setCell_same w b 0 _ _ (.int .i64 x) h
  exact h1
theorem EvB.setG {w : World} {b : Nat} {e : Ev} (h : EvB w b e) (x : Int) : EvB (w.setCell ⟨b, 1, none⟩ (.int .i64 x)) b { e with g := x } := by
  have h1 := heap_setCell_same w b 1 _ _ (.int .i64 x) h
  exact h1
theorem EvB.setO {w : World} {b : Nat} {e : Ev} (h : EvB w b e) (x : Int) : EvB (w.setCell ⟨b, 2, none⟩ (.int .i64 x)) b { e with o := x } := by
  have h1 := heap_setCell_same w b 2 _ _ (.int .i64 x) h
  exact h1
theorem EvB.setW {w : World} {b : Nat} {e : Ev} (h : EvB w b e) (x : Int) : EvB (w.setCell ⟨b, 3, none⟩ (.int .i64 x)) b { e with w := x } := by
  have h1 := heap_setCell_same w b 3 _ _ (.int .i64 x) h
  exact h1
theorem EvB.setL {w : World} {b : Nat} {e : Ev} (h : EvB w b e) (x : Int) : EvB (w.setCell ⟨b, 4, none⟩ (.int .i64 x)) b { e with l := x } := by
  have h1 := heap_setCell_same w b 4 _ _ (.int .i64 x) h
  exact h1
theorem EvB.setS {w : World} {b : Nat} {e : Ev} (h : EvB w b e) (x : Int) : EvB (w.setCell ⟨b, 5, none⟩ (.int .i64 x)) b { e with s := x } := by
  have h1 := heap_setCell_same w b 5 _ _ (.int .i64 x) h
  exact h1
theorem EvB.setF {w : World} {b : Nat} {e : Ev} (h : EvB w b e) (x : Int) : EvB (w.setCell ⟨b, 6, none⟩ (.int .i64 x)) b { e with f := x } := by
  have h1 := heap_setCell_same w b 6 _ _ (.int .i64 x) h
  exact h1
theorem EvB.setT {w : World} {b : Nat} {e : Ev} (h : EvB w b e) (x : Int) : EvB (w.setCell ⟨b, 7, none⟩ (.int .i64 x)) b { e with t := x } := by
  have h1 := heap_setCell_same w b 7 _ _ (.int .i64 x) h
  exact h1
end Go.Proofs.YtikjodbboljhjaaGreatDoor
/-
  Why an event of a lock can't be done: l4LockCode.
-/
namespace Go.Proofs.YtikjodbboljhjaaGreatDoor
open Go.RowKit

/-- A boxed scene and a boxed event. -/
theorem box2 (w : World) (s : Sv) (e : Ev) :
    ScK ((w.alloc (.cells #[.int .i64 s.g, .slice s.lo s.ll s.lc, .slice s.co s.cl s.cc, .slice s.no s.nl s.nc, .slice s.oo s.ol s.oc] 29)).alloc (.cells #[.int .i64 e.k, .int .i64 e.g, .int .i64 e.o, .int .i64 e.w, .int .i64 e.l, .int .i64 e.s, .int .i64 e.f, .int .i64 e.t] 31)) w.heap.size s ∧
    EvB ((w.alloc (.cells #[.int .i64 s.g, .slice s.lo s.ll s.lc, .slice s.co s.cl s.cc, .slice s.no s.nl s.nc, .slice s.oo s.ol s.oc] 29)).alloc (.cells #[.int .i64 e.k, .int .i64 e.g, .int .i64 e.o, .int .i64 e.w, .int .i64 e.l, .int .i64 e.s, .int .i64 e.f, .int .i64 e.t] 31)) (w.heap.size + 1) e ∧
    Fr w ((w.alloc (.cells #[.int .i64 s.g, .slice s.lo s.ll s.lc, .slice s.co s.cl s.cc, .slice s.no s.nl s.nc, .slice s.oo s.ol s.oc] 29)).alloc (.cells #[.int .i64 e.k, .int .i64 e.g, .int .i64 e.o, .int .i64 e.w, .int .i64 e.l, .int .i64 e.s, .int .i64 e.f, .int .i64 e.t] 31)) ∧
    ((w.alloc (.cells #[.int .i64 s.g, .slice s.lo s.ll s.lc, .slice s.co s.cl s.cc, .slice s.no s.nl s.nc, .slice s.oo s.ol s.oc] 29)).alloc (.cells #[.int .i64 e.k, .int .i64 e.g, .int .i64 e.o, .int .i64 e.w, .int .i64 e.l, .int .i64 e.s, .int .i64 e.f, .int .i64 e.t] 31)).heap.size = w.heap.size + 2 := by
  have f1 := Fr.alloc w (.cells #[.int .i64 s.g, .slice s.lo s.ll s.lc, .slice s.co s.cl s.cc, .slice s.no s.nl s.nc, .slice s.oo s.ol s.oc] 29)
  have f2 := Fr.alloc (w.alloc (.cells #[.int .i64 s.g, .slice s.lo s.ll s.lc, .slice s.co s.cl s.cc, .slice s.no s.nl s.nc, .slice s.oo s.ol s.oc] 29)) (.cells #[.int .i64 e.k, .int .i64 e.g, .int .i64 e.o, .int .i64 e.w, .int .i64 e.l, .int .i64 e.s, .int .i64 e.f, .int .i64 e.t] 31)
  refine ⟨(ScK.new w s).fr f2, ?_, f1.trans f2, by simp⟩
  have := EvB.new (w.alloc (.cells #[.int .i64 s.g, .slice s.lo s.ll s.lc, .slice s.co s.cl s.cc, .slice s.no s.nl s.nc, .slice s.oo s.ol s.oc] 29)) e
  simpa using this

set_option maxRecDepth 20000 in
set_option maxHeartbeats 2000000 in
theorem l4LockCode_any {B : Nat → Prop} (s : Sv) (m : Scn) (e : Ev) (w : World) (hk : 2 ≤ e.k ∧ e.k ≤ 5) (ho : I64 e.o) (h : ScR B w s m) :
    Calls Tryz.prog 44 #[.agg #[.int .i64 s.g, .slice s.lo s.ll s.lc, .slice s.co s.cl s.cc, .slice s.no s.nl s.nc, .slice s.oo s.ol s.oc], .agg #[.int .i64 e.k, .int .i64 e.g, .int .i64 e.o, .int .i64 e.w, .int .i64 e.l, .int .i64 e.s, .int .i64 e.f, .int .i64 e.t]] w fun x w' => x = .returned (.int .i64 (lockCode m e)) ∧ Fr w w' := by
  obtain ⟨k1, k2, fW, hz⟩ := box2 w s e
  obtain ⟨k, gr, o, wi, l, sz, f, t⟩ := e
  obtain ⟨g, lo, ll, lc, co, cl, cc, no, nl, nc, oo, ol, oc⟩ := s
  simp only at hk ho k1 k2 fW hz ⊢
  have cL := fun u (hf : Fr w u) => l4LockOf_any (B := B) ⟨g, lo, ll, lc, co, cl, cc, no, nl, nc, oo, ol, oc⟩ m o u ho (h.fr hf)
  simp only at cL
  obtain ⟨R, hR⟩ : ∃ R, R = lockCode m ⟨k, gr, o, wi, l, sz, f, t⟩ := ⟨_, rfl⟩
  rw [← hR]
  unfold lockCode at hR
  simp only at hR
  obtain ⟨L, hL⟩ : ∃ L, L = lockOf m.ls o := ⟨_, rfl⟩
  rw [← hL] at cL
  simp only [← hL] at hR
  clear hL h
  rcases (show k = 2 ∨ k = 3 ∨ k = 4 ∨ k = 5 by omega) with rfl | rfl | rfl | rfl
  · have HR : Hid (R = _) := hR.trans (by rw [if_pos rfl])
    clear hR
    go_enter Tryz.func44, Tryz.ntmps44
    go_wp2_with fail
    refine (cL _ fW).mono ?_
    rintro e u1 ⟨⟨lo', lw, lr, ln, lq⟩, rfl, hlv, f1⟩
    have fA := Fr.alloc u1 (.cells #[.int .i64 lo', .int .i64 lw, .slice lr ln lq] 47)
    have HF : Hid (Fr w (u1.alloc (.cells #[.int .i64 lo', .int .i64 lw, .slice lr ln lq] 47))) := (fW.trans f1).trans fA
    have n0 := fA.cell (f1.cell k2.at.1)
    have n1 := fA.cell (f1.cell k2.at.2.1)
    simp only at n0 n1
    have HW : Hid (lw = L.wr) := hlv.wr
    have HN : Hid (ln = L.rd.length) := hlv.rn
    have hsz : ln ≤ 1048576 := by have := hlv.sz; have := HN.out; omega
    have cI := l4In_any lr ln lq L.rd gr _ HN.out.symm (hlv.rd.fr fA)
    have hfu : Fr (u1.alloc (.cells #[.int .i64 lo', .int .i64 lw, .slice lr ln lq] 47)) (u1.alloc (.cells #[.int .i64 lo', .int .i64 lw, .slice lr ln lq] 47)) := Fr.refl _
    clear cL k1 k2 fW f1 hlv hz fA hfu
    by_cases h1 : 0 ≤ lw
    · have HE : Hid (0 ≤ L.wr ∨ 0 < L.rd.length) := .inl (by have := HW.out; omega)
      go_wp2_with fail
      go_ret
      exact ⟨ret_int (by rw [HR.out, if_pos HE.out]), HF.out⟩
    · have h1' : lw < 0 := by omega
      clear h1
      by_cases h2 : 0 < ln
      · have HE : Hid (0 ≤ L.wr ∨ 0 < L.rd.length) := .inr (by have := HN.out; omega)
        have h2' : (0 : Int) < (ln : Int) := by omega
        go_wp2_with fail
        go_ret
        exact ⟨ret_int (by rw [HR.out, if_pos HE.out]), HF.out⟩
      · have HE : Hid (¬ (0 ≤ L.wr ∨ 0 < L.rd.length)) := by
          show ¬ (0 ≤ L.wr ∨ 0 < L.rd.length)
          have := HN.out; have := HW.out; omega
        obtain rfl : ln = 0 := by omega
        go_wp2_with fail
        go_ret
        exact ⟨ret_int (by rw [HR.out, if_neg HE.out]), HF.out⟩
  · have HR : Hid (R = _) := hR.trans (by rw [if_neg (by decide), if_neg (by decide), if_pos rfl])
    clear hR
    go_enter Tryz.func44, Tryz.ntmps44
    go_wp2_with fail
    refine (cL _ fW).mono ?_
    rintro e u1 ⟨⟨lo', lw, lr, ln, lq⟩, rfl, hlv, f1⟩
    have fA := Fr.alloc u1 (.cells #[.int .i64 lo', .int .i64 lw, .slice lr ln lq] 47)
    have HF : Hid (Fr w (u1.alloc (.cells #[.int .i64 lo', .int .i64 lw, .slice lr ln lq] 47))) := (fW.trans f1).trans fA
    have n0 := fA.cell (f1.cell k2.at.1)
    have n1 := fA.cell (f1.cell k2.at.2.1)
    simp only at n0 n1
    have HW : Hid (lw = L.wr) := hlv.wr
    have HN : Hid (ln = L.rd.length) := hlv.rn
    have hsz : ln ≤ 1048576 := by have := hlv.sz; have := HN.out; omega
    have cI := l4In_any lr ln lq L.rd gr _ HN.out.symm (hlv.rd.fr fA)
    have hfu : Fr (u1.alloc (.cells #[.int .i64 lo', .int .i64 lw, .slice lr ln lq] 47)) (u1.alloc (.cells #[.int .i64 lo', .int .i64 lw, .slice lr ln lq] 47)) := Fr.refl _
    clear cL k1 k2 fW f1 hlv hz fA hfu
    clear cI
    cases h1 : (lw == gr)
    · have HE : Hid (¬ L.wr = gr) := by
        show ¬ L.wr = gr
        rw [← HW.out]; exact beq_eq_false_iff_ne.1 h1
      go_wp2_with fail
      go_ret
      exact ⟨ret_int (by rw [HR.out, if_neg HE.out]), HF.out⟩
    · have HE : Hid (L.wr = gr) := by
        show L.wr = gr
        rw [← HW.out]; exact beq_iff_eq.1 h1
      go_wp2_with fail
      go_ret
      exact ⟨ret_int (by rw [HR.out, if_pos HE.out]), HF.out⟩
  · have HR : Hid (R = _) := hR.trans (by rw [if_neg (by decide), if_pos rfl])
    clear hR
    go_enter Tryz.func44, Tryz.ntmps44
    go_wp2_with fail
    refine (cL _ fW).mono ?_
    rintro e u1 ⟨⟨lo', lw, lr, ln, lq⟩, rfl, hlv, f1⟩
    have fA := Fr.alloc u1 (.cells #[.int .i64 lo', .int .i64 lw, .slice lr ln lq] 47)
    have HF : Hid (Fr w (u1.alloc (.cells #[.int .i64 lo', .int .i64 lw, .slice lr ln lq] 47))) := (fW.trans f1).trans fA
    have n0 := fA.cell (f1.cell k2.at.1)
    have n1 := fA.cell (f1.cell k2.at.2.1)
    simp only at n0 n1
    have HW : Hid (lw = L.wr) := hlv.wr
    have HN : Hid (ln = L.rd.length) := hlv.rn
    have hsz : ln ≤ 1048576 := by have := hlv.sz; have := HN.out; omega
    have cI := l4In_any lr ln lq L.rd gr _ HN.out.symm (hlv.rd.fr fA)
    have hfu : Fr (u1.alloc (.cells #[.int .i64 lo', .int .i64 lw, .slice lr ln lq] 47)) (u1.alloc (.cells #[.int .i64 lo', .int .i64 lw, .slice lr ln lq] 47)) := Fr.refl _
    clear cL k1 k2 fW f1 hlv hz fA hfu
    by_cases h1 : 0 ≤ lw
    · have HE : Hid (0 ≤ L.wr ∨ memB L.rd gr = true) := .inl (by have := HW.out; omega)
      clear cI
      go_wp2_with fail
      go_ret
      exact ⟨ret_int (by rw [HR.out, if_pos HE.out]), HF.out⟩
    · have h1' : lw < 0 := by omega
      clear h1
      cases hm : memB L.rd gr
      · have HE : Hid (¬ (0 ≤ L.wr ∨ memB L.rd gr = true)) := by
          show ¬ (0 ≤ L.wr ∨ memB L.rd gr = true)
          have := HW.out; simp [hm]; omega
        rw [hm] at cI
        clear hm
        go_wp2_with (go_at_call 46; refine cI.mono ?_; rintro e w' ⟨rfl, rfl⟩)
        go_ret
        exact ⟨ret_int (by rw [HR.out, if_neg HE.out]), HF.out⟩
      · have HE : Hid (0 ≤ L.wr ∨ memB L.rd gr = true) := .inr hm
        rw [hm] at cI
        clear hm
        go_wp2_with (go_at_call 46; refine cI.mono ?_; rintro e w' ⟨rfl, rfl⟩)
        go_ret
        exact ⟨ret_int (by rw [HR.out, if_pos HE.out]), HF.out⟩
  · have HR : Hid (R = _) := hR.trans (by rw [if_neg (by decide), if_neg (by decide), if_neg (by decide), if_pos rfl])
    clear hR
    go_enter Tryz.func44, Tryz.ntmps44
    go_wp2_with fail
    refine (cL _ fW).mono ?_
    rintro e u1 ⟨⟨lo', lw, lr, ln, lq⟩, rfl, hlv, f1⟩
    have fA := Fr.alloc u1 (.cells #[.int .i64 lo', .int .i64 lw, .slice lr ln lq] 47)
    have HF : Hid (Fr w (u1.alloc (.cells #[.int .i64 lo', .int .i64 lw, .slice lr ln lq] 47))) := (fW.trans f1).trans fA
    have n0 := fA.cell (f1.cell k2.at.1)
    have n1 := fA.cell (f1.cell k2.at.2.1)
    simp only at n0 n1
    have HW : Hid (lw = L.wr) := hlv.wr
    have HN : Hid (ln = L.rd.length) := hlv.rn
    have hsz : ln ≤ 1048576 := by have := hlv.sz; have := HN.out; omega
    have cI := l4In_any lr ln lq L.rd gr _ HN.out.symm (hlv.rd.fr fA)
    have hfu : Fr (u1.alloc (.cells #[.int .i64 lo', .int .i64 lw, .slice lr ln lq] 47)) (u1.alloc (.cells #[.int .i64 lo', .int .i64 lw, .slice lr ln lq] 47)) := Fr.refl _
    clear cL k1 k2 fW f1 hlv hz fA hfu
    cases hm : memB L.rd gr
    · have HE : Hid (¬ (memB L.rd gr = true)) := by
        show ¬ (memB L.rd gr = true)
        simp [hm]
      rw [hm] at cI
      clear hm
      go_wp2_with (go_at_call 46; refine cI.mono ?_; rintro e w' ⟨rfl, rfl⟩)
      go_ret
      exact ⟨ret_int (by rw [HR.out, if_neg HE.out]), HF.out⟩
    · have HE : Hid (memB L.rd gr = true) := hm
      rw [hm] at cI
      clear hm
      go_wp2_with (go_at_call 46; refine cI.mono ?_; rintro e w' ⟨rfl, rfl⟩)
      go_ret
      exact ⟨ret_int (by rw [HR.out, if_pos HE.out]), HF.out⟩
end Go.Proofs.YtikjodbboljhjaaGreatDoor
/-
  Why an event of a channel can't be done: l4ChanCode.
-/
namespace Go.Proofs.YtikjodbboljhjaaGreatDoor
open Go.RowKit

theorem rowB_all {α : Type} {p : α → Bool} {o : α → Int} {xs : List α} (h : rowB p o xs = true) : ∀ x ∈ xs, p x = true := by
  intro x hx
  obtain ⟨j, hj, rfl⟩ := List.mem_iff_getElem.1 hx
  rw [rowB, List.all_eq_true] at h
  have := h j (List.mem_range.2 hj)
  cases hp : p xs[j] with
  | true => rfl
  | false => rw [rowAt_bad hj hp] at this; cases this
theorem scB_parts {m : Scn} (h : scB m = true) : inB 1 16 m.g = true ∧ rowB (lkB m.g) Lk.o m.ls = true ∧ rowB chB Ch.o m.cs = true ∧ rowB ctB Ct.o m.gs = true ∧ rowB (inB 0 15) (fun x => x) m.os = true := by
  unfold scB at h
  simp only [Bool.and_eq_true] at h
  exact ⟨h.1, h.2.1, h.2.2.1, h.2.2.2.1, h.2.2.2.2⟩
theorem chB_in {c : Ch} (h : chB c = true) : (0 ≤ c.o ∧ c.o ≤ 15) ∧ 0 ≤ c.cap ∧ c.cap ≤ 8 ∧ 0 ≤ c.sent ∧ c.sent ≤ 1000000 ∧ 0 ≤ c.got ∧ c.got ≤ c.sent ∧ c.sent ≤ c.got + c.cap := by
  unfold chB at h
  simp only [Bool.and_eq_true, decide_eq_true_eq] at h
  obtain ⟨h1, h2, h3, h4, h5⟩ := h
  have := inB_true h1
  have := inB_true h2
  have := inB_true h3
  have := inB_true h4
  omega
theorem chan_in {m : Scn} (h : scB m = true) (o : Int) : 0 ≤ (chanOf m.cs o).cap ∧ (chanOf m.cs o).cap ≤ 8 ∧ 0 ≤ (chanOf m.cs o).sent ∧ (chanOf m.cs o).sent ≤ 1000000 ∧ 0 ≤ (chanOf m.cs o).got ∧ (chanOf m.cs o).got ≤ (chanOf m.cs o).sent ∧ (chanOf m.cs o).sent ≤ (chanOf m.cs o).got + (chanOf m.cs o).cap := by
  have h3 := (scB_parts h).2.2.1
  unfold chanOf
  cases hf : m.cs.find? fun l => l.o == o with
  | none => simp
  | some c =>
    have hm := List.mem_of_find?_eq_some hf
    have := (chB_in (rowB_all h3 c hm)).2
    simpa using this

set_option maxRecDepth 20000 in
set_option maxHeartbeats 6000000 in
theorem l4ChanCode_any {B : Nat → Prop} (s : Sv) (m : Scn) (e : Ev) (w : World) (hk : 6 ≤ e.k ∧ e.k ≤ 11) (hm : scB m = true) (h : ScR B w s m) :
    Calls Tryz.prog 45 #[.agg #[.int .i64 s.g, .slice s.lo s.ll s.lc, .slice s.co s.cl s.cc, .slice s.no s.nl s.nc, .slice s.oo s.ol s.oc], .agg #[.int .i64 e.k, .int .i64 e.g, .int .i64 e.o, .int .i64 e.w, .int .i64 e.l, .int .i64 e.s, .int .i64 e.f, .int .i64 e.t]] w fun x w' => x = .returned (.int .i64 (chanCode m e)) ∧ Fr w w' := by
  obtain ⟨k1, k2, fW, hz⟩ := box2 w s e
  obtain ⟨k, gr, o, wi, l, sz, f, t⟩ := e
  obtain ⟨g, lo, ll, lc, co, cl, cc, no, nl, nc, oo, ol, oc⟩ := s
  simp only at hk k1 k2 fW hz ⊢
  have cL := fun u (hf : Fr w u) => l4ChanOf_any (B := B) ⟨g, lo, ll, lc, co, cl, cc, no, nl, nc, oo, ol, oc⟩ m o u (h.fr hf)
  simp only at cL
  have hin := chan_in hm o
  obtain ⟨R, hR⟩ : ∃ R, R = chanCode m ⟨k, gr, o, wi, l, sz, f, t⟩ := ⟨_, rfl⟩
  rw [← hR]
  unfold chanCode at hR
  simp only at hR
  obtain ⟨C, hC⟩ : ∃ C, C = chanOf m.cs o := ⟨_, rfl⟩
  obtain ⟨T, hT⟩ : ∃ T, T = isChan m.cs o := ⟨_, rfl⟩
  rw [← hC] at hin
  simp only [← hC, ← hT] at hR cL
  clear hC hT h hm k1
  obtain ⟨xo, xc, xs, xg, xl⟩ := C
  simp only at hin hR cL
  obtain ⟨i0, i1, i2, i3, i4, i5, i6⟩ := hin
  have HK : Hid (∀ u (_ : Fr ((w.alloc (.cells #[.int .i64 g, .slice lo ll lc, .slice co cl cc, .slice no nl nc, .slice oo ol oc] 29)).alloc (.cells #[.int .i64 k, .int .i64 gr, .int .i64 o, .int .i64 wi, .int .i64 l, .int .i64 sz, .int .i64 f, .int .i64 t] 31)) u), (u.alloc (.cells #[.int .i64 xo, .int .i64 xc, .int .i64 xs, .int .i64 xg, .bool xl] 82)).cell? ⟨w.heap.size + 1, 0, none⟩ = some (.int .i64 k)) := fun u f => (Fr.alloc u _).cell (f.cell k2.at.1)
  clear k2 hz
  rcases (show k = 6 ∨ k = 7 ∨ k = 8 ∨ k = 9 ∨ k = 10 ∨ k = 11 by omega) with rfl | rfl | rfl | rfl | rfl | rfl
  · cases T
    · have HR : Hid (R = 0) := by
        show R = 0
        rw [hR]
        simp 
      clear hR
      go_enter Tryz.func45, Tryz.ntmps45
      go_wp2_with fail
      refine (cL _ fW).mono ?_
      rintro e u1 ⟨rfl, f1⟩
      have n0 := HK.out _ f1
      have HF : Hid (Fr w (u1.alloc (.cells #[.int .i64 xo, .int .i64 xc, .int .i64 xs, .int .i64 xg, .bool xl] 82))) := (fW.trans f1).trans (Fr.alloc _ _)
      clear cL fW f1
      go_wp2_with fail
      go_ret
      exact ⟨ret_int HR.out.symm, HF.out⟩
    · have HR : Hid (R = 5) := by
        show R = 5
        rw [hR]
        simp 
      clear hR
      go_enter Tryz.func45, Tryz.ntmps45
      go_wp2_with fail
      refine (cL _ fW).mono ?_
      rintro e u1 ⟨rfl, f1⟩
      have n0 := HK.out _ f1
      have HF : Hid (Fr w (u1.alloc (.cells #[.int .i64 xo, .int .i64 xc, .int .i64 xs, .int .i64 xg, .bool xl] 82))) := (fW.trans f1).trans (Fr.alloc _ _)
      clear cL fW f1
      go_wp2_with fail
      go_ret
      exact ⟨ret_int HR.out.symm, HF.out⟩
  · cases T
    · have HR : Hid (R = 5) := by
        show R = 5
        rw [hR]
        simp 
      clear hR
      go_enter Tryz.func45, Tryz.ntmps45
      go_wp2_with fail
      refine (cL _ fW).mono ?_
      rintro e u1 ⟨rfl, f1⟩
      have n0 := HK.out _ f1
      have HF : Hid (Fr w (u1.alloc (.cells #[.int .i64 xo, .int .i64 xc, .int .i64 xs, .int .i64 xg, .bool xl] 82))) := (fW.trans f1).trans (Fr.alloc _ _)
      clear cL fW f1
      go_wp2_with fail
      go_ret
      exact ⟨ret_int HR.out.symm, HF.out⟩
    · cases ecap0 : (xc == 0)
      · have pcap0 : ¬ xc = 0 := beq_eq_false_iff_ne.1 ecap0
        cases xl
        · cases efull : (xs - xg == xc)
          · have pfull : ¬ xs - xg = xc := beq_eq_false_iff_ne.1 efull
            cases emax : (xs == 1000000)
            · have pmax : ¬ xs = 1000000 := beq_eq_false_iff_ne.1 emax
              have HR : Hid (R = 0) := by
                show R = 0
                rw [hR]
                simp [pcap0, pfull, pmax]
              clear hR pcap0 pfull pmax
              go_enter Tryz.func45, Tryz.ntmps45
              go_wp2_with fail
              refine (cL _ fW).mono ?_
              rintro e u1 ⟨rfl, f1⟩
              have n0 := HK.out _ f1
              have HF : Hid (Fr w (u1.alloc (.cells #[.int .i64 xo, .int .i64 xc, .int .i64 xs, .int .i64 xg, .bool false] 82))) := (fW.trans f1).trans (Fr.alloc _ _)
              clear cL fW f1
              go_wp2_with fail
              go_ret
              exact ⟨ret_int HR.out.symm, HF.out⟩
            · have pmax : xs = 1000000 := beq_iff_eq.1 emax
              have HR : Hid (R = 9) := by
                show R = 9
                rw [hR]
                simp [pcap0, pmax]
                omega
              clear hR pcap0 pfull pmax
              go_enter Tryz.func45, Tryz.ntmps45
              go_wp2_with fail
              refine (cL _ fW).mono ?_
              rintro e u1 ⟨rfl, f1⟩
              have n0 := HK.out _ f1
              have HF : Hid (Fr w (u1.alloc (.cells #[.int .i64 xo, .int .i64 xc, .int .i64 xs, .int .i64 xg, .bool false] 82))) := (fW.trans f1).trans (Fr.alloc _ _)
              clear cL fW f1
              go_wp2_with fail
              go_ret
              exact ⟨ret_int HR.out.symm, HF.out⟩
          · have pfull : xs - xg = xc := beq_iff_eq.1 efull
            have HR : Hid (R = 7) := by
              show R = 7
              rw [hR]
              simp [pcap0, pfull]
            clear hR pcap0 pfull
            go_enter Tryz.func45, Tryz.ntmps45
            go_wp2_with fail
            refine (cL _ fW).mono ?_
            rintro e u1 ⟨rfl, f1⟩
            have n0 := HK.out _ f1
            have HF : Hid (Fr w (u1.alloc (.cells #[.int .i64 xo, .int .i64 xc, .int .i64 xs, .int .i64 xg, .bool false] 82))) := (fW.trans f1).trans (Fr.alloc _ _)
            clear cL fW f1
            go_wp2_with fail
            go_ret
            exact ⟨ret_int HR.out.symm, HF.out⟩
        · have HR : Hid (R = 6) := by
            show R = 6
            rw [hR]
            simp [pcap0]
          clear hR pcap0
          go_enter Tryz.func45, Tryz.ntmps45
          go_wp2_with fail
          refine (cL _ fW).mono ?_
          rintro e u1 ⟨rfl, f1⟩
          have n0 := HK.out _ f1
          have HF : Hid (Fr w (u1.alloc (.cells #[.int .i64 xo, .int .i64 xc, .int .i64 xs, .int .i64 xg, .bool true] 82))) := (fW.trans f1).trans (Fr.alloc _ _)
          clear cL fW f1
          go_wp2_with fail
          go_ret
          exact ⟨ret_int HR.out.symm, HF.out⟩
      · have pcap0 : xc = 0 := beq_iff_eq.1 ecap0
        have HR : Hid (R = 5) := by
          show R = 5
          rw [hR]
          simp [pcap0]
        clear hR pcap0
        go_enter Tryz.func45, Tryz.ntmps45
        go_wp2_with fail
        refine (cL _ fW).mono ?_
        rintro e u1 ⟨rfl, f1⟩
        have n0 := HK.out _ f1
        have HF : Hid (Fr w (u1.alloc (.cells #[.int .i64 xo, .int .i64 xc, .int .i64 xs, .int .i64 xg, .bool xl] 82))) := (fW.trans f1).trans (Fr.alloc _ _)
        clear cL fW f1
        go_wp2_with fail
        go_ret
        exact ⟨ret_int HR.out.symm, HF.out⟩
  · cases T
    · have HR : Hid (R = 5) := by
        show R = 5
        rw [hR]
        simp 
      clear hR
      go_enter Tryz.func45, Tryz.ntmps45
      go_wp2_with fail
      refine (cL _ fW).mono ?_
      rintro e u1 ⟨rfl, f1⟩
      have n0 := HK.out _ f1
      have HF : Hid (Fr w (u1.alloc (.cells #[.int .i64 xo, .int .i64 xc, .int .i64 xs, .int .i64 xg, .bool xl] 82))) := (fW.trans f1).trans (Fr.alloc _ _)
      clear cL fW f1
      go_wp2_with fail
      go_ret
      exact ⟨ret_int HR.out.symm, HF.out⟩
    · cases ecap0 : (xc == 0)
      · have pcap0 : ¬ xc = 0 := beq_eq_false_iff_ne.1 ecap0
        cases eemp : (xs == xg)
        · have pemp : ¬ xs = xg := beq_eq_false_iff_ne.1 eemp
          have HR : Hid (R = 0) := by
            show R = 0
            rw [hR]
            simp [pcap0, pemp]
          clear hR pcap0 pemp
          go_enter Tryz.func45, Tryz.ntmps45
          go_wp2_with fail
          refine (cL _ fW).mono ?_
          rintro e u1 ⟨rfl, f1⟩
          have n0 := HK.out _ f1
          have HF : Hid (Fr w (u1.alloc (.cells #[.int .i64 xo, .int .i64 xc, .int .i64 xs, .int .i64 xg, .bool xl] 82))) := (fW.trans f1).trans (Fr.alloc _ _)
          clear cL fW f1
          go_wp2_with fail
          go_ret
          exact ⟨ret_int HR.out.symm, HF.out⟩
        · have pemp : xs = xg := beq_iff_eq.1 eemp
          have HR : Hid (R = 8) := by
            show R = 8
            rw [hR]
            simp [pcap0, pemp]
          clear hR pcap0 pemp
          go_enter Tryz.func45, Tryz.ntmps45
          go_wp2_with fail
          refine (cL _ fW).mono ?_
          rintro e u1 ⟨rfl, f1⟩
          have n0 := HK.out _ f1
          have HF : Hid (Fr w (u1.alloc (.cells #[.int .i64 xo, .int .i64 xc, .int .i64 xs, .int .i64 xg, .bool xl] 82))) := (fW.trans f1).trans (Fr.alloc _ _)
          clear cL fW f1
          go_wp2_with fail
          go_ret
          exact ⟨ret_int HR.out.symm, HF.out⟩
      · have pcap0 : xc = 0 := beq_iff_eq.1 ecap0
        have HR : Hid (R = 5) := by
          show R = 5
          rw [hR]
          simp [pcap0]
        clear hR pcap0
        go_enter Tryz.func45, Tryz.ntmps45
        go_wp2_with fail
        refine (cL _ fW).mono ?_
        rintro e u1 ⟨rfl, f1⟩
        have n0 := HK.out _ f1
        have HF : Hid (Fr w (u1.alloc (.cells #[.int .i64 xo, .int .i64 xc, .int .i64 xs, .int .i64 xg, .bool xl] 82))) := (fW.trans f1).trans (Fr.alloc _ _)
        clear cL fW f1
        go_wp2_with fail
        go_ret
        exact ⟨ret_int HR.out.symm, HF.out⟩
  · cases T
    · have HR : Hid (R = 5) := by
        show R = 5
        rw [hR]
        simp 
      clear hR
      go_enter Tryz.func45, Tryz.ntmps45
      go_wp2_with fail
      refine (cL _ fW).mono ?_
      rintro e u1 ⟨rfl, f1⟩
      have n0 := HK.out _ f1
      have HF : Hid (Fr w (u1.alloc (.cells #[.int .i64 xo, .int .i64 xc, .int .i64 xs, .int .i64 xg, .bool xl] 82))) := (fW.trans f1).trans (Fr.alloc _ _)
      clear cL fW f1
      go_wp2_with fail
      go_ret
      exact ⟨ret_int HR.out.symm, HF.out⟩
    · cases ecap0 : (xc == 0)
      · have pcap0 : ¬ xc = 0 := beq_eq_false_iff_ne.1 ecap0
        have HR : Hid (R = 5) := by
          show R = 5
          rw [hR]
          simp [pcap0]
        clear hR pcap0
        go_enter Tryz.func45, Tryz.ntmps45
        go_wp2_with fail
        refine (cL _ fW).mono ?_
        rintro e u1 ⟨rfl, f1⟩
        have n0 := HK.out _ f1
        have HF : Hid (Fr w (u1.alloc (.cells #[.int .i64 xo, .int .i64 xc, .int .i64 xs, .int .i64 xg, .bool xl] 82))) := (fW.trans f1).trans (Fr.alloc _ _)
        clear cL fW f1
        go_wp2_with fail
        go_ret
        exact ⟨ret_int HR.out.symm, HF.out⟩
      · have pcap0 : xc = 0 := beq_iff_eq.1 ecap0
        cases xl
        · have HR : Hid (R = 0) := by
            show R = 0
            rw [hR]
            simp [pcap0]
          clear hR pcap0
          go_enter Tryz.func45, Tryz.ntmps45
          go_wp2_with fail
          refine (cL _ fW).mono ?_
          rintro e u1 ⟨rfl, f1⟩
          have n0 := HK.out _ f1
          have HF : Hid (Fr w (u1.alloc (.cells #[.int .i64 xo, .int .i64 xc, .int .i64 xs, .int .i64 xg, .bool false] 82))) := (fW.trans f1).trans (Fr.alloc _ _)
          clear cL fW f1
          go_wp2_with fail
          go_ret
          exact ⟨ret_int HR.out.symm, HF.out⟩
        · have HR : Hid (R = 6) := by
            show R = 6
            rw [hR]
            simp [pcap0]
          clear hR pcap0
          go_enter Tryz.func45, Tryz.ntmps45
          go_wp2_with fail
          refine (cL _ fW).mono ?_
          rintro e u1 ⟨rfl, f1⟩
          have n0 := HK.out _ f1
          have HF : Hid (Fr w (u1.alloc (.cells #[.int .i64 xo, .int .i64 xc, .int .i64 xs, .int .i64 xg, .bool true] 82))) := (fW.trans f1).trans (Fr.alloc _ _)
          clear cL fW f1
          go_wp2_with fail
          go_ret
          exact ⟨ret_int HR.out.symm, HF.out⟩
  · cases T
    · have HR : Hid (R = 5) := by
        show R = 5
        rw [hR]
        simp 
      clear hR
      go_enter Tryz.func45, Tryz.ntmps45
      go_wp2_with fail
      refine (cL _ fW).mono ?_
      rintro e u1 ⟨rfl, f1⟩
      have n0 := HK.out _ f1
      have HF : Hid (Fr w (u1.alloc (.cells #[.int .i64 xo, .int .i64 xc, .int .i64 xs, .int .i64 xg, .bool xl] 82))) := (fW.trans f1).trans (Fr.alloc _ _)
      clear cL fW f1
      go_wp2_with fail
      go_ret
      exact ⟨ret_int HR.out.symm, HF.out⟩
    · cases xl
      · have HR : Hid (R = 0) := by
          show R = 0
          rw [hR]
          simp 
        clear hR
        go_enter Tryz.func45, Tryz.ntmps45
        go_wp2_with fail
        refine (cL _ fW).mono ?_
        rintro e u1 ⟨rfl, f1⟩
        have n0 := HK.out _ f1
        have HF : Hid (Fr w (u1.alloc (.cells #[.int .i64 xo, .int .i64 xc, .int .i64 xs, .int .i64 xg, .bool false] 82))) := (fW.trans f1).trans (Fr.alloc _ _)
        clear cL fW f1
        go_wp2_with fail
        go_ret
        exact ⟨ret_int HR.out.symm, HF.out⟩
      · have HR : Hid (R = 6) := by
          show R = 6
          rw [hR]
          simp 
        clear hR
        go_enter Tryz.func45, Tryz.ntmps45
        go_wp2_with fail
        refine (cL _ fW).mono ?_
        rintro e u1 ⟨rfl, f1⟩
        have n0 := HK.out _ f1
        have HF : Hid (Fr w (u1.alloc (.cells #[.int .i64 xo, .int .i64 xc, .int .i64 xs, .int .i64 xg, .bool true] 82))) := (fW.trans f1).trans (Fr.alloc _ _)
        clear cL fW f1
        go_wp2_with fail
        go_ret
        exact ⟨ret_int HR.out.symm, HF.out⟩
  · cases T
    · have HR : Hid (R = 5) := by
        show R = 5
        rw [hR]
        simp 
      clear hR
      go_enter Tryz.func45, Tryz.ntmps45
      go_wp2_with fail
      refine (cL _ fW).mono ?_
      rintro e u1 ⟨rfl, f1⟩
      have n0 := HK.out _ f1
      have HF : Hid (Fr w (u1.alloc (.cells #[.int .i64 xo, .int .i64 xc, .int .i64 xs, .int .i64 xg, .bool xl] 82))) := (fW.trans f1).trans (Fr.alloc _ _)
      clear cL fW f1
      go_wp2_with fail
      go_ret
      exact ⟨ret_int HR.out.symm, HF.out⟩
    · cases xl
      · have HR : Hid (R = 6) := by
          show R = 6
          rw [hR]
          simp 
        clear hR
        go_enter Tryz.func45, Tryz.ntmps45
        go_wp2_with fail
        refine (cL _ fW).mono ?_
        rintro e u1 ⟨rfl, f1⟩
        have n0 := HK.out _ f1
        have HF : Hid (Fr w (u1.alloc (.cells #[.int .i64 xo, .int .i64 xc, .int .i64 xs, .int .i64 xg, .bool false] 82))) := (fW.trans f1).trans (Fr.alloc _ _)
        clear cL fW f1
        go_wp2_with fail
        go_ret
        exact ⟨ret_int HR.out.symm, HF.out⟩
      · cases eemp : (xs == xg)
        · have pemp : ¬ xs = xg := beq_eq_false_iff_ne.1 eemp
          have HR : Hid (R = 8) := by
            show R = 8
            rw [hR]
            simp [pemp]
          clear hR pemp
          go_enter Tryz.func45, Tryz.ntmps45
          go_wp2_with fail
          refine (cL _ fW).mono ?_
          rintro e u1 ⟨rfl, f1⟩
          have n0 := HK.out _ f1
          have HF : Hid (Fr w (u1.alloc (.cells #[.int .i64 xo, .int .i64 xc, .int .i64 xs, .int .i64 xg, .bool true] 82))) := (fW.trans f1).trans (Fr.alloc _ _)
          clear cL fW f1
          go_wp2_with fail
          go_ret
          exact ⟨ret_int HR.out.symm, HF.out⟩
        · have pemp : xs = xg := beq_iff_eq.1 eemp
          have HR : Hid (R = 0) := by
            show R = 0
            rw [hR]
            simp [pemp]
          clear hR pemp
          go_enter Tryz.func45, Tryz.ntmps45
          go_wp2_with fail
          refine (cL _ fW).mono ?_
          rintro e u1 ⟨rfl, f1⟩
          have n0 := HK.out _ f1
          have HF : Hid (Fr w (u1.alloc (.cells #[.int .i64 xo, .int .i64 xc, .int .i64 xs, .int .i64 xg, .bool true] 82))) := (fW.trans f1).trans (Fr.alloc _ _)
          clear cL fW f1
          go_wp2_with fail
          go_ret
          exact ⟨ret_int HR.out.symm, HF.out⟩
end Go.Proofs.YtikjodbboljhjaaGreatDoor
/-
  Events: the specification's small callees.
-/
namespace Go.Proofs.YtikjodbboljhjaaGreatDoor
open Go.RowKit

theorem l2Gor_any (x : Int) (w : World) :
    Calls Tryz.prog 105 #[.int .i64 x] w fun e w' => e = .returned (.bool (inB 0 15 x)) ∧ w' = w := by
  go_enter Tryz.func105, Tryz.ntmps105
  go_wp2_with fail
  refine (l1In_any _ _ _ _).mono ?_
  rintro e w1 ⟨rfl, rfl⟩
  go_wp2_with fail
  go_ret
  exact ⟨rfl, rfl⟩

theorem l2Field_any (h : Bool) (n lo hi : Int) (w : World) :
    Calls Tryz.prog 107 #[.bool h, .int .i64 n, .int .i64 lo, .int .i64 hi] w fun e w' => e = .returned (.bool (fitB h n lo hi)) ∧ w' = w := by
  cases h
  · go_enter Tryz.func107, Tryz.ntmps107
    go_wp2
    go_ret
    exact ⟨rfl, rfl⟩
  · go_enter Tryz.func107, Tryz.ntmps107
    go_wp2_with fail
    refine (l1In_any _ _ _ _).mono ?_
    rintro e w1 ⟨rfl, rfl⟩
    go_wp2_with fail
    go_ret
    exact ⟨rfl, rfl⟩

theorem l2Sizes_any (k : Int) (w : World) :
    Calls Tryz.prog 106 #[.int .i64 k] w fun e w' => e = .returned (.tuple #[.int .i64 (loV k), .int .i64 (hiV k)]) ∧ w' = w := by
  by_cases h6 : k = 6
  · subst h6
    go_enter Tryz.func106, Tryz.ntmps106
    go_wp2
    go_ret2
    exact ⟨rfl, rfl⟩
  by_cases h12 : k = 12
  · subst h12
    go_enter Tryz.func106, Tryz.ntmps106
    go_wp2
    go_ret2
    exact ⟨rfl, rfl⟩
  by_cases h20 : k = 20
  · subst h20
    go_enter Tryz.func106, Tryz.ntmps106
    go_wp2
    go_ret2
    exact ⟨rfl, rfl⟩
  by_cases h21 : k = 21
  · subst h21
    go_enter Tryz.func106, Tryz.ntmps106
    go_wp2
    go_ret2
    exact ⟨rfl, rfl⟩
  by_cases h22 : k = 22
  · subst h22
    go_enter Tryz.func106, Tryz.ntmps106
    go_wp2
    go_ret2
    exact ⟨rfl, rfl⟩
  have e1 : loV k = 0 := by rw [loV, if_neg (by omega)]
  have e2 : hiV k = 0 := by rw [hiV, if_neg h6, if_neg h12, if_neg (by omega), if_neg h22]
  rw [e1, e2]
  clear e1 e2
  go_enter Tryz.func106, Tryz.ntmps106
  go_wp2
  go_ret2
  exact ⟨rfl, rfl⟩

theorem l2Has_any (k d : Int) (w : World) (hd : d = 1 ∨ d = 2 ∨ d = 4 ∨ d = 8 ∨ d = 16 ∨ d = 32) :
    Calls Tryz.prog 108 #[.int .i64 k, .int .i64 d] w fun e w' => e = .returned (.bool (hasB k d)) ∧ Fr w w' := by
  have c1 := fun w => specFields_any k w
  have hb := fldV_in k
  unfold hasB
  obtain ⟨z, hz⟩ : ∃ z, z = fldV k := ⟨_, rfl⟩
  rw [← hz] at hb ⊢
  simp only [← hz] at c1
  clear hz
  rcases hd with rfl | rfl | rfl | rfl | rfl | rfl
  all_goals
    go_enter Tryz.func108, Tryz.ntmps108
    go_wp2_with fail
    refine (c1 _).mono ?_
    rintro e w1 ⟨rfl, f1⟩
    go_wp2_with fail
    go_ret
    first
      | exact ⟨rfl, f1⟩
      | exact ⟨ret_bool (by rw [Int.tdiv_one]), f1⟩
end Go.Proofs.YtikjodbboljhjaaGreatDoor
/-
  The specification's EventOk.
-/
namespace Go.Proofs.YtikjodbboljhjaaGreatDoor
open Go.RowKit

set_option maxHeartbeats 2000000 in
theorem specOk_any (e : Ev) (w : World) :
    Calls Tryz.prog 42 #[.agg #[.int .i64 e.k, .int .i64 e.g, .int .i64 e.o, .int .i64 e.w, .int .i64 e.l, .int .i64 e.s, .int .i64 e.f, .int .i64 e.t]] w fun x w' => x = .returned (.bool (evOk e)) ∧ Fr w w' := by
  have ck := fun w => specFields_any e.k w
  have cg := fun w => l2Gor_any e.g w
  cases hk : inB 1 22 e.k
  · have hv : evOk e = false := by simp [evOk, hk]
    have hf : fldV e.k = -1 := by rw [fldV, hk]; rfl
    rw [hv]
    simp only [hf] at ck
    clear hv hk hf cg
    go_enter Tryz.func42, Tryz.ntmps42
    go_wp2_with fail
    refine (ck _).mono ?_
    rintro e w1 ⟨rfl, f1⟩
    go_wp2_with fail
    go_ret
    exact ⟨rfl, (Fr.alloc _ _).trans f1⟩
  have hz : 0 ≤ fldV e.k := by
    obtain ⟨n, hn, hkn⟩ := kinds hk
    rw [hkn, fldV_at n hn]
    exact (fldN_in n).1
  obtain ⟨z, ez⟩ : ∃ z, z = fldV e.k := ⟨_, rfl⟩
  rw [← ez] at hz
  simp only [← ez] at ck
  clear ez
  cases hg : inB 0 15 e.g
  · have hv : evOk e = false := by simp [evOk, hg]
    rw [hv]
    simp only [hg] at cg
    clear hv hk hg
    obtain ⟨k, g, o, wi, l, sz, f, t⟩ := e
    simp only at ck cg ⊢
    go_enter Tryz.func42, Tryz.ntmps42
    go_wp2_with fail
    refine (ck _).mono ?_
    rintro e w1 ⟨rfl, f1⟩
    have d1 : w1.cell? ⟨w.heap.size, 1, none⟩ = some (.int .i64 g) := f1.cell (by go_simp)
    go_wp2_with fail
    refine (cg _).mono ?_
    rintro e w1 ⟨rfl, rfl⟩
    go_wp2_with fail
    go_ret
    exact ⟨rfl, (Fr.alloc _ _).trans f1⟩
  simp only [hg] at cg
  have hv : evOk e = (ev1 e && ev2 e && ev3 e && ev4 e && ev5 e && ev6 e) := by simp [evOk, hk, hg]
  rw [hv]
  clear hv hk hg
  obtain ⟨k, g, o, wi, l, sz, f, t⟩ := e
  simp only at ck cg ⊢
  have cs := fun w => l2Sizes_any k w
  have t1 := fun w => l2Has_any k 1 w (by simp)
  have t2 := fun w => l2Has_any k 2 w (by simp)
  have t3 := fun w => l2Has_any k 4 w (by simp)
  have t4 := fun w => l2Has_any k 8 w (by simp)
  have t5 := fun w => l2Has_any k 16 w (by simp)
  have t6 := fun w => l2Has_any k 32 w (by simp)
  unfold ev1 ev2 ev3 ev4 ev5 ev6
  simp only
  obtain ⟨lo, hlo⟩ : ∃ z, z = loV k := ⟨_, rfl⟩
  obtain ⟨hi, hhi⟩ : ∃ z, z = hiV k := ⟨_, rfl⟩
  simp only [← hlo, ← hhi] at cs ⊢
  obtain ⟨p1, y1⟩ : ∃ b, b = hasB k 1 := ⟨_, rfl⟩
  obtain ⟨p2, y2⟩ : ∃ b, b = hasB k 2 := ⟨_, rfl⟩
  obtain ⟨p3, y3⟩ : ∃ b, b = hasB k 4 := ⟨_, rfl⟩
  obtain ⟨p4, y4⟩ : ∃ b, b = hasB k 8 := ⟨_, rfl⟩
  obtain ⟨p5, y5⟩ : ∃ b, b = hasB k 16 := ⟨_, rfl⟩
  obtain ⟨p6, y6⟩ : ∃ b, b = hasB k 32 := ⟨_, rfl⟩
  simp only [← y1] at t1 ⊢
  simp only [← y2] at t2 ⊢
  simp only [← y3] at t3 ⊢
  simp only [← y4] at t4 ⊢
  simp only [← y5] at t5 ⊢
  simp only [← y6] at t6 ⊢
  clear y1 y2 y3 y4 y5 y6 hlo hhi
  have c1 := fun w => l2Field_any p1 o 0 15 w
  have c2 := fun w => l2Field_any p2 wi 0 15 w
  have c3 := fun w => l2Field_any p3 l 0 65535 w
  have c4 := fun w => l2Field_any p4 sz lo hi w
  have c5 := fun w => l2Field_any p5 f 0 999 w
  have c6 := fun w => l2Field_any p6 t 0 999 w
  obtain ⟨b1, e1⟩ : ∃ b, b = fitB p1 o 0 15 := ⟨_, rfl⟩
  obtain ⟨b2, e2⟩ : ∃ b, b = fitB p2 wi 0 15 := ⟨_, rfl⟩
  obtain ⟨b3, e3⟩ : ∃ b, b = fitB p3 l 0 65535 := ⟨_, rfl⟩
  obtain ⟨b4, e4⟩ : ∃ b, b = fitB p4 sz lo hi := ⟨_, rfl⟩
  obtain ⟨b5, e5⟩ : ∃ b, b = fitB p5 f 0 999 := ⟨_, rfl⟩
  obtain ⟨b6, e6⟩ : ∃ b, b = fitB p6 t 0 999 := ⟨_, rfl⟩
  simp only [← e1] at c1 ⊢
  simp only [← e2] at c2 ⊢
  simp only [← e3] at c3 ⊢
  simp only [← e4] at c4 ⊢
  simp only [← e5] at c5 ⊢
  simp only [← e6] at c6 ⊢
  clear e1 e2 e3 e4 e5 e6
  have hk1 : k = 1 ∨ ¬ k = 1 := by omega
  go_enter Tryz.func42, Tryz.ntmps42
  go_wp2_with fail
  refine (ck _).mono ?_
  rintro e W ⟨rfl, f1⟩
  have fW : Fr w W := (Fr.alloc _ _).trans f1
  have i0 : W.cell? ⟨w.heap.size, 0, none⟩ = some (.int .i64 k) := f1.cell (by go_simp)
  have i1 : W.cell? ⟨w.heap.size, 1, none⟩ = some (.int .i64 g) := f1.cell (by go_simp)
  have d0 : ∀ s : Later W, s.u.cell? ⟨w.heap.size, 0, none⟩ = some (.int .i64 k) := fun s => s.fr.cell (f1.cell (by go_simp))
  have d2 : ∀ s : Later W, s.u.cell? ⟨w.heap.size, 2, none⟩ = some (.int .i64 o) := fun s => s.fr.cell (f1.cell (by go_simp))
  have d3 : ∀ s : Later W, s.u.cell? ⟨w.heap.size, 3, none⟩ = some (.int .i64 wi) := fun s => s.fr.cell (f1.cell (by go_simp))
  have d4 : ∀ s : Later W, s.u.cell? ⟨w.heap.size, 4, none⟩ = some (.int .i64 l) := fun s => s.fr.cell (f1.cell (by go_simp))
  have d5 : ∀ s : Later W, s.u.cell? ⟨w.heap.size, 5, none⟩ = some (.int .i64 sz) := fun s => s.fr.cell (f1.cell (by go_simp))
  have d6 : ∀ s : Later W, s.u.cell? ⟨w.heap.size, 6, none⟩ = some (.int .i64 f) := fun s => s.fr.cell (f1.cell (by go_simp))
  have d7 : ∀ s : Later W, s.u.cell? ⟨w.heap.size, 7, none⟩ = some (.int .i64 t) := fun s => s.fr.cell (f1.cell (by go_simp))
  clear f1
  go_wp2_with fail
  refine (cg _).mono ?_
  rintro e w1 ⟨rfl, rfl⟩
  have := Later.some w1
  have hb : b1 = false ∨ (b1 = true ∧ b2 = false) ∨ (b1 = true ∧ b2 = true ∧ b3 = false) ∨ (b1 = true ∧ b2 = true ∧ b3 = true ∧ b4 = false) ∨ (b1 = true ∧ b2 = true ∧ b3 = true ∧ b4 = true ∧ b5 = false) ∨ (b1 = true ∧ b2 = true ∧ b3 = true ∧ b4 = true ∧ b5 = true) := by
    cases b1 <;> cases b2 <;> cases b3 <;> cases b4 <;> cases b5 <;> simp
  rcases hk1 with rfl | hk1
  all_goals
    go_wp2_with fail
    refine (cs _).mono ?_
    rintro e w2 ⟨rfl, rfl⟩
    go_wp2_with fail
    refine wp_region_grown (by kernel_rfl) (by kernel_rfl) ?_
    clear i0 i1 ck cg cs
    rcases hb with rfl | ⟨rfl, rfl⟩ | ⟨rfl, rfl, rfl⟩ | ⟨rfl, rfl, rfl, rfl⟩ | ⟨rfl, rfl, rfl, rfl, rfl⟩ | ⟨rfl, rfl, rfl, rfl, rfl⟩
    all_goals
      repeat (go_big_quiet_step (first | with_reducible exact Calls.grown_of (t1 _) | with_reducible exact Calls.grown_of (t2 _) | with_reducible exact Calls.grown_of (t3 _) | with_reducible exact Calls.grown_of (t4 _) | with_reducible exact Calls.grown_of (t5 _) | with_reducible exact Calls.grown_of (t6 _) | with_reducible exact Calls.grown_same (c1 _) | with_reducible exact Calls.grown_same (c2 _) | with_reducible exact Calls.grown_same (c3 _) | with_reducible exact Calls.grown_same (c4 _) | with_reducible exact Calls.grown_same (c5 _) | with_reducible exact Calls.grown_same (c6 _)))
      refine wpQuiet_nil ?_
      rintro _ ⟨s, rfl⟩
      go_wp2_with fail
      go_ret
      exact ⟨ret_bool (by simp), fW.trans s.fr⟩
end Go.Proofs.YtikjodbboljhjaaGreatDoor
