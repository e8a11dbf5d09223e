/-
  What can be done in a scene, and what comes of it: the model.
-/
import Derived.Test.YtikjodbboljhjaaGreatDoorScNew
import Derived.Test.YtikjodbboljhjaaGreatDoorScRow
import Derived.Test.YtikjodbboljhjaaGreatDoorEv
namespace Go.Proofs.YtikjodbboljhjaaGreatDoor
open Go.RowKit

def lockCode (m : Scn) (e : Ev) : Int :=
  if e.k = 2 then (if 0 ≤ (lockOf m.ls e.o).wr ∨ 0 < (lockOf m.ls e.o).rd.length then 3 else 0)
  else if e.k = 4 then (if 0 ≤ (lockOf m.ls e.o).wr ∨ memB (lockOf m.ls e.o).rd e.g = true then 3 else 0)
  else if e.k = 3 then (if (lockOf m.ls e.o).wr = e.g then 0 else 4)
  else if e.k = 5 then (if memB (lockOf m.ls e.o).rd e.g = true then 0 else 4)
  else 0
def chanCode (m : Scn) (e : Ev) : Int :=
  if isChan m.cs e.o = decide (e.k = 6) then 5
  else if ((e.k = 7 ∨ e.k = 8) ∧ (chanOf m.cs e.o).cap = 0) ∨ (e.k = 9 ∧ (chanOf m.cs e.o).cap ≠ 0) then 5
  else if ((e.k = 7 ∨ e.k = 9 ∨ e.k = 10) ∧ (chanOf m.cs e.o).cl = true) ∨ (e.k = 11 ∧ (chanOf m.cs e.o).cl = false) then 6
  else if e.k = 7 ∧ (chanOf m.cs e.o).sent - (chanOf m.cs e.o).got = (chanOf m.cs e.o).cap then 7
  else if (e.k = 8 ∧ (chanOf m.cs e.o).sent = (chanOf m.cs e.o).got) ∨ (e.k = 11 ∧ (chanOf m.cs e.o).sent ≠ (chanOf m.cs e.o).got) then 8
  else if e.k = 7 ∧ (chanOf m.cs e.o).sent = 1000000 then 9
  else 0
/-- Gor, Obj of a go, With of a meeting: is one of them no goroutine that it can be? -/
def gorBad (m : Scn) (e : Ev) : Prop := m.g ≤ e.g ∨ (e.k = 1 ∧ e.o ≠ m.g) ∨ (e.k = 9 ∧ (m.g ≤ e.w ∨ e.w = e.g))
instance (m : Scn) (e : Ev) : Decidable (gorBad m e) := by unfold gorBad; exact inferInstance
def restCode (m : Scn) (e : Ev) : Int :=
  if 2 ≤ e.k ∧ e.k ≤ 5 then lockCode m e
  else if 6 ≤ e.k ∧ e.k ≤ 11 then chanCode m e
  else if e.k = 13 then (if countOf m.gs e.o = 0 then 9 else 0)
  else if e.k = 14 then (if countOf m.gs e.o = 0 then 0 else 9)
  else if e.k = 12 then (if 1000000 < countOf m.gs e.o + e.s then 9 else 0)
  else if e.k = 15 ∨ e.k = 16 then (if memB m.os e.o = decide (e.k = 15) then 10 else 0)
  else 0
def codeIn (m : Scn) (e : Ev) : Int :=
  if evOk e = false ∨ scB m = false then 1 else if gorBad m e then 2 else restCode m e

/-- One put in its place in a list that rises by key: in the place of the one that has it, if there is one. -/
def setS {α : Type} (key : α → Int) (x : α) (a : List α × Bool) (y : α) : List α × Bool :=
  let a1 := if !a.2 && decide (key x ≤ key y) then (a.1 ++ [x], true) else a
  if key y = key x then a1 else (a1.1 ++ [y], a1.2)
def setP {α : Type} (key : α → Int) (x : α) (put : Bool) (xs : List α) : List α × Bool := xs.foldl (setS key x) ([], put)
def setL {α : Type} (key : α → Int) (x : α) (put : Bool) (xs : List α) : List α := if (setP key x put xs).2 then (setP key x put xs).1 else (setP key x put xs).1 ++ [x]
theorem setP_step {α : Type} (key : α → Int) (x : α) (put : Bool) (xs : List α) (k : Nat) (hk : k < xs.length) : setP key x put (xs.take (k + 1)) = setS key x (setP key x put (xs.take k)) xs[k] := by
  rw [setP, List.take_succ_eq_append_getElem hk, List.foldl_append]
  rfl
/-- The four ways of a round. -/
theorem setS_in {α : Type} {key : α → Int} {x y : α} {out : List α} (h : key x < key y) : setS key x (out, false) y = (out ++ [x] ++ [y], true) := by
  unfold setS
  have h1 : key x ≤ key y := by omega
  have h2 : ¬ key y = key x := by omega
  simp [h1, h2]
theorem setS_at {α : Type} {key : α → Int} {x y : α} {out : List α} (h : key y = key x) : setS key x (out, false) y = (out ++ [x], true) := by
  unfold setS
  simp [h]
theorem setS_on {α : Type} {key : α → Int} {x y : α} {out : List α} (h : key y < key x) : setS key x (out, false) y = (out ++ [y], false) := by
  unfold setS
  have h1 : ¬ key x ≤ key y := by omega
  have h2 : ¬ key y = key x := by omega
  simp [h1, h2]
theorem setS_by {α : Type} {key : α → Int} {x y : α} {out : List α} (h : key y = key x) : setS key x (out, true) y = (out, true) := by
  unfold setS
  simp [h]
theorem setS_go {α : Type} {key : α → Int} {x y : α} {out : List α} (h : key y ≠ key x) : setS key x (out, true) y = (out ++ [y], true) := by
  unfold setS
  simp [h]
theorem setS_len {α : Type} (key : α → Int) (x : α) (a : List α × Bool) (y : α) : (setS key x a y).1.length ≤ a.1.length + 2 := by
  unfold setS
  dsimp only
  split <;> split <;> simp
theorem setP_len {α : Type} (key : α → Int) (x : α) (put : Bool) (xs : List α) (k : Nat) (hk : k ≤ xs.length) : (setP key x put (xs.take k)).1.length ≤ 2 * k := by
  induction k with
  | zero => simp [setP]
  | succ k ih =>
    have := ih (by omega)
    have h2 := setS_len key x (setP key x put (xs.take k)) (xs[k]'(by omega))
    rw [setP_step key x put xs k (by omega)]
    omega

/-- A channel after an event; a lock after one. -/
def chanTo (m : Scn) (e : Ev) : Ch :=
  if e.k = 6 then { chanOf m.cs e.o with cap := e.s }
  else if e.k = 7 then { chanOf m.cs e.o with sent := (chanOf m.cs e.o).sent + 1 }
  else if e.k = 8 then { chanOf m.cs e.o with got := (chanOf m.cs e.o).got + 1 }
  else { chanOf m.cs e.o with cl := true }
def lockTo (m : Scn) (e : Ev) : Lk :=
  if e.k = 2 then { lockOf m.ls e.o with wr := e.g }
  else if e.k = 3 then { lockOf m.ls e.o with wr := -1 }
  else if e.k = 4 then { lockOf m.ls e.o with rd := withL (lockOf m.ls e.o).rd e.g }
  else { lockOf m.ls e.o with rd := outL (lockOf m.ls e.o).rd e.g }
/-- Nobody has it. -/
def lkFree (l : Lk) : Bool := decide (l.wr < 0) && decide (l.rd.length = 0)
def setLk (m : Scn) (l : Lk) : Scn := { m with ls := setL Lk.o l (lkFree l) m.ls }
def setCh (m : Scn) (c : Ch) : Scn := { m with cs := setL Ch.o c false m.cs }
def setCt (m : Scn) (o n : Int) : Scn := { m with gs := setL Ct.o ⟨o, n⟩ (n == 0) m.gs }
/-- What an event makes of a scene. -/
def doS (m : Scn) (e : Ev) : Scn :=
  if e.k = 1 then { m with g := m.g + 1 }
  else if 2 ≤ e.k ∧ e.k ≤ 5 then setLk m (lockTo m e)
  else if 6 ≤ e.k ∧ e.k ≤ 8 ∨ e.k = 10 then setCh m (chanTo m e)
  else if e.k = 12 then setCt m e.o (countOf m.gs e.o + e.s)
  else if e.k = 13 then setCt m e.o (countOf m.gs e.o - 1)
  else if e.k = 15 then { m with os := withL m.os e.o }
  else m
end Go.Proofs.YtikjodbboljhjaaGreatDoor
