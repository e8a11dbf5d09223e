/-
  What can be done in a scene, and what comes of it: the model.
-/
import Derived.Test.YtihdablgnmkjnaaGreatDoorPileAD
import Derived.Test.YtihdablgnmkjnaaGreatDoorPileAA
namespace Go.Proofs.YtihdablgnmkjnaaGreatDoor
open Go.RowKit

def lockCode (m : Scn) (e : Ev) : Int :=
  if e.k = 2 then (if 0 ≤ (lockOf m.ls e.o).wr ∨ 0 < (lockOf m.ls e.o).rd.length then 3 else 0)
  else if e.k = 4 then (if 0 ≤ (lockOf m.ls e.o).wr ∨ memB (lockOf m.ls e.o).rd e.g = true then 3 else 0)
  else if e.k = 3 then (if (lockOf m.ls e.o).wr = e.g then 0 else 4)
  else if e.k = 5 then (if memB (lockOf m.ls e.o).rd e.g = true then 0 else 4)
  else 0
def chanCode (m : Scn) (e : Ev) : Int :=
  if isChan m.cs e.o = decide (e.k = 6) then 5
  else if ((e.k = 7 ∨ e.k = 8) ∧ (chanOf m.cs e.o).cap = 0) ∨ (e.k = 9 ∧ (chanOf m.cs e.o).cap ≠ 0) then 5
  else if ((e.k = 7 ∨ e.k = 9 ∨ e.k = 10) ∧ (chanOf m.cs e.o).cl = true) ∨ (e.k = 11 ∧ (chanOf m.cs e.o).cl = false) then 6
  else if e.k = 7 ∧ (chanOf m.cs e.o).sent - (chanOf m.cs e.o).got = (chanOf m.cs e.o).cap then 7
  else if (e.k = 8 ∧ (chanOf m.cs e.o).sent = (chanOf m.cs e.o).got) ∨ (e.k = 11 ∧ (chanOf m.cs e.o).sent ≠ (chanOf m.cs e.o).got) then 8
  else if e.k = 7 ∧ (chanOf m.cs e.o).sent = 1000000 then 9
  else 0
/-- Gor, Obj of a go, With of a meeting: is one of them no goroutine that it can be? -/
def gorBad (m : Scn) (e : Ev) : Prop := m.g ≤ e.g ∨ (e.k = 1 ∧ e.o ≠ m.g) ∨ (e.k = 9 ∧ (m.g ≤ e.w ∨ e.w = e.g))
instance (m : Scn) (e : Ev) : Decidable (gorBad m e) := by unfold gorBad; exact inferInstance
def restCode (m : Scn) (e : Ev) : Int :=
  if 2 ≤ e.k ∧ e.k ≤ 5 then lockCode m e
  else if 6 ≤ e.k ∧ e.k ≤ 11 then chanCode m e
  else if e.k = 13 then (if countOf m.gs e.o = 0 then 9 else 0)
  else if e.k = 14 then (if countOf m.gs e.o = 0 then 0 else 9)
  else if e.k = 12 then (if 1000000 < countOf m.gs e.o + e.s then 9 else 0)
  else if e.k = 15 ∨ e.k = 16 then (if memB m.os e.o = decide (e.k = 15) then 10 else 0)
  else 0
def codeIn (m : Scn) (e : Ev) : Int :=
  if evOk e = false ∨ scB m = false then 1 else if gorBad m e then 2 else restCode m e

/-- One put in its place in a list that rises by key: in the place of the one that has it, if there is one. -/
def setS {α : Type} (key : α → Int) (x : α) (a : List α × Bool) (y : α) : List α × Bool :=
  let a1 := if !a.2 && decide (key x ≤ key y) then (a.1 ++ [x], true) else a
  if key y = key x then a1 else (a1.1 ++ [y], a1.2)
def setP {α : Type} (key : α → Int) (x : α) (put : Bool) (xs : List α) : List α × Bool := xs.foldl (setS key x) ([], put)
def setL {α : Type} (key : α → Int) (x : α) (put : Bool) (xs : List α) : List α := if (setP key x put xs).2 then (setP key x put xs).1 else (setP key x put xs).1 ++ [x]
theorem setP_step {α : Type} (key : α → Int) (x : α) (put : Bool) (xs : List α) (k : Nat) (hk : k < xs.length) : setP key x put (xs.take (k + 1)) = setS key x (setP key x put (xs.take k)) xs[k] := by
  rw [setP, List.take_succ_eq_append_getElem hk, List.foldl_append]
  rfl
/-- The four ways of a round. -/
theorem setS_in {α : Type} {key : α → Int} {x y : α} {out : List α} (h : key x < key y) : setS key x (out, false) y = (out ++ [x] ++ [y], true) := by
  unfold setS
  have h1 : key x ≤ key y := by omega
  have h2 : ¬ key y = key x := by omega
  simp [h1, h2]
theorem setS_at {α : Type} {key : α → Int} {x y : α} {out : List α} (h : key y = key x) : setS key x (out, false) y = (out ++ [x], true) := by
  unfold setS
  simp [h]
theorem setS_on {α : Type} {key : α → Int} {x y : α} {out : List α} (h : key y < key x) : setS key x (out, false) y = (out ++ [y], false) := by
  unfold setS
  have h1 : ¬ key x ≤ key y := by omega
  have h2 : ¬ key y = key x := by omega
  simp [h1, h2]
theorem setS_by {α : Type} {key : α → Int} {x y : α} {out : List α} (h : key y = key x) : setS key x (out, true) y = (out, true) := by
  unfold setS
  simp [h]
theorem setS_go {α : Type} {key : α → Int} {x y : α} {out : List α} (h : key y ≠ key x) : setS key x (out, true) y = (out ++ [y], true) := by
  unfold setS
  simp [h]
theorem setS_len {α : Type} (key : α → Int) (x : α) (a : List α × Bool) (y : α) : (setS key x a y).1.length ≤ a.1.length + 2 := by
  unfold setS
  dsimp only
  split <;> split <;> simp
theorem setP_len {α : Type} (key : α → Int) (x : α) (put : Bool) (xs : List α) (k : Nat) (hk : k ≤ xs.length) : (setP key x put (xs.take k)).1.length ≤ 2 * k := by
  induction k with
  | zero => simp [setP]
  | succ k ih =>
    have := ih (by omega)
    have h2 := setS_len key x (setP key x put (xs.take k)) (xs[k]'(by omega))
    rw [setP_step key x put xs k (by omega)]
    omega

/-- A channel after an event; a lock after one. -/
def chanTo (m : Scn) (e : Ev) : Ch :=
  if e.k = 6 then { chanOf m.cs e.o with cap := e.s }
  else if e.k = 7 then { chanOf m.cs e.o with sent := (chanOf m.cs e.o).sent + 1 }
  else if e.k = 8 then { chanOf m.cs e.o with got := (chanOf m.cs e.o).got + 1 }
  else { chanOf m.cs e.o with cl := true }
def lockTo (m : Scn) (e : Ev) : Lk :=
  if e.k = 2 then { lockOf m.ls e.o with wr := e.g }
  else if e.k = 3 then { lockOf m.ls e.o with wr := -1 }
  else if e.k = 4 then { lockOf m.ls e.o with rd := withL (lockOf m.ls e.o).rd e.g }
  else { lockOf m.ls e.o with rd := outL (lockOf m.ls e.o).rd e.g }
/-- Nobody has it. -/
def lkFree (l : Lk) : Bool := decide (l.wr < 0) && decide (l.rd.length = 0)
def setLk (m : Scn) (l : Lk) : Scn := { m with ls := setL Lk.o l (lkFree l) m.ls }
def setCh (m : Scn) (c : Ch) : Scn := { m with cs := setL Ch.o c false m.cs }
def setCt (m : Scn) (o n : Int) : Scn := { m with gs := setL Ct.o ⟨o, n⟩ (n == 0) m.gs }
/-- What an event makes of a scene. -/
def doS (m : Scn) (e : Ev) : Scn :=
  if e.k = 1 then { m with g := m.g + 1 }
  else if 2 ≤ e.k ∧ e.k ≤ 5 then setLk m (lockTo m e)
  else if 6 ≤ e.k ∧ e.k ≤ 8 ∨ e.k = 10 then setCh m (chanTo m e)
  else if e.k = 12 then setCt m e.o (countOf m.gs e.o + e.s)
  else if e.k = 13 then setCt m e.o (countOf m.gs e.o - 1)
  else if e.k = 15 then { m with os := withL m.os e.o }
  else m
end Go.Proofs.YtihdablgnmkjnaaGreatDoor
/-
  A block that is a scene; the blocks that a scene may lie in.
-/
namespace Go.Proofs.YtihdablgnmkjnaaGreatDoor
open Go.RowKit

/-- The blocks of B, and those that are new. -/
def Grew (B : Nat → Prop) (w w' : World) (b : Nat) : Prop := B b ∨ (w.heap.size ≤ b ∧ b < w'.heap.size)
theorem InB.mono {B B' : Nat → Prop} {ao : Option Addr} (h : InB B ao) (hB : ∀ b, B b → B' b) : InB B' ao := fun b e => hB b (h b e)
theorem LkR.mono {B B' : Nat → Prop} {w : World} {lv : Lv} {l : Lk} (h : LkR B w lv l) (hB : ∀ b, B b → B' b) : LkR B' w lv l :=
  ⟨h.o, h.wr, h.rn, h.rd, h.bl.mono hB, h.rc, h.sz, h.io, h.iw⟩
theorem LksR.mono {B B' : Nat → Prop} {w : World} {lvs : List Lv} {ls : List Lk} (h : LksR B w lvs ls) (hB : ∀ b, B b → B' b) : LksR B' w lvs ls :=
  ⟨h.len, fun j h1 h2 => (h.at_ j h1 h2).mono hB⟩
theorem ScR.mono {B B' : Nat → Prop} {w : World} {s : Sv} {m : Scn} (h : ScR B w s m) (hB : ∀ b, B b → B' b) : ScR B' w s m := by
  obtain ⟨lvs, h1, h2, h3⟩ := h.lks
  exact { h with lks := ⟨lvs, h1, h2, h3.mono hB⟩, bl := h.bl.mono hB, bc := h.bc.mono hB, bn := h.bn.mono hB, bo := h.bo.mono hB }
theorem Grew.old {B : Nat → Prop} {w w' : World} : ∀ b, B b → Grew B w w' b := fun _ h => .inl h
theorem Grew.trans {B : Nat → Prop} {w w1 w2 : World} (h : w.heap.size ≤ w1.heap.size) (h2 : w1.heap.size ≤ w2.heap.size) : ∀ b, Grew (Grew B w w1) w1 w2 b → Grew B w w2 b := by
  rintro b ((hb | ⟨h3, h4⟩) | ⟨h3, h4⟩)
  · exact .inl hb
  · exact .inr ⟨h3, by omega⟩
  · exact .inr ⟨by omega, h4⟩
theorem Grew.wide {B : Nat → Prop} {w w0 w1 w2 : World} (h : w0.heap.size ≤ w.heap.size) (h2 : w1.heap.size ≤ w2.heap.size) : ∀ b, Grew B w w1 b → Grew B w0 w2 b := by
  rintro b (hb | ⟨h3, h4⟩)
  · exact .inl hb
  · exact .inr ⟨by omega, by omega⟩

/-- A block that is a scene. -/
def ScK (w : World) (b : Nat) (s : Sv) : Prop := w.heap[b]? = some (.cells #[.int .i64 s.g, .slice s.lo s.ll s.lc, .slice s.co s.cl s.cc, .slice s.no s.nl s.nc, .slice s.oo s.ol s.oc] 29 (0, 0))
theorem ScK.lt {w : World} {b : Nat} {s : Sv} (h : ScK w b s) : b < w.heap.size := (Array.getElem?_eq_some_iff.1 h).1
theorem ScK.keep {w w' : World} {b : Nat} {s : Sv} {row : Option Nat} (h : ScK w b s) (k : w.grownBy w' row) (hr : row ≠ some b) : ScK w' b s := (k.block b h.lt (fun q => hr q.symm)).trans h
theorem ScK.fr {w w' : World} {b : Nat} {s : Sv} (h : ScK w b s) (k : Fr w w') : ScK w' b s := h.keep k (by simp)
theorem ScK.new (w : World) (s : Sv) : ScK (w.alloc (.cells #[.int .i64 s.g, .slice s.lo s.ll s.lc, .slice s.co s.cl s.cc, .slice s.no s.nl s.nc, .slice s.oo s.ol s.oc] 29)) w.heap.size s := heap_alloc_new w _
theorem ScK.at {w : World} {b : Nat} {s : Sv} (h : ScK w b s) : ScB w b s := by
  have h' : w.heap[b]? = some (.cells #[.int .i64 s.g, .slice s.lo s.ll s.lc, .slice s.co s.cl s.cc, .slice s.no s.nl s.nc, .slice s.oo s.ol s.oc] 29 (0, 0)) := h
  constructor <;> simp [World.cell?, h']
theorem ScK.free {w : World} {b : Nat} {s : Sv} (h : ScK w b s) (i : Nat) : w.frozen? ⟨b, i, none⟩ = false := frozen_of_row w b i _ _ h
theorem put5 (w : World) (r : Nat) (v0 v1 v2 v3 v4 : Value) :
    w.grownBy (((((w.setCell ⟨r, 0, none⟩ v0).setCell ⟨r, 1, none⟩ v1).setCell ⟨r, 2, none⟩ v2).setCell ⟨r, 3, none⟩ v3).setCell ⟨r, 4, none⟩ v4) (some r) :=
  grown_trans (grown_trans (grown_trans (grown_trans (grown_set _ r 0 _) (grown_set _ r 1 _)) (grown_set _ r 2 _)) (grown_set _ r 3 _)) (grown_set _ r 4 _)

/-- A block that is a lock; one that is a channel. -/
def LvK (w : World) (b : Nat) (l : Lv) : Prop := w.heap[b]? = some (.cells #[.int .i64 l.o, .int .i64 l.wr, .slice l.ro l.rn l.rc] 47 (0, 0))
theorem LvK.lt {w : World} {b : Nat} {l : Lv} (h : LvK w b l) : b < w.heap.size := (Array.getElem?_eq_some_iff.1 h).1
theorem LvK.keep {w w' : World} {b : Nat} {l : Lv} {row : Option Nat} (h : LvK w b l) (k : w.grownBy w' row) (hr : row ≠ some b) : LvK w' b l := (k.block b h.lt (fun q => hr q.symm)).trans h
theorem LvK.new (w : World) (l : Lv) : LvK (w.alloc (.cells #[.int .i64 l.o, .int .i64 l.wr, .slice l.ro l.rn l.rc] 47)) w.heap.size l := heap_alloc_new w _
theorem LvK.at {w : World} {b : Nat} {l : Lv} (h : LvK w b l) : w.cell? ⟨b, 0, none⟩ = some (.int .i64 l.o) ∧ w.cell? ⟨b, 1, none⟩ = some (.int .i64 l.wr) ∧ w.cell? ⟨b, 2, none⟩ = some (.slice l.ro l.rn l.rc) := by
  have h' : w.heap[b]? = some (.cells #[.int .i64 l.o, .int .i64 l.wr, .slice l.ro l.rn l.rc] 47 (0, 0)) := h
  refine ⟨?_, ?_, ?_⟩ <;> simp [World.cell?, h']
theorem LvK.free {w : World} {b : Nat} {l : Lv} (h : LvK w b l) (i : Nat) : w.frozen? ⟨b, i, none⟩ = false := frozen_of_row w b i _ _ h
theorem LvK.setW {w : World} {b : Nat} {l : Lv} (h : LvK w b l) (x : Int) : LvK (w.setCell ⟨b, 1, none⟩ (.int .i64 x)) b { l with wr := x } := by
  exact heap_setCell_same w b 1 _ _ (.int .i64 x) h
theorem LvK.setR {w : World} {b : Nat} {l : Lv} (h : LvK w b l) (ao : Option Addr) (n c : Nat) : LvK (w.setCell ⟨b, 2, none⟩ (.slice ao n c)) b { l with ro := ao, rn := n, rc := c } := by
  exact heap_setCell_same w b 2 _ _ (.slice ao n c) h
def ChK (w : World) (b : Nat) (c : Ch) : Prop := w.heap[b]? = some (.cells #[.int .i64 c.o, .int .i64 c.cap, .int .i64 c.sent, .int .i64 c.got, .bool c.cl] 87 (0, 0))
theorem ChK.lt {w : World} {b : Nat} {c : Ch} (h : ChK w b c) : b < w.heap.size := (Array.getElem?_eq_some_iff.1 h).1
theorem ChK.keep {w w' : World} {b : Nat} {c : Ch} {row : Option Nat} (h : ChK w b c) (k : w.grownBy w' row) (hr : row ≠ some b) : ChK w' b c := (k.block b h.lt (fun q => hr q.symm)).trans h
theorem ChK.new (w : World) (c : Ch) : ChK (w.alloc (.cells #[.int .i64 c.o, .int .i64 c.cap, .int .i64 c.sent, .int .i64 c.got, .bool c.cl] 87)) w.heap.size c := heap_alloc_new w _
theorem ChK.at {w : World} {b : Nat} {c : Ch} (h : ChK w b c) : w.cell? ⟨b, 0, none⟩ = some (.int .i64 c.o) ∧ w.cell? ⟨b, 1, none⟩ = some (.int .i64 c.cap) ∧ w.cell? ⟨b, 2, none⟩ = some (.int .i64 c.sent) ∧ w.cell? ⟨b, 3, none⟩ = some (.int .i64 c.got) ∧ w.cell? ⟨b, 4, none⟩ = some (.bool c.cl) := by
  have h' : w.heap[b]? = some (.cells #[.int .i64 c.o, .int .i64 c.cap, .int .i64 c.sent, .int .i64 c.got, .bool c.cl] 87 (0, 0)) := h
  refine ⟨?_, ?_, ?_, ?_, ?_⟩ <;> simp [World.cell?, h']
theorem ChK.free {w : World} {b : Nat} {c : Ch} (h : ChK w b c) (i : Nat) : w.frozen? ⟨b, i, none⟩ = false := frozen_of_row w b i _ _ h
theorem ChK.set1 {w : World} {b : Nat} {c : Ch} (h : ChK w b c) (x : Int) : ChK (w.setCell ⟨b, 1, none⟩ (.int .i64 x)) b { c with cap := x } := by
  exact heap_setCell_same w b 1 _ _ (.int .i64 x) h
theorem ChK.set2 {w : World} {b : Nat} {c : Ch} (h : ChK w b c) (x : Int) : ChK (w.setCell ⟨b, 2, none⟩ (.int .i64 x)) b { c with sent := x } := by
  exact heap_setCell_same w b 2 _ _ (.int .i64 x) h
theorem ChK.set3 {w : World} {b : Nat} {c : Ch} (h : ChK w b c) (x : Int) : ChK (w.setCell ⟨b, 3, none⟩ (.int .i64 x)) b { c with got := x } := by
  exact heap_setCell_same w b 3 _ _ (.int .i64 x) h
theorem ChK.set4 {w : World} {b : Nat} {c : Ch} (h : ChK w b c) (x : Bool) : ChK (w.setCell ⟨b, 4, none⟩ (.bool x)) b { c with cl := x } := by
  exact heap_setCell_same w b 4 _ _ (.bool x) h
theorem ScK.setG {w : World} {b : Nat} {s : Sv} (h : ScK w b s) (x : Int) : ScK (w.setCell ⟨b, 0, none⟩ (.int .i64 x)) b { s with g := x } := by
  exact heap_setCell_same w b 0 _ _ (.int .i64 x) h
theorem ScK.setO {w : World} {b : Nat} {s : Sv} (h : ScK w b s) (ao : Option Addr) (n c : Nat) : ScK (w.setCell ⟨b, 4, none⟩ (.slice ao n c)) b { s with oo := ao, ol := n, oc := c } := by
  exact heap_setCell_same w b 4 _ _ (.slice ao n c) h

end Go.Proofs.YtihdablgnmkjnaaGreatDoor
/-
  One object of a scene put in its place: a scene's own block; 'append' at counts, channels and locks; l4SetCount.
-/
namespace Go.Proofs.YtihdablgnmkjnaaGreatDoor
open Go.RowKit

theorem Tryz.infoN : (Tryz.prog.info? 90).map (fun i => (i.zero, i.size, i.bytes)) = some (some (.agg #[.int .i64 0, .int .i64 0]), 2, 16) := by kernel_rfl
theorem Tryz.infoC : (Tryz.prog.info? 87).map (fun i => (i.zero, i.size, i.bytes)) = some (some (.agg #[.int .i64 0, .int .i64 0, .int .i64 0, .int .i64 0, .bool false]), 5, 40) := by kernel_rfl
theorem Tryz.infoL : (Tryz.prog.info? 47).map (fun i => (i.zero, i.size, i.bytes)) = some (some (.agg #[.int .i64 0, .int .i64 0, .slice none 0 0]), 3, 40) := by kernel_rfl

theorem newN (w : World) (c : Ct) (k : Nat) (hk : k < 2) : (w.alloc (.cells #[.int .i64 c.o, .int .i64 c.n] 90)).cell? ⟨w.heap.size, k, none⟩ = (layN.cs c)[k]? := by
  match k, hk with
  | 0, _ => simp [go_sem, layN]
  | 1, _ => simp [go_sem, layN]
theorem newC (w : World) (c : Ch) (k : Nat) (hk : k < 5) : (w.alloc (.cells #[.int .i64 c.o, .int .i64 c.cap, .int .i64 c.sent, .int .i64 c.got, .bool c.cl] 87)).cell? ⟨w.heap.size, k, none⟩ = (layC.cs c)[k]? := by
  match k, hk with
  | 0, _ => simp [go_sem, layC]
  | 1, _ => simp [go_sem, layC]
  | 2, _ => simp [go_sem, layC]
  | 3, _ => simp [go_sem, layC]
  | 4, _ => simp [go_sem, layC]
theorem newL (w : World) (c : Lv) (k : Nat) (hk : k < 3) : (w.alloc (.cells #[.int .i64 c.o, .int .i64 c.wr, .slice c.ro c.rn c.rc] 47)).cell? ⟨w.heap.size, k, none⟩ = (layL.cs c)[k]? := by
  match k, hk with
  | 0, _ => simp [go_sem, layL]
  | 1, _ => simp [go_sem, layL]
  | 2, _ => simp [go_sem, layL]

theorem appN (w : World) {ops : Array Oper} {rest : List Oper} {o : Oper} {a : Act} {Q : Exit → Act → World → Prop} (hgd : o.guard = none) (s x : Operand)
    (ho : o.op = .call { callee := .builtin .append, args := #[s, x], argTypes := #[26, 26] }) (base : Nat) (v : Value) (xs : List Ct) (e : Ct) (hs : a.eval s = v)
    (hown : OwnG layN w base v xs) (hx : a.eval x = .slice (some ⟨w.heap.size, 0, none⟩) 1 1) (hlen : xs.length ≤ 16777215) (hbase : base ≤ w.heap.size)
    (h : ∀ v' w', OwnG layN w' base v' (xs ++ [e]) → (w.alloc (.cells #[.int .i64 e.o, .int .i64 e.n] 90)).grownBy w' v.ownBlock → wpList Tryz.prog ops Q rest (a.put o.dst v') w') :
    wpList Tryz.prog ops Q (o :: rest) a (w.alloc (.cells #[.int .i64 e.o, .int .i64 e.n] 90)) :=
  appG layN _ hgd s x _ _ _ ho Tryz.underlying26 Tryz.infoN rfl (by decide) base v xs e hs (hown.fr (Fr.alloc _ _)) _ _ hx (newN w e) hlen (Nat.le_trans hbase (Fr.alloc w _).size) (fun v' w' a b _ => h v' w' a b)
theorem appC (w : World) {ops : Array Oper} {rest : List Oper} {o : Oper} {a : Act} {Q : Exit → Act → World → Prop} (hgd : o.guard = none) (s x : Operand)
    (ho : o.op = .call { callee := .builtin .append, args := #[s, x], argTypes := #[25, 25] }) (base : Nat) (v : Value) (xs : List Ch) (e : Ch) (hs : a.eval s = v)
    (hown : OwnG layC w base v xs) (hx : a.eval x = .slice (some ⟨w.heap.size, 0, none⟩) 1 1) (hlen : xs.length ≤ 16777215) (hbase : base ≤ w.heap.size)
    (h : ∀ v' w', OwnG layC w' base v' (xs ++ [e]) → (w.alloc (.cells #[.int .i64 e.o, .int .i64 e.cap, .int .i64 e.sent, .int .i64 e.got, .bool e.cl] 87)).grownBy w' v.ownBlock → wpList Tryz.prog ops Q rest (a.put o.dst v') w') :
    wpList Tryz.prog ops Q (o :: rest) a (w.alloc (.cells #[.int .i64 e.o, .int .i64 e.cap, .int .i64 e.sent, .int .i64 e.got, .bool e.cl] 87)) :=
  appG layC _ hgd s x _ _ _ ho Tryz.underlying25 Tryz.infoC rfl (by decide) base v xs e hs (hown.fr (Fr.alloc _ _)) _ _ hx (newC w e) hlen (Nat.le_trans hbase (Fr.alloc w _).size) (fun v' w' a b _ => h v' w' a b)
theorem appL (w : World) {ops : Array Oper} {rest : List Oper} {o : Oper} {a : Act} {Q : Exit → Act → World → Prop} (hgd : o.guard = none) (s x : Operand)
    (ho : o.op = .call { callee := .builtin .append, args := #[s, x], argTypes := #[24, 24] }) (base : Nat) (v : Value) (xs : List Lv) (e : Lv) (hs : a.eval s = v)
    (hown : OwnG layL w base v xs) (hx : a.eval x = .slice (some ⟨w.heap.size, 0, none⟩) 1 1) (hlen : xs.length ≤ 16777215) (hbase : base ≤ w.heap.size)
    (h : ∀ v' w', OwnG layL w' base v' (xs ++ [e]) → (w.alloc (.cells #[.int .i64 e.o, .int .i64 e.wr, .slice e.ro e.rn e.rc] 47)).grownBy w' v.ownBlock → wpList Tryz.prog ops Q rest (a.put o.dst v') w') :
    wpList Tryz.prog ops Q (o :: rest) a (w.alloc (.cells #[.int .i64 e.o, .int .i64 e.wr, .slice e.ro e.rn e.rc] 47)) :=
  appG layL _ hgd s x _ _ _ ho Tryz.underlying24 Tryz.infoL rfl (by decide) base v xs e hs (hown.fr (Fr.alloc _ _)) _ _ hx (newL w e) hlen (Nat.le_trans hbase (Fr.alloc w _).size) (fun v' w' a b _ => h v' w' a b)

theorem setL_mem {α : Type} (key : α → Int) (x : α) (put : Bool) (xs : List α) : ∀ y ∈ setL key x put xs, y ∈ xs ∨ y = x := by
  have hP : ∀ (ys : List α) (a : List α × Bool), (∀ y ∈ (ys.foldl (setS key x) a).1, y ∈ a.1 ∨ y ∈ ys ∨ y = x) := by
    intro ys
    induction ys with
    | nil => intro a y hy; exact .inl hy
    | cons z zs ih =>
      intro a y hy
      rcases ih _ y hy with h | h | h
      · unfold setS at h
        dsimp only at h
        split at h <;> split at h <;> grind
      · exact .inr (.inl (List.mem_cons_of_mem _ h))
      · exact .inr (.inr h)
  intro y hy
  unfold setL at hy
  split at hy
  · rcases hP xs _ y hy with h | h | h
    · simp at h
    · exact .inl h
    · exact .inr h
  · rcases List.mem_append.1 hy with hy | hy
    · rcases hP xs _ y hy with h | h | h
      · simp at h
      · exact .inl h
      · exact .inr h
    · exact .inr (by simpa using hy)
theorem setL_len {α : Type} (key : α → Int) (x : α) (put : Bool) (xs : List α) : (setL key x put xs).length ≤ 2 * xs.length + 1 := by
  have := setP_len key x put xs xs.length (Nat.le_refl _)
  rw [List.take_length] at this
  unfold setL
  split
  · omega
  · simp; omega
theorem setL_in {α : Type} {key : α → Int} {x : α} {put : Bool} {xs ys : List α} (h : setP key x put xs = (ys, true)) : setL key x put xs = ys := by
  unfold setL; rw [h]; rfl
theorem setL_end {α : Type} {key : α → Int} {x : α} {put : Bool} {xs ys : List α} (h : setP key x put xs = (ys, false)) : setL key x put xs = ys ++ [x] := by
  unfold setL; rw [h]; rfl

/-- A boxed scene, another boxed argument, the answer's cell. -/
theorem box3 (w : World) (s : Sv) (o : Obj) :
    ScK (((w.alloc (.cells #[.int .i64 s.g, .slice s.lo s.ll s.lc, .slice s.co s.cl s.cc, .slice s.no s.nl s.nc, .slice s.oo s.ol s.oc] 29)).alloc o).alloc (.cells #[.int .i64 0, .slice none 0 0, .slice none 0 0, .slice none 0 0, .slice none 0 0] 29)) w.heap.size s ∧
    ScK (((w.alloc (.cells #[.int .i64 s.g, .slice s.lo s.ll s.lc, .slice s.co s.cl s.cc, .slice s.no s.nl s.nc, .slice s.oo s.ol s.oc] 29)).alloc o).alloc (.cells #[.int .i64 0, .slice none 0 0, .slice none 0 0, .slice none 0 0, .slice none 0 0] 29)) (w.heap.size + 2) ⟨0, none, 0, 0, none, 0, 0, none, 0, 0, none, 0, 0⟩ ∧
    Fr w (((w.alloc (.cells #[.int .i64 s.g, .slice s.lo s.ll s.lc, .slice s.co s.cl s.cc, .slice s.no s.nl s.nc, .slice s.oo s.ol s.oc] 29)).alloc o).alloc (.cells #[.int .i64 0, .slice none 0 0, .slice none 0 0, .slice none 0 0, .slice none 0 0] 29)) ∧
    (((w.alloc (.cells #[.int .i64 s.g, .slice s.lo s.ll s.lc, .slice s.co s.cl s.cc, .slice s.no s.nl s.nc, .slice s.oo s.ol s.oc] 29)).alloc o).alloc (.cells #[.int .i64 0, .slice none 0 0, .slice none 0 0, .slice none 0 0, .slice none 0 0] 29)).heap.size = w.heap.size + 3 ∧
    Fr ((w.alloc (.cells #[.int .i64 s.g, .slice s.lo s.ll s.lc, .slice s.co s.cl s.cc, .slice s.no s.nl s.nc, .slice s.oo s.ol s.oc] 29)).alloc o) (((w.alloc (.cells #[.int .i64 s.g, .slice s.lo s.ll s.lc, .slice s.co s.cl s.cc, .slice s.no s.nl s.nc, .slice s.oo s.ol s.oc] 29)).alloc o).alloc (.cells #[.int .i64 0, .slice none 0 0, .slice none 0 0, .slice none 0 0, .slice none 0 0] 29)) := by
  have f1 := Fr.alloc w (.cells #[.int .i64 s.g, .slice s.lo s.ll s.lc, .slice s.co s.cl s.cc, .slice s.no s.nl s.nc, .slice s.oo s.ol s.oc] 29)
  have f2 := Fr.alloc (w.alloc (.cells #[.int .i64 s.g, .slice s.lo s.ll s.lc, .slice s.co s.cl s.cc, .slice s.no s.nl s.nc, .slice s.oo s.ol s.oc] 29)) o
  have f3 := Fr.alloc ((w.alloc (.cells #[.int .i64 s.g, .slice s.lo s.ll s.lc, .slice s.co s.cl s.cc, .slice s.no s.nl s.nc, .slice s.oo s.ol s.oc] 29)).alloc o) (.cells #[.int .i64 0, .slice none 0 0, .slice none 0 0, .slice none 0 0, .slice none 0 0] 29)
  refine ⟨(ScK.new w s).fr (f2.trans f3), ?_, (f1.trans f2).trans f3, by simp, f3⟩
  have := ScK.new ((w.alloc (.cells #[.int .i64 s.g, .slice s.lo s.ll s.lc, .slice s.co s.cl s.cc, .slice s.no s.nl s.nc, .slice s.oo s.ol s.oc] 29)).alloc o) ⟨0, none, 0, 0, none, 0, 0, none, 0, 0, none, 0, 0⟩
  simpa using this

/-- The end of a setting: a field of the boxed scene is written, then the answer's cell. -/
theorem set_fin {α : Type} {L : Lay α} {w W w4 : World} {b0 rb i : Nat} {v x v0 v1 v2 v3 v4 : Value} {xs : List α} (fW : Fr w W) (f4 : Fr W w4) (hb : w.heap.size ≤ b0) (hr : w.heap.size ≤ rb) (hb2 : b0 < W.heap.size) (hr2 : rb < W.heap.size) (ho : OwnG L w4 W.heap.size v xs) :
    Fr w ((((((w4.setCell ⟨b0, i, none⟩ x).setCell ⟨rb, 0, none⟩ v0).setCell ⟨rb, 1, none⟩ v1).setCell ⟨rb, 2, none⟩ v2).setCell ⟨rb, 3, none⟩ v3).setCell ⟨rb, 4, none⟩ v4) ∧
    OwnG L ((((((w4.setCell ⟨b0, i, none⟩ x).setCell ⟨rb, 0, none⟩ v0).setCell ⟨rb, 1, none⟩ v1).setCell ⟨rb, 2, none⟩ v2).setCell ⟨rb, 3, none⟩ v3).setCell ⟨rb, 4, none⟩ v4) W.heap.size v xs := by
  have k1 := grown_set w4 b0 i x
  have k2 := put5 (w4.setCell ⟨b0, i, none⟩ x) rb v0 v1 v2 v3 v4
  have hk := ho.blk
  refine ⟨((fW.trans f4).then k1 (one_blk hb)).then k2 (one_blk hr), (ho.keep k1 ?_).keep k2 ?_⟩
  · intro e; have := hk _ e; omega
  · intro e; have := hk _ e; omega
theorem OwnG.at {α : Type} {L : Lay α} {w : World} {base g n cap : Nat} {xs : List α} (h : OwnG L w base (.slice (some ⟨g, 0, none⟩) n cap) xs) : ReadsG L w (some ⟨g, 0, none⟩) xs ∧ n = xs.length ∧ base ≤ g := by
  have hk := h.blk g rfl
  obtain ⟨g', cap', e, ho, hl⟩ := h
  simp at e
  obtain ⟨rfl, rfl, rfl⟩ := e
  exact ⟨own_readsG ho hl, rfl, hk⟩

/-- A scene with other counts, other channels, other locks. -/
theorem ScR.counts {B : Nat → Prop} {w w' : World} {s : Sv} {m : Scn} {o n : Int} {c g l : Nat} (h : ScR B w s m) (f : Fr w w') (hB : B g) (ho : I64 o) (hn : I64 n) (hl : m.gs.length ≤ 1000)
    (hr : ReadsG layN w' (some ⟨g, 0, none⟩) (setCt m o n).gs) (hlen : l = (setCt m o n).gs.length) : ScR B w' { s with no := some ⟨g, 0, none⟩, nl := l, nc := c } (setCt m o n) := by
  have h' := h.fr f
  have h2 := setL_len Ct.o ⟨o, n⟩ (n == 0) m.gs
  have h3 := setL_mem Ct.o ⟨o, n⟩ (n == 0) m.gs
  refine { h' with cts := hr, nl := hlen, bn := ?_, sn := ?_, inn := ?_ }
  · intro b hb
    simp only [blk, Option.map_some, Option.some.injEq] at hb
    subst hb
    exact hB
  · show (setL Ct.o ⟨o, n⟩ (n == 0) m.gs).length ≤ 1048576
    omega
  · intro y hy
    rcases h3 y hy with hy | rfl
    · exact h.inn y hy
    · exact ⟨ho, hn⟩
end Go.Proofs.YtihdablgnmkjnaaGreatDoor
/-
  Is a scene right: SceneOk of the specification.
-/
namespace Go.Proofs.YtihdablgnmkjnaaGreatDoor
open Go.RowKit

set_option maxRecDepth 20000 in
set_option maxHeartbeats 3000000 in
theorem sceneOk_any {B : Nat → Prop} (s : Sv) (m : Scn) (w : World) (h : ScR B w s m) :
    Calls Tryz.prog 13 #[.agg #[.int .i64 s.g, .slice s.lo s.ll s.lc, .slice s.co s.cl s.cc, .slice s.no s.nl s.nc, .slice s.oo s.ol s.oc]] w fun e w' => e = .returned (.bool (scB m)) ∧ Fr w w' := by
  have hb0 := ScB.new w s
  have hR := h.fr (Fr.alloc w (.cells #[.int .i64 s.g, .slice s.lo s.ll s.lc, .slice s.co s.cl s.cc, .slice s.no s.nl s.nc, .slice s.oo s.ol s.oc] 29))
  have fW := Fr.alloc w (.cells #[.int .i64 s.g, .slice s.lo s.ll s.lc, .slice s.co s.cl s.cc, .slice s.no s.nl s.nc, .slice s.oo s.ol s.oc] 29)
  obtain ⟨g, lo, ll, lc, co, cl, cc, no, nl, nc, oo, ol, oc⟩ := s
  have eg := h.g
  simp only at eg hb0 hR fW ⊢
  have c0 := hb0.c0
  simp only at c0
  unfold scB
  obtain ⟨RC, hRC⟩ : ∃ RC, RC = (rowB chB Ch.o m.cs && (rowB ctB Ct.o m.gs && rowB (inB 0 15) (fun x => x) m.os)) := ⟨_, rfl⟩
  rw [← hRC]
  have HRC : Hid (RC = (rowB chB Ch.o m.cs && (rowB ctB Ct.o m.gs && rowB (inB 0 15) (fun x => x) m.os))) := hRC
  clear hRC
  rw [← eg]
  have HG : Hid (g = m.g) := eg
  clear eg
  cases hg : inB 1 16 g
  · go_enter Tryz.func13, Tryz.ntmps13
    go_wp2_with (go_at_call 49; refine (l1In_any _ _ _ _).mono ?_; rintro e w' ⟨rfl, rfl⟩)
    go_ret
    exact ⟨rfl, fW⟩
  have gr := inB_true hg
  go_enter Tryz.func13, Tryz.ntmps13
  go_wp2_with (go_at_call 49; refine (l1In_any _ _ _ _).mono ?_; rintro e w' ⟨rfl, rfl⟩)
  clear c0 hg h
  obtain ⟨W, hW⟩ : ∃ W, W = w.alloc (.cells #[.int .i64 g, .slice lo ll lc, .slice co cl cc, .slice no nl nc, .slice oo ol oc] 29) := ⟨_, rfl⟩
  rw [← hW] at hb0 hR fW ⊢
  obtain ⟨b0, hbb⟩ : ∃ b0, b0 = w.heap.size := ⟨_, rfl⟩
  rw [← hbb] at hb0 ⊢
  clear hW hbb
  go_loopw [3] (fun i wr => ∃ k : Nat, k ≤ ll ∧ i = .int .i64 k ∧ Hid (∀ j, j < k → rowAt (lkB g) Lk.o m.ls j = true) ∧ ScB wr b0 ⟨g, lo, ll, lc, co, cl, cc, no, nl, nc, oo, ol, oc⟩ ∧ ScR B wr ⟨g, lo, ll, lc, co, cl, cc, no, nl, nc, oo, ol, oc⟩ m ∧ Fr w wr) (fun i _ => ll - (intOf i).toNat)
  case atStart => exact ⟨0, Nat.zero_le _, rfl, fun j hj => by omega, hb0, hR, fW⟩
  case round =>
    clear hb0 hR fW
    obtain ⟨k, hk, rfl, HA, hb0, hR, fW⟩ := hrel
    obtain ⟨lvs, hr, hn, hL⟩ := hR.lks
    have hsl := hR.sl
    have hlen := hL.len
    simp only at hr hn
    have hll : ll ≤ 1048576 := by omega
    by_cases hlt : k < ll
    · have hk2 : k < m.ls.length := by omega
      have hk1 : k < lvs.length := by omega
      obtain ⟨b, off, rfl, d0, d1, d2⟩ := lv_at hr k hk1
      have hLk := hL.at_ k hk1 hk2
      have HO : Hid (lvs[k].o = m.ls[k].o) := hLk.o
      have cL := fun (s : Later wr) => l4Lock_any g lvs[k] m.ls[k] s.u gr.1 gr.2 (hLk.fr s.fr)
      obtain ⟨lv, hlv⟩ : ∃ lv, lv = lvs[k] := ⟨_, rfl⟩
      simp only [← hlv] at d0 d1 d2 HO cL
      clear hlv hLk
      have cc0 := hb0.c0
      have cc1 := hb0.c1
      simp only at cc0 cc1
      have q0 : ∀ s : Later wr, s.u.cell? ⟨b0, 0, none⟩ = some (.int .i64 g) := fun s => s.fr.cell cc0
      have q1 : ∀ s : Later wr, s.u.cell? ⟨b0, 1, none⟩ = some (.slice (some ⟨b, off, none⟩) ll lc) := fun s => s.fr.cell cc1
      have := Later.some wr
      cases hgood : lkB g m.ls[k]
      · have HF : Hid (rowB (lkB g) Lk.o m.ls = false) := rowB_no hk2 (rowAt_bad hk2 (hgood))
        simp only [hgood] at cL
        have p0 : ∀ s : Later wr, s.u.cell? ⟨b, off + k * 3, none⟩ = some (.int .i64 lv.o) := fun s => s.fr.cell d0
        have p1 : ∀ s : Later wr, s.u.cell? ⟨b, off + k * 3 + 1, none⟩ = some (.int .i64 lv.wr) := fun s => s.fr.cell d1
        have p2 : ∀ s : Later wr, s.u.cell? ⟨b, off + k * 3 + 2, none⟩ = some (.slice lv.ro lv.rn lv.rc) := fun s => s.fr.cell d2
        clear hn hlen hgood hr
        go_wp2_with fail
        refine wp_region_grown (by kernel_rfl) (by kernel_rfl) ?_
        repeat (go_big_quiet_step (with_reducible exact Calls.grown_of (cL _)))
        refine wpQuiet_nil ?_
        rintro _ ⟨s, rfl⟩
        go_wp2_with fail
        go_ret
        exact ⟨ret_bool (by rw [HF.out]; rfl), fW.trans s.fr⟩
      simp only [hgood] at cL
      cases k with
      | zero =>
        have HT : Hid (rowAt (lkB g) Lk.o m.ls 0 = true) := rowAt_zero hk2 (by exact hgood)
        simp only [Nat.zero_mul, Nat.add_zero] at d0 d1 d2
        have p0 : ∀ s : Later wr, s.u.cell? ⟨b, off, none⟩ = some (.int .i64 lv.o) := fun s => s.fr.cell d0
        have p1 : ∀ s : Later wr, s.u.cell? ⟨b, off + 1, none⟩ = some (.int .i64 lv.wr) := fun s => s.fr.cell d1
        have p2 : ∀ s : Later wr, s.u.cell? ⟨b, off + 2, none⟩ = some (.slice lv.ro lv.rn lv.rc) := fun s => s.fr.cell d2
        clear hn hlen hgood hr
        go_wp2_with fail
        have hd : decide ((0 : Int) < 0) = false := by decide
        refine wp_region_grown (by kernel_rfl) (by kernel_rfl) ?_
        repeat (go_big_quiet_step (with_reducible exact Calls.grown_of (cL _)))
        refine wpQuiet_nil ?_
        rintro _ ⟨s, rfl⟩
        go_wp2_with fail
        go_roundw
        case rel => exact ⟨1, by omega, by go_num, rowAt_next HA.out HT.out, hb0.keep s.fr (by simp), hR.fr s.fr, fW.trans s.fr⟩
        case measure => simp [intOf]; omega
      | succ k =>
        obtain ⟨b', off', e', t0, -, -⟩ := lv_at hr k (by omega)
        simp only [Option.some.injEq, Addr.mk.injEq, and_true] at e'
        obtain ⟨rfl, rfl⟩ := e'
        have HY : Hid (lvs[k].o = m.ls[k].o) := (hL.at_ k (by omega) (by omega)).o
        obtain ⟨y, hy⟩ : ∃ y, y = lvs[k].o := ⟨_, rfl⟩
        rw [← hy] at t0 HY
        clear hy
        have hwk : IntKind.i64.wrap (((k + 1 : Nat) : Int) - 1) = (k : Int) := by rw [IntKind.wrap_i64]; omega
        have t1 : ∀ s : Later wr, s.u.cell? ⟨b, off + k * 3, none⟩ = some (.int .i64 y) := fun s => s.fr.cell t0
        have p0 : ∀ s : Later wr, s.u.cell? ⟨b, off + (k + 1) * 3, none⟩ = some (.int .i64 lv.o) := fun s => s.fr.cell d0
        have p1 : ∀ s : Later wr, s.u.cell? ⟨b, off + (k + 1) * 3 + 1, none⟩ = some (.int .i64 lv.wr) := fun s => s.fr.cell d1
        have p2 : ∀ s : Later wr, s.u.cell? ⟨b, off + (k + 1) * 3 + 2, none⟩ = some (.slice lv.ro lv.rn lv.rc) := fun s => s.fr.cell d2
        by_cases hle : lv.o ≤ y
        · have HF : Hid (rowB (lkB g) Lk.o m.ls = false) := rowB_no hk2 (rowAt_down hk2 (by have := HO.out; have := HY.out; omega))
          clear hn hlen hgood hr HY
          go_wp2_with fail
          refine wp_region_grown (by kernel_rfl) (by kernel_rfl) ?_
          repeat (go_big_quiet_step (with_reducible exact Calls.grown_of (cL _)))
          refine wpQuiet_nil ?_
          rintro _ ⟨s, rfl⟩
          go_wp2_with fail
          go_ret
          exact ⟨ret_bool (by rw [HF.out]; rfl), fW.trans s.fr⟩
        · have HT : Hid (rowAt (lkB g) Lk.o m.ls (k + 1) = true) := rowAt_up hk2 (by exact hgood) (by have := HO.out; have := HY.out; omega)
          have hle' : y < lv.o := by omega
          clear hn hlen hgood hr HY
          go_wp2_with fail
          refine wp_region_grown (by kernel_rfl) (by kernel_rfl) ?_
          repeat (go_big_quiet_step (with_reducible exact Calls.grown_of (cL _)))
          refine wpQuiet_nil ?_
          rintro _ ⟨s, rfl⟩
          go_wp2_with fail
          go_roundw
          case rel => exact ⟨k + 2, by omega, by go_num, rowAt_next HA.out HT.out, hb0.keep s.fr (by simp), hR.fr s.fr, fW.trans s.fr⟩
          case measure => simp [intOf]; omega
    · have HT1 : Hid (rowB (lkB g) Lk.o m.ls = true) := rowB_yes (fun j hj => HA.out j (by omega))
      have ca := hb0.c0
      have cb := hb0.c1
      have cd := hb0.c2
      simp only at ca cb cd
      clear hr hn hL hlen
      go_wp2_with fail
      clear ca cb cd HA hlt hk
      go_loopw [4] (fun i wr => ∃ k : Nat, k ≤ cl ∧ i = .int .i64 k ∧ Hid (∀ j, j < k → rowAt chB Ch.o m.cs j = true) ∧ ScB wr b0 ⟨g, lo, ll, lc, co, cl, cc, no, nl, nc, oo, ol, oc⟩ ∧ ScR B wr ⟨g, lo, ll, lc, co, cl, cc, no, nl, nc, oo, ol, oc⟩ m ∧ Fr w wr) (fun i _ => cl - (intOf i).toNat)
      case atStart => exact ⟨0, Nat.zero_le _, rfl, fun j hj => by omega, hb0, hR, fW⟩
      case round =>
        clear hb0 hR fW
        obtain ⟨k, hk, rfl, HA, hb0, hR, fW⟩ := hrel
        have hn := hR.cl
        have hsl := hR.sc
        simp only at hn
        have hll : cl ≤ 1048576 := by omega
        by_cases hlt : k < cl
        · have hk2 : k < m.cs.length := by omega
          obtain ⟨b, off, rfl, d0, d1, d2, d3, d4⟩ := ch_at hR.chs k hk2
          obtain ⟨c, hc⟩ : ∃ c, c = m.cs[k] := ⟨_, rfl⟩
          rw [← hc] at d0 d1 d2 d3 d4
          have HZ : Hid (c = m.cs[k]) := hc
          have cC := fun w => l4Chan_any c w
          clear hc
          have cc0 := hb0.c0
          have cc1 := hb0.c2
          simp only at cc0 cc1
          have q0 : ∀ s : Later wr, s.u.cell? ⟨b0, 0, none⟩ = some (.int .i64 g) := fun s => s.fr.cell cc0
          have q1 : ∀ s : Later wr, s.u.cell? ⟨b0, 2, none⟩ = some (.slice (some ⟨b, off, none⟩) cl cc) := fun s => s.fr.cell cc1
          have := Later.some wr
          cases hgood : chB c
          · have HF : Hid (rowB chB Ch.o m.cs = false) := rowB_no hk2 (rowAt_bad hk2 (by rw [← HZ.out]; exact hgood))
            simp only [hgood] at cC
            have p0 : ∀ s : Later wr, s.u.cell? ⟨b, off + k * 5, none⟩ = some (.int .i64 c.o) := fun s => s.fr.cell d0
            have p1 : ∀ s : Later wr, s.u.cell? ⟨b, off + k * 5 + 1, none⟩ = some (.int .i64 c.cap) := fun s => s.fr.cell d1
            have p2 : ∀ s : Later wr, s.u.cell? ⟨b, off + k * 5 + 2, none⟩ = some (.int .i64 c.sent) := fun s => s.fr.cell d2
            have p3 : ∀ s : Later wr, s.u.cell? ⟨b, off + k * 5 + 3, none⟩ = some (.int .i64 c.got) := fun s => s.fr.cell d3
            have p4 : ∀ s : Later wr, s.u.cell? ⟨b, off + k * 5 + 4, none⟩ = some (.bool c.cl) := fun s => s.fr.cell d4
            clear hn hgood
            go_wp2_with fail
            refine wp_region_grown (by kernel_rfl) (by kernel_rfl) ?_
            repeat (go_big_quiet_step (with_reducible exact Calls.grown_of (cC _)))
            refine wpQuiet_nil ?_
            rintro _ ⟨s, rfl⟩
            go_wp2_with fail
            go_ret
            exact ⟨ret_bool (by rw [HRC.out, HT1.out, HF.out]; rfl), fW.trans s.fr⟩
          simp only [hgood] at cC
          cases k with
          | zero =>
            have HT : Hid (rowAt chB Ch.o m.cs 0 = true) := rowAt_zero hk2 (by rw [← HZ.out]; exact hgood)
            simp only [Nat.zero_mul, Nat.add_zero] at d0 d1 d2 d3 d4
            have p0 : ∀ s : Later wr, s.u.cell? ⟨b, off, none⟩ = some (.int .i64 c.o) := fun s => s.fr.cell d0
            have p1 : ∀ s : Later wr, s.u.cell? ⟨b, off + 1, none⟩ = some (.int .i64 c.cap) := fun s => s.fr.cell d1
            have p2 : ∀ s : Later wr, s.u.cell? ⟨b, off + 2, none⟩ = some (.int .i64 c.sent) := fun s => s.fr.cell d2
            have p3 : ∀ s : Later wr, s.u.cell? ⟨b, off + 3, none⟩ = some (.int .i64 c.got) := fun s => s.fr.cell d3
            have p4 : ∀ s : Later wr, s.u.cell? ⟨b, off + 4, none⟩ = some (.bool c.cl) := fun s => s.fr.cell d4
            clear hn hgood
            go_wp2_with fail
            have hd : decide ((0 : Int) < 0) = false := by decide
            refine wp_region_grown (by kernel_rfl) (by kernel_rfl) ?_
            repeat (go_big_quiet_step (with_reducible exact Calls.grown_of (cC _)))
            refine wpQuiet_nil ?_
            rintro _ ⟨s, rfl⟩
            go_wp2_with fail
            go_roundw
            case rel => exact ⟨1, by omega, by go_num, rowAt_next HA.out HT.out, hb0.keep s.fr (by simp), hR.fr s.fr, fW.trans s.fr⟩
            case measure => simp [intOf]; omega
          | succ k =>
            obtain ⟨b', off', e', t0, -⟩ := ch_at hR.chs k (by omega)
            simp only [Option.some.injEq, Addr.mk.injEq, and_true] at e'
            obtain ⟨rfl, rfl⟩ := e'
            obtain ⟨y, hy⟩ : ∃ y, y = (m.cs[k]'(by omega)).o := ⟨_, rfl⟩
            rw [← hy] at t0
            have HY : Hid (y = (m.cs[k]'(by omega)).o) := hy
            clear hy
            have hwk : IntKind.i64.wrap (((k + 1 : Nat) : Int) - 1) = (k : Int) := by rw [IntKind.wrap_i64]; omega
            have t1 : ∀ s : Later wr, s.u.cell? ⟨b, off + k * 5, none⟩ = some (.int .i64 y) := fun s => s.fr.cell t0
            have p0 : ∀ s : Later wr, s.u.cell? ⟨b, off + (k + 1) * 5, none⟩ = some (.int .i64 c.o) := fun s => s.fr.cell d0
            have p1 : ∀ s : Later wr, s.u.cell? ⟨b, off + (k + 1) * 5 + 1, none⟩ = some (.int .i64 c.cap) := fun s => s.fr.cell d1
            have p2 : ∀ s : Later wr, s.u.cell? ⟨b, off + (k + 1) * 5 + 2, none⟩ = some (.int .i64 c.sent) := fun s => s.fr.cell d2
            have p3 : ∀ s : Later wr, s.u.cell? ⟨b, off + (k + 1) * 5 + 3, none⟩ = some (.int .i64 c.got) := fun s => s.fr.cell d3
            have p4 : ∀ s : Later wr, s.u.cell? ⟨b, off + (k + 1) * 5 + 4, none⟩ = some (.bool c.cl) := fun s => s.fr.cell d4
            by_cases hle : c.o ≤ y
            · have HF : Hid (rowB chB Ch.o m.cs = false) := rowB_no hk2 (rowAt_down hk2 (by have := HY.out; rw [← HZ.out, ← HY.out]; omega))
              clear hn hgood HY
              go_wp2_with fail
              refine wp_region_grown (by kernel_rfl) (by kernel_rfl) ?_
              repeat (go_big_quiet_step (with_reducible exact Calls.grown_of (cC _)))
              refine wpQuiet_nil ?_
              rintro _ ⟨s, rfl⟩
              go_wp2_with fail
              go_ret
              exact ⟨ret_bool (by rw [HRC.out, HT1.out, HF.out]; rfl), fW.trans s.fr⟩
            · have HT : Hid (rowAt chB Ch.o m.cs (k + 1) = true) := rowAt_up hk2 (by rw [← HZ.out]; exact hgood) (by have := HY.out; rw [← HZ.out, ← HY.out]; omega)
              have hle' : y < c.o := by omega
              clear hn hgood HY
              go_wp2_with fail
              refine wp_region_grown (by kernel_rfl) (by kernel_rfl) ?_
              repeat (go_big_quiet_step (with_reducible exact Calls.grown_of (cC _)))
              refine wpQuiet_nil ?_
              rintro _ ⟨s, rfl⟩
              go_wp2_with fail
              go_roundw
              case rel => exact ⟨k + 2, by omega, by go_num, rowAt_next HA.out HT.out, hb0.keep s.fr (by simp), hR.fr s.fr, fW.trans s.fr⟩
              case measure => simp [intOf]; omega
        · have HT2 : Hid (rowB chB Ch.o m.cs = true) := rowB_yes (fun j hj => HA.out j (by omega))
          have ca := hb0.c0
          have cb := hb0.c2
          have cd := hb0.c3
          simp only at ca cb cd
          clear hn
          go_wp2_with fail
          clear ca cb cd HA hlt hk
          go_loopw [5] (fun i wr => ∃ k : Nat, k ≤ nl ∧ i = .int .i64 k ∧ Hid (∀ j, j < k → rowAt ctB Ct.o m.gs j = true) ∧ ScB wr b0 ⟨g, lo, ll, lc, co, cl, cc, no, nl, nc, oo, ol, oc⟩ ∧ ScR B wr ⟨g, lo, ll, lc, co, cl, cc, no, nl, nc, oo, ol, oc⟩ m ∧ Fr w wr) (fun i _ => nl - (intOf i).toNat)
          case atStart => exact ⟨0, Nat.zero_le _, rfl, fun j hj => by omega, hb0, hR, fW⟩
          case round =>
            clear hb0 hR fW
            obtain ⟨k, hk, rfl, HA, hb0, hR, fW⟩ := hrel
            have hn := hR.nl
            have hsl := hR.sn
            simp only at hn
            have hll : nl ≤ 1048576 := by omega
            by_cases hlt : k < nl
            · have hk2 : k < m.gs.length := by omega
              obtain ⟨b, off, rfl, d0, d1⟩ := ct_at hR.cts k hk2
              obtain ⟨c, hc⟩ : ∃ c, c = m.gs[k] := ⟨_, rfl⟩
              rw [← hc] at d0 d1
              have HZ : Hid (c = m.gs[k]) := hc
              have cO := fun w => l4Obj_any c.o w
              have cN := fun w => l1In_any c.n 1 1000000 w
              clear hc
              have cc0 := hb0.c0
              have cc1 := hb0.c3
              simp only at cc0 cc1
              have q0 : ∀ s : Later wr, s.u.cell? ⟨b0, 0, none⟩ = some (.int .i64 g) := fun s => s.fr.cell cc0
              have q1 : ∀ s : Later wr, s.u.cell? ⟨b0, 3, none⟩ = some (.slice (some ⟨b, off, none⟩) nl nc) := fun s => s.fr.cell cc1
              have := Later.some wr
              cases hg1 : inB 0 15 c.o
              · have HF : Hid (rowB ctB Ct.o m.gs = false) := rowB_no hk2 (rowAt_bad hk2 (by rw [← HZ.out, ctB, hg1]; rfl))
                first | simp only [hg2] at cN | simp only [hg1] at cO
                have p0 : ∀ s : Later wr, s.u.cell? ⟨b, off + k * 2, none⟩ = some (.int .i64 c.o) := fun s => s.fr.cell d0
                have p1 : ∀ s : Later wr, s.u.cell? ⟨b, off + k * 2 + 1, none⟩ = some (.int .i64 c.n) := fun s => s.fr.cell d1
                clear hn hg1
                go_wp2_with fail
                refine wp_region_grown (by kernel_rfl) (by kernel_rfl) ?_
                repeat (go_big_quiet_step (first | with_reducible exact Calls.grown_same (cO _) | with_reducible exact Calls.grown_same (cN _)))
                refine wpQuiet_nil ?_
                rintro _ ⟨s, rfl⟩
                go_wp2_with fail
                go_ret
                exact ⟨ret_bool (by rw [HRC.out, HT2.out, HT1.out, HF.out]; rfl), fW.trans s.fr⟩
              simp only [hg1] at cO
              cases hg2 : inB 1 1000000 c.n
              · have HF : Hid (rowB ctB Ct.o m.gs = false) := rowB_no hk2 (rowAt_bad hk2 (by rw [← HZ.out, ctB, hg1, hg2]; rfl))
                first | simp only [hg2] at cN | simp only [hg1] at cO
                have p0 : ∀ s : Later wr, s.u.cell? ⟨b, off + k * 2, none⟩ = some (.int .i64 c.o) := fun s => s.fr.cell d0
                have p1 : ∀ s : Later wr, s.u.cell? ⟨b, off + k * 2 + 1, none⟩ = some (.int .i64 c.n) := fun s => s.fr.cell d1
                clear hn hg1
                go_wp2_with fail
                refine wp_region_grown (by kernel_rfl) (by kernel_rfl) ?_
                repeat (go_big_quiet_step (first | with_reducible exact Calls.grown_same (cO _) | with_reducible exact Calls.grown_same (cN _)))
                refine wpQuiet_nil ?_
                rintro _ ⟨s, rfl⟩
                go_wp2_with fail
                go_ret
                exact ⟨ret_bool (by rw [HRC.out, HT2.out, HT1.out, HF.out]; rfl), fW.trans s.fr⟩
              simp only [hg2] at cN
              cases k with
              | zero =>
                have HT : Hid (rowAt ctB Ct.o m.gs 0 = true) := rowAt_zero hk2 (by rw [← HZ.out, ctB, hg1, hg2]; rfl)
                simp only [Nat.zero_mul, Nat.add_zero] at d0 d1
                have p0 : ∀ s : Later wr, s.u.cell? ⟨b, off, none⟩ = some (.int .i64 c.o) := fun s => s.fr.cell d0
                have p1 : ∀ s : Later wr, s.u.cell? ⟨b, off + 1, none⟩ = some (.int .i64 c.n) := fun s => s.fr.cell d1
                clear hn hg1
                go_wp2_with fail
                have hd : decide ((0 : Int) < 0) = false := by decide
                refine wp_region_grown (by kernel_rfl) (by kernel_rfl) ?_
                repeat (go_big_quiet_step (first | with_reducible exact Calls.grown_same (cO _) | with_reducible exact Calls.grown_same (cN _)))
                refine wpQuiet_nil ?_
                rintro _ ⟨s, rfl⟩
                go_wp2_with fail
                go_roundw
                case rel => exact ⟨1, by omega, by go_num, rowAt_next HA.out HT.out, hb0.keep s.fr (by simp), hR.fr s.fr, fW.trans s.fr⟩
                case measure => simp [intOf]; omega
              | succ k =>
                obtain ⟨b', off', e', t0, -⟩ := ct_at hR.cts k (by omega)
                simp only [Option.some.injEq, Addr.mk.injEq, and_true] at e'
                obtain ⟨rfl, rfl⟩ := e'
                obtain ⟨y, hy⟩ : ∃ y, y = (m.gs[k]'(by omega)).o := ⟨_, rfl⟩
                rw [← hy] at t0
                have HY : Hid (y = (m.gs[k]'(by omega)).o) := hy
                clear hy
                have hwk : IntKind.i64.wrap (((k + 1 : Nat) : Int) - 1) = (k : Int) := by rw [IntKind.wrap_i64]; omega
                have t1 : ∀ s : Later wr, s.u.cell? ⟨b, off + k * 2, none⟩ = some (.int .i64 y) := fun s => s.fr.cell t0
                have p0 : ∀ s : Later wr, s.u.cell? ⟨b, off + (k + 1) * 2, none⟩ = some (.int .i64 c.o) := fun s => s.fr.cell d0
                have p1 : ∀ s : Later wr, s.u.cell? ⟨b, off + (k + 1) * 2 + 1, none⟩ = some (.int .i64 c.n) := fun s => s.fr.cell d1
                by_cases hle : c.o ≤ y
                · have HF : Hid (rowB ctB Ct.o m.gs = false) := rowB_no hk2 (rowAt_down hk2 (by have := HY.out; rw [← HZ.out, ← HY.out]; omega))
                  clear hn hg1 HY
                  go_wp2_with fail
                  refine wp_region_grown (by kernel_rfl) (by kernel_rfl) ?_
                  repeat (go_big_quiet_step (first | with_reducible exact Calls.grown_same (cO _) | with_reducible exact Calls.grown_same (cN _)))
                  refine wpQuiet_nil ?_
                  rintro _ ⟨s, rfl⟩
                  go_wp2_with fail
                  go_ret
                  exact ⟨ret_bool (by rw [HRC.out, HT2.out, HT1.out, HF.out]; rfl), fW.trans s.fr⟩
                · have HT : Hid (rowAt ctB Ct.o m.gs (k + 1) = true) := rowAt_up hk2 (by rw [← HZ.out, ctB, hg1, hg2]; rfl) (by have := HY.out; rw [← HZ.out, ← HY.out]; omega)
                  have hle' : y < c.o := by omega
                  clear hn hg1 HY
                  go_wp2_with fail
                  refine wp_region_grown (by kernel_rfl) (by kernel_rfl) ?_
                  repeat (go_big_quiet_step (first | with_reducible exact Calls.grown_same (cO _) | with_reducible exact Calls.grown_same (cN _)))
                  refine wpQuiet_nil ?_
                  rintro _ ⟨s, rfl⟩
                  go_wp2_with fail
                  go_roundw
                  case rel => exact ⟨k + 2, by omega, by go_num, rowAt_next HA.out HT.out, hb0.keep s.fr (by simp), hR.fr s.fr, fW.trans s.fr⟩
                  case measure => simp [intOf]; omega
            · have HT3 : Hid (rowB ctB Ct.o m.gs = true) := rowB_yes (fun j hj => HA.out j (by omega))
              have ca := hb0.c0
              have cb := hb0.c3
              have cd := hb0.c4
              simp only at ca cb cd
              clear hn
              go_wp2_with fail
              clear ca cb cd HA hlt hk
              go_loopw [6] (fun i wr => ∃ k : Nat, k ≤ ol ∧ i = .int .i64 k ∧ Hid (∀ j, j < k → rowAt (inB 0 15) (fun x => x) m.os j = true) ∧ ScB wr b0 ⟨g, lo, ll, lc, co, cl, cc, no, nl, nc, oo, ol, oc⟩ ∧ ScR B wr ⟨g, lo, ll, lc, co, cl, cc, no, nl, nc, oo, ol, oc⟩ m ∧ Fr w wr) (fun i _ => ol - (intOf i).toNat)
              case atStart => exact ⟨0, Nat.zero_le _, rfl, fun j hj => by omega, hb0, hR, fW⟩
              case round =>
                clear hb0 hR fW
                obtain ⟨k, hk, rfl, HA, hb0, hR, fW⟩ := hrel
                have hn := hR.ol
                have hsl := hR.so
                simp only at hn
                have hll : ol ≤ 1048576 := by omega
                by_cases hlt : k < ol
                · have hk2 : k < m.os.length := by omega
                  obtain ⟨b, off, rfl, hc⟩ := hR.ons.at_ k hk2
                  have d0 := hc k hk2
                  rw [getD_at hk2] at d0
                  have HO : Hid (m.os[k] = m.os[k]) := rfl
                  obtain ⟨z, hz⟩ : ∃ z, z = m.os[k] := ⟨_, rfl⟩
                  rw [← hz] at d0
                  have HZ : Hid (z = m.os[k]) := hz
                  have cO := fun w => l4Obj_any z w
                  clear hz HO
                  have cc0 := hb0.c0
                  have cc1 := hb0.c4
                  simp only at cc0 cc1
                  have q0 : ∀ s : Later wr, s.u.cell? ⟨b0, 0, none⟩ = some (.int .i64 g) := fun s => s.fr.cell cc0
                  have q1 : ∀ s : Later wr, s.u.cell? ⟨b0, 4, none⟩ = some (.slice (some ⟨b, off, none⟩) ol oc) := fun s => s.fr.cell cc1
                  have := Later.some wr
                  cases hgood : inB 0 15 z
                  · have HF : Hid (rowB (inB 0 15) (fun x => x) m.os = false) := rowB_no hk2 (rowAt_bad hk2 (by rw [← HZ.out]; exact hgood))
                    simp only [hgood] at cO
                    have p0 : ∀ s : Later wr, s.u.cell? ⟨b, off + k, none⟩ = some (.int .i64 z) := fun s => s.fr.cell d0
                    clear hn hgood hc
                    go_wp2_with fail
                    refine wp_region_grown (by kernel_rfl) (by kernel_rfl) ?_
                    repeat (go_big_quiet_step (with_reducible exact Calls.grown_same (cO _)))
                    refine wpQuiet_nil ?_
                    rintro _ ⟨s, rfl⟩
                    go_wp2_with fail
                    go_ret
                    exact ⟨ret_bool (by rw [HRC.out, HT3.out, HT2.out, HT1.out, HF.out]; rfl), fW.trans s.fr⟩
                  simp only [hgood] at cO
                  cases k with
                  | zero =>
                    have HT : Hid (rowAt (inB 0 15) (fun x => x) m.os 0 = true) := rowAt_zero hk2 (by rw [← HZ.out]; exact hgood)
                    simp only [Nat.add_zero] at d0
                    have p0 : ∀ s : Later wr, s.u.cell? ⟨b, off, none⟩ = some (.int .i64 z) := fun s => s.fr.cell d0
                    clear hn hgood hc
                    go_wp2_with fail
                    have hd : decide ((0 : Int) < 0) = false := by decide
                    refine wp_region_grown (by kernel_rfl) (by kernel_rfl) ?_
                    repeat (go_big_quiet_step (with_reducible exact Calls.grown_same (cO _)))
                    refine wpQuiet_nil ?_
                    rintro _ ⟨s, rfl⟩
                    go_wp2_with fail
                    go_roundw
                    case rel => exact ⟨1, by omega, by go_num, rowAt_next HA.out HT.out, hb0.keep s.fr (by simp), hR.fr s.fr, fW.trans s.fr⟩
                    case measure => simp [intOf]; omega
                  | succ k =>
                    have t0 := hc k (by omega)
                    obtain ⟨y, hy⟩ : ∃ y, y = m.os.getD k 0 := ⟨_, rfl⟩
                    rw [← hy] at t0
                    rw [getD_at (show k < m.os.length by omega)] at hy
                    have HY : Hid (y = m.os[k]) := hy
                    clear hy
                    have hwk : IntKind.i64.wrap (((k + 1 : Nat) : Int) - 1) = (k : Int) := by rw [IntKind.wrap_i64]; omega
                    have t1 : ∀ s : Later wr, s.u.cell? ⟨b, off + k, none⟩ = some (.int .i64 y) := fun s => s.fr.cell t0
                    have p0 : ∀ s : Later wr, s.u.cell? ⟨b, off + (k + 1), none⟩ = some (.int .i64 z) := fun s => s.fr.cell d0
                    by_cases hle : z ≤ y
                    · have HF : Hid (rowB (inB 0 15) (fun x => x) m.os = false) := rowB_no hk2 (rowAt_down hk2 (by have := HZ.out; have := HY.out; omega))
                      clear hn hgood hc HY
                      go_wp2_with fail
                      refine wp_region_grown (by kernel_rfl) (by kernel_rfl) ?_
                      repeat (go_big_quiet_step (with_reducible exact Calls.grown_same (cO _)))
                      refine wpQuiet_nil ?_
                      rintro _ ⟨s, rfl⟩
                      go_wp2_with fail
                      go_ret
                      exact ⟨ret_bool (by rw [HRC.out, HT3.out, HT2.out, HT1.out, HF.out]; rfl), fW.trans s.fr⟩
                    · have HT : Hid (rowAt (inB 0 15) (fun x => x) m.os (k + 1) = true) := rowAt_up hk2 (by rw [← HZ.out]; exact hgood) (by have := HZ.out; have := HY.out; omega)
                      have hle' : y < z := by omega
                      clear hn hgood hc HY
                      go_wp2_with fail
                      refine wp_region_grown (by kernel_rfl) (by kernel_rfl) ?_
                      repeat (go_big_quiet_step (with_reducible exact Calls.grown_same (cO _)))
                      refine wpQuiet_nil ?_
                      rintro _ ⟨s, rfl⟩
                      go_wp2_with fail
                      go_roundw
                      case rel => exact ⟨k + 2, by omega, by go_num, rowAt_next HA.out HT.out, hb0.keep s.fr (by simp), hR.fr s.fr, fW.trans s.fr⟩
                      case measure => simp [intOf]; omega
                · have HT4 : Hid (rowB (inB 0 15) (fun x => x) m.os = true) := rowB_yes (fun j hj => HA.out j (by omega))
                  have ca := hb0.c4
                  simp only at ca
                  go_wp2_with fail
                  go_ret
                  exact ⟨ret_bool (by rw [HRC.out, HT4.out, HT3.out, HT2.out, HT1.out]; rfl), fW⟩
end Go.Proofs.YtihdablgnmkjnaaGreatDoor
