/-
  Pack AI: ScNew, ScMod, EvSpec, Evs, ScMark, Door, DoorEv.
-/
import Derived.Test.YtplnijpolkflcaaGreatDoorPqAF
import Derived.Test.YtplnijpolkflcaaGreatDoorPqAE
import Derived.Test.YtplnijpolkflcaaGreatDoorPqAH
import Derived.Laws.AppendOwnNone
import Derived.ProofKit
import Derived.LaidMore
import Derived.OpenShut
import Derived.Stop.Joined
import Derived.OpenVars
namespace Go.Proofs.YtplnijpolkflcaaGreatDoor
open Go.RowKit

def scn0 : Scn := ⟨1, [], [], [], []⟩
theorem inB_none (B : Nat → Prop) : InB B none := fun b hb => by simp [blk] at hb
theorem scR_new (B : Nat → Prop) (w : World) : ScR B w ⟨1, none, 0, 0, none, 0, 0, none, 0, 0, none, 0, 0⟩ scn0 where
  g := rfl
  ig := ⟨by decide, by decide⟩
  lks := ⟨[], ReadsG.nil _ _ _, rfl, LksR.nil _ _⟩
  chs := ReadsG.nil _ _ _
  cl := rfl
  cts := ReadsG.nil _ _ _
  nl := rfl
  ons := Reads.nil _ _
  ol := rfl
  bl := inB_none _
  bc := inB_none _
  bn := inB_none _
  bo := inB_none _
  zo _ := rfl
  sl := by simp [scn0]
  sc := by simp [scn0]
  sn := by simp [scn0]
  so := by simp [scn0]
  ic c hc := by simp [scn0] at hc
  inn c hc := by simp [scn0] at hc

theorem newScene_any (B : Nat → Prop) (w : World) :
    Calls Tryz.prog 185 #[] w fun e w' => ∃ s : Sv, e = .returned (.agg #[.int .i64 s.g, .slice s.lo s.ll s.lc, .slice s.co s.cl s.cc, .slice s.no s.nl s.nc, .slice s.oo s.ol s.oc]) ∧ ScR B w' s scn0 ∧ Fr w w' := by
  go_enter Tryz.func185, Tryz.ntmps185
  go_wp2
  refine bodyPost_ret (v := .agg #[.int .i64 1, .slice none 0 0, .slice none 0 0, .slice none 0 0, .slice none 0 0]) (by simp [results, Tryz.results185, go_sem]) rfl ⟨⟨1, none, 0, 0, none, 0, 0, none, 0, 0, none, 0, 0⟩, rfl, scR_new _ _, Fr.alloc _ _⟩
end Go.Proofs.YtplnijpolkflcaaGreatDoor
namespace Go.Proofs.YtplnijpolkflcaaGreatDoor
open Go.RowKit

def lockCode (m : Scn) (e : Ev) : Int :=
  if e.k = 2 then (if 0 ≤ (lockOf m.ls e.o).wr ∨ 0 < (lockOf m.ls e.o).rd.length then 3 else 0)
  else if e.k = 4 then (if 0 ≤ (lockOf m.ls e.o).wr ∨ memB (lockOf m.ls e.o).rd e.g = true then 3 else 0)
  else if e.k = 3 then (if (lockOf m.ls e.o).wr = e.g then 0 else 4)
  else if e.k = 5 then (if memB (lockOf m.ls e.o).rd e.g = true then 0 else 4)
  else 0
def chanCode (m : Scn) (e : Ev) : Int :=
  if isChan m.cs e.o = decide (e.k = 6) then 5
  else if ((e.k = 7 ∨ e.k = 8) ∧ (chanOf m.cs e.o).cap = 0) ∨ (e.k = 9 ∧ (chanOf m.cs e.o).cap ≠ 0) then 5
  else if ((e.k = 7 ∨ e.k = 9 ∨ e.k = 10) ∧ (chanOf m.cs e.o).cl = true) ∨ (e.k = 11 ∧ (chanOf m.cs e.o).cl = false) then 6
  else if e.k = 7 ∧ (chanOf m.cs e.o).sent - (chanOf m.cs e.o).got = (chanOf m.cs e.o).cap then 7
  else if (e.k = 8 ∧ (chanOf m.cs e.o).sent = (chanOf m.cs e.o).got) ∨ (e.k = 11 ∧ (chanOf m.cs e.o).sent ≠ (chanOf m.cs e.o).got) then 8
  else if e.k = 7 ∧ (chanOf m.cs e.o).sent = 1000000 then 9
  else 0
def gorBad (m : Scn) (e : Ev) : Prop := m.g ≤ e.g ∨ (e.k = 1 ∧ e.o ≠ m.g) ∨ (e.k = 9 ∧ (m.g ≤ e.w ∨ e.w = e.g))
instance (m : Scn) (e : Ev) : Decidable (gorBad m e) := by unfold gorBad; exact inferInstance
def restCode (m : Scn) (e : Ev) : Int :=
  if 2 ≤ e.k ∧ e.k ≤ 5 then lockCode m e
  else if 6 ≤ e.k ∧ e.k ≤ 11 then chanCode m e
  else if e.k = 13 then (if countOf m.gs e.o = 0 then 9 else 0)
  else if e.k = 14 then (if countOf m.gs e.o = 0 then 0 else 9)
  else if e.k = 12 then (if 1000000 < countOf m.gs e.o + e.s then 9 else 0)
  else if e.k = 15 ∨ e.k = 16 then (if memB m.os e.o = decide (e.k = 15) then 10 else 0)
  else 0
def codeIn (m : Scn) (e : Ev) : Int :=
  if evOk e = false ∨ scB m = false then 1 else if gorBad m e then 2 else restCode m e

def setS {α : Type} (key : α → Int) (x : α) (a : List α × Bool) (y : α) : List α × Bool :=
  let a1 := if !a.2 && decide (key x ≤ key y) then (a.1 ++ [x], true) else a
  if key y = key x then a1 else (a1.1 ++ [y], a1.2)
def setP {α : Type} (key : α → Int) (x : α) (put : Bool) (xs : List α) : List α × Bool := xs.foldl (setS key x) ([], put)
def setL {α : Type} (key : α → Int) (x : α) (put : Bool) (xs : List α) : List α := if (setP key x put xs).2 then (setP key x put xs).1 else (setP key x put xs).1 ++ [x]
theorem setP_step {α : Type} (key : α → Int) (x : α) (put : Bool) (xs : List α) (k : Nat) (hk : k < xs.length) : setP key x put (xs.take (k + 1)) = setS key x (setP key x put (xs.take k)) xs[k] := by
  rw [setP, List.take_succ_eq_append_getElem hk, List.foldl_append]
  rfl
theorem setS_in {α : Type} {key : α → Int} {x y : α} {out : List α} (h : key x < key y) : setS key x (out, false) y = (out ++ [x] ++ [y], true) := by
  unfold setS
  have h1 : key x ≤ key y := by omega
  have h2 : ¬ key y = key x := by omega
  simp [h1, h2]
theorem setS_at {α : Type} {key : α → Int} {x y : α} {out : List α} (h : key y = key x) : setS key x (out, false) y = (out ++ [x], true) := by
  unfold setS
  simp [h]
theorem setS_on {α : Type} {key : α → Int} {x y : α} {out : List α} (h : key y < key x) : setS key x (out, false) y = (out ++ [y], false) := by
  unfold setS
  have h1 : ¬ key x ≤ key y := by omega
  have h2 : ¬ key y = key x := by omega
  simp [h1, h2]
theorem setS_by {α : Type} {key : α → Int} {x y : α} {out : List α} (h : key y = key x) : setS key x (out, true) y = (out, true) := by
  unfold setS
  simp [h]
theorem setS_go {α : Type} {key : α → Int} {x y : α} {out : List α} (h : key y ≠ key x) : setS key x (out, true) y = (out ++ [y], true) := by
  unfold setS
  simp [h]
theorem setS_len {α : Type} (key : α → Int) (x : α) (a : List α × Bool) (y : α) : (setS key x a y).1.length ≤ a.1.length + 2 := by
  unfold setS
  dsimp only
  split <;> split <;> simp
theorem setP_len {α : Type} (key : α → Int) (x : α) (put : Bool) (xs : List α) (k : Nat) (hk : k ≤ xs.length) : (setP key x put (xs.take k)).1.length ≤ 2 * k := by
  induction k with
  | zero => simp [setP]
  | succ k ih =>
    have := ih (by omega)
    have h2 := setS_len key x (setP key x put (xs.take k)) (xs[k]'(by omega))
    rw [setP_step key x put xs k (by omega)]
    omega

def chanTo (m : Scn) (e : Ev) : Ch :=
  if e.k = 6 then { chanOf m.cs e.o with cap := e.s }
  else if e.k = 7 then { chanOf m.cs e.o with sent := (chanOf m.cs e.o).sent + 1 }
  else if e.k = 8 then { chanOf m.cs e.o with got := (chanOf m.cs e.o).got + 1 }
  else { chanOf m.cs e.o with cl := true }
def lockTo (m : Scn) (e : Ev) : Lk :=
  if e.k = 2 then { lockOf m.ls e.o with wr := e.g }
  else if e.k = 3 then { lockOf m.ls e.o with wr := -1 }
  else if e.k = 4 then { lockOf m.ls e.o with rd := withL (lockOf m.ls e.o).rd e.g }
  else { lockOf m.ls e.o with rd := outL (lockOf m.ls e.o).rd e.g }
def lkFree (l : Lk) : Bool := decide (l.wr < 0) && decide (l.rd.length = 0)
def setLk (m : Scn) (l : Lk) : Scn := { m with ls := setL Lk.o l (lkFree l) m.ls }
def setCh (m : Scn) (c : Ch) : Scn := { m with cs := setL Ch.o c false m.cs }
def setCt (m : Scn) (o n : Int) : Scn := { m with gs := setL Ct.o ⟨o, n⟩ (n == 0) m.gs }
def doS (m : Scn) (e : Ev) : Scn :=
  if e.k = 1 then { m with g := m.g + 1 }
  else if 2 ≤ e.k ∧ e.k ≤ 5 then setLk m (lockTo m e)
  else if 6 ≤ e.k ∧ e.k ≤ 8 ∨ e.k = 10 then setCh m (chanTo m e)
  else if e.k = 12 then setCt m e.o (countOf m.gs e.o + e.s)
  else if e.k = 13 then setCt m e.o (countOf m.gs e.o - 1)
  else if e.k = 15 then { m with os := withL m.os e.o }
  else m
end Go.Proofs.YtplnijpolkflcaaGreatDoor
namespace Go.Proofs.YtplnijpolkflcaaGreatDoor
open Go.RowKit

set_option maxHeartbeats 2000000 in
theorem specOk_any (e : Ev) (w : World) :
    Calls Tryz.prog 53 #[.agg #[.int .i64 e.k, .int .i64 e.g, .int .i64 e.o, .int .i64 e.w, .int .i64 e.l, .int .i64 e.s, .int .i64 e.f, .int .i64 e.t]] w fun x w' => x = .returned (.bool (evOk e)) ∧ Fr w w' := by
  have ck := fun w => specFields_any e.k w
  have cg := fun w => l2Gor_any e.g w
  cases hk : inB 1 22 e.k
  · have hv : evOk e = false := by simp [evOk, hk]
    have hf : fldV e.k = -1 := by rw [fldV, hk]; rfl
    rw [hv]
    simp only [hf] at ck
    clear hv hk hf cg
    go_enter Tryz.func53, Tryz.ntmps53
    go_wp2_with fail
    refine (ck _).mono ?_
    rintro e w1 ⟨rfl, f1⟩
    go_wp2_with fail
    go_ret
    exact ⟨rfl, (Fr.alloc _ _).trans f1⟩
  have hz : 0 ≤ fldV e.k := by
    obtain ⟨n, hn, hkn⟩ := kinds hk
    rw [hkn, fldV_at n hn]
    exact (fldN_in n).1
  obtain ⟨z, ez⟩ : ∃ z, z = fldV e.k := ⟨_, rfl⟩
  rw [← ez] at hz
  simp only [← ez] at ck
  clear ez
  cases hg : inB 0 15 e.g
  · have hv : evOk e = false := by simp [evOk, hg]
    rw [hv]
    simp only [hg] at cg
    clear hv hk hg
    obtain ⟨k, g, o, wi, l, sz, f, t⟩ := e
    simp only at ck cg ⊢
    go_enter Tryz.func53, Tryz.ntmps53
    go_wp2_with fail
    refine (ck _).mono ?_
    rintro e w1 ⟨rfl, f1⟩
    have d1 : w1.cell? ⟨w.heap.size, 1, none⟩ = some (.int .i64 g) := f1.cell (by go_simp)
    go_wp2_with fail
    refine (cg _).mono ?_
    rintro e w1 ⟨rfl, rfl⟩
    go_wp2_with fail
    go_ret
    exact ⟨rfl, (Fr.alloc _ _).trans f1⟩
  simp only [hg] at cg
  have hv : evOk e = (ev1 e && ev2 e && ev3 e && ev4 e && ev5 e && ev6 e) := by simp [evOk, hk, hg]
  rw [hv]
  clear hv hk hg
  obtain ⟨k, g, o, wi, l, sz, f, t⟩ := e
  simp only at ck cg ⊢
  have cs := fun w => l2Sizes_any k w
  have t1 := fun w => l2Has_any k 1 w (by simp)
  have t2 := fun w => l2Has_any k 2 w (by simp)
  have t3 := fun w => l2Has_any k 4 w (by simp)
  have t4 := fun w => l2Has_any k 8 w (by simp)
  have t5 := fun w => l2Has_any k 16 w (by simp)
  have t6 := fun w => l2Has_any k 32 w (by simp)
  unfold ev1 ev2 ev3 ev4 ev5 ev6
  simp only
  obtain ⟨lo, hlo⟩ : ∃ z, z = loV k := ⟨_, rfl⟩
  obtain ⟨hi, hhi⟩ : ∃ z, z = hiV k := ⟨_, rfl⟩
  simp only [← hlo, ← hhi] at cs ⊢
  obtain ⟨p1, y1⟩ : ∃ b, b = hasB k 1 := ⟨_, rfl⟩
  obtain ⟨p2, y2⟩ : ∃ b, b = hasB k 2 := ⟨_, rfl⟩
  obtain ⟨p3, y3⟩ : ∃ b, b = hasB k 4 := ⟨_, rfl⟩
  obtain ⟨p4, y4⟩ : ∃ b, b = hasB k 8 := ⟨_, rfl⟩
  obtain ⟨p5, y5⟩ : ∃ b, b = hasB k 16 := ⟨_, rfl⟩
  obtain ⟨p6, y6⟩ : ∃ b, b = hasB k 32 := ⟨_, rfl⟩
  simp only [← y1] at t1 ⊢
  simp only [← y2] at t2 ⊢
  simp only [← y3] at t3 ⊢
  simp only [← y4] at t4 ⊢
  simp only [← y5] at t5 ⊢
  simp only [← y6] at t6 ⊢
  clear y1 y2 y3 y4 y5 y6 hlo hhi
  have c1 := fun w => l2Field_any p1 o 0 15 w
  have c2 := fun w => l2Field_any p2 wi 0 15 w
  have c3 := fun w => l2Field_any p3 l 0 65535 w
  have c4 := fun w => l2Field_any p4 sz lo hi w
  have c5 := fun w => l2Field_any p5 f 0 999 w
  have c6 := fun w => l2Field_any p6 t 0 999 w
  obtain ⟨b1, e1⟩ : ∃ b, b = fitB p1 o 0 15 := ⟨_, rfl⟩
  obtain ⟨b2, e2⟩ : ∃ b, b = fitB p2 wi 0 15 := ⟨_, rfl⟩
  obtain ⟨b3, e3⟩ : ∃ b, b = fitB p3 l 0 65535 := ⟨_, rfl⟩
  obtain ⟨b4, e4⟩ : ∃ b, b = fitB p4 sz lo hi := ⟨_, rfl⟩
  obtain ⟨b5, e5⟩ : ∃ b, b = fitB p5 f 0 999 := ⟨_, rfl⟩
  obtain ⟨b6, e6⟩ : ∃ b, b = fitB p6 t 0 999 := ⟨_, rfl⟩
  simp only [← e1] at c1 ⊢
  simp only [← e2] at c2 ⊢
  simp only [← e3] at c3 ⊢
  simp only [← e4] at c4 ⊢
  simp only [← e5] at c5 ⊢
  simp only [← e6] at c6 ⊢
  clear e1 e2 e3 e4 e5 e6
  have hk1 : k = 1 ∨ ¬ k = 1 := by omega
  go_enter Tryz.func53, Tryz.ntmps53
  go_wp2_with fail
  refine (ck _).mono ?_
  rintro e W ⟨rfl, f1⟩
  have fW : Fr w W := (Fr.alloc _ _).trans f1
  have i0 : W.cell? ⟨w.heap.size, 0, none⟩ = some (.int .i64 k) := f1.cell (by go_simp)
  have i1 : W.cell? ⟨w.heap.size, 1, none⟩ = some (.int .i64 g) := f1.cell (by go_simp)
  have d0 : ∀ s : Later W, s.u.cell? ⟨w.heap.size, 0, none⟩ = some (.int .i64 k) := fun s => s.fr.cell (f1.cell (by go_simp))
  have d2 : ∀ s : Later W, s.u.cell? ⟨w.heap.size, 2, none⟩ = some (.int .i64 o) := fun s => s.fr.cell (f1.cell (by go_simp))
  have d3 : ∀ s : Later W, s.u.cell? ⟨w.heap.size, 3, none⟩ = some (.int .i64 wi) := fun s => s.fr.cell (f1.cell (by go_simp))
  have d4 : ∀ s : Later W, s.u.cell? ⟨w.heap.size, 4, none⟩ = some (.int .i64 l) := fun s => s.fr.cell (f1.cell (by go_simp))
  have d5 : ∀ s : Later W, s.u.cell? ⟨w.heap.size, 5, none⟩ = some (.int .i64 sz) := fun s => s.fr.cell (f1.cell (by go_simp))
  have d6 : ∀ s : Later W, s.u.cell? ⟨w.heap.size, 6, none⟩ = some (.int .i64 f) := fun s => s.fr.cell (f1.cell (by go_simp))
  have d7 : ∀ s : Later W, s.u.cell? ⟨w.heap.size, 7, none⟩ = some (.int .i64 t) := fun s => s.fr.cell (f1.cell (by go_simp))
  clear f1
  go_wp2_with fail
  refine (cg _).mono ?_
  rintro e w1 ⟨rfl, rfl⟩
  have := Later.some w1
  have hb : b1 = false ∨ (b1 = true ∧ b2 = false) ∨ (b1 = true ∧ b2 = true ∧ b3 = false) ∨ (b1 = true ∧ b2 = true ∧ b3 = true ∧ b4 = false) ∨ (b1 = true ∧ b2 = true ∧ b3 = true ∧ b4 = true ∧ b5 = false) ∨ (b1 = true ∧ b2 = true ∧ b3 = true ∧ b4 = true ∧ b5 = true) := by
    cases b1 <;> cases b2 <;> cases b3 <;> cases b4 <;> cases b5 <;> simp
  rcases hk1 with rfl | hk1
  all_goals
    go_wp2_with fail
    refine (cs _).mono ?_
    rintro e w2 ⟨rfl, rfl⟩
    go_wp2_with fail
    refine wp_region_grown (by kernel_rfl) (by kernel_rfl) ?_
    clear i0 i1 ck cg cs
    rcases hb with rfl | ⟨rfl, rfl⟩ | ⟨rfl, rfl, rfl⟩ | ⟨rfl, rfl, rfl, rfl⟩ | ⟨rfl, rfl, rfl, rfl, rfl⟩ | ⟨rfl, rfl, rfl, rfl, rfl⟩
    all_goals
      repeat (go_big_quiet_step (first | with_reducible exact Calls.grown_of (t1 _) | with_reducible exact Calls.grown_of (t2 _) | with_reducible exact Calls.grown_of (t3 _) | with_reducible exact Calls.grown_of (t4 _) | with_reducible exact Calls.grown_of (t5 _) | with_reducible exact Calls.grown_of (t6 _) | with_reducible exact Calls.grown_same (c1 _) | with_reducible exact Calls.grown_same (c2 _) | with_reducible exact Calls.grown_same (c3 _) | with_reducible exact Calls.grown_same (c4 _) | with_reducible exact Calls.grown_same (c5 _) | with_reducible exact Calls.grown_same (c6 _)))
      refine wpQuiet_nil ?_
      rintro _ ⟨s, rfl⟩
      go_wp2_with fail
      go_ret
      exact ⟨ret_bool (by simp), fW.trans s.fr⟩
end Go.Proofs.YtplnijpolkflcaaGreatDoor
namespace Go.Proofs.YtplnijpolkflcaaGreatDoor
open Go.RowKit

def evCells (e : Ev) : List Value := [.int .i64 e.k, .int .i64 e.g, .int .i64 e.o, .int .i64 e.w, .int .i64 e.l, .int .i64 e.s, .int .i64 e.f, .int .i64 e.t]

structure EvC (w : World) (b o : Nat) (e : Ev) : Prop where
  c0 : w.cell? ⟨b, o, none⟩ = some (.int .i64 e.k)
  c1 : w.cell? ⟨b, o + 1, none⟩ = some (.int .i64 e.g)
  c2 : w.cell? ⟨b, o + 2, none⟩ = some (.int .i64 e.o)
  c3 : w.cell? ⟨b, o + 3, none⟩ = some (.int .i64 e.w)
  c4 : w.cell? ⟨b, o + 4, none⟩ = some (.int .i64 e.l)
  c5 : w.cell? ⟨b, o + 5, none⟩ = some (.int .i64 e.s)
  c6 : w.cell? ⟨b, o + 6, none⟩ = some (.int .i64 e.f)
  c7 : w.cell? ⟨b, o + 7, none⟩ = some (.int .i64 e.t)

theorem EvC.of {w : World} {b o : Nat} {e : Ev} (h : ∀ k, k < 8 → w.cell? ⟨b, o + k, none⟩ = (evCells e)[k]?) : EvC w b o e :=
  ⟨h 0 (by omega), h 1 (by omega), h 2 (by omega), h 3 (by omega), h 4 (by omega), h 5 (by omega), h 6 (by omega), h 7 (by omega)⟩
theorem EvC.keep {w w' : World} {b o : Nat} {e : Ev} {row : Option Nat} (h : EvC w b o e) (k : w.grownBy w' row) (hr : some b ≠ row) : EvC w' b o e :=
  ⟨k.cell h.c0 hr, k.cell h.c1 hr, k.cell h.c2 hr, k.cell h.c3 hr, k.cell h.c4 hr, k.cell h.c5 hr, k.cell h.c6 hr, k.cell h.c7 hr⟩

structure ReadsE (w : World) (ao : Option Addr) (es : List Ev) : Prop where
  len : es.length ≤ 16777216
  at_ : ∀ i, i < es.length → ∃ b off, ao = some ⟨b, off, none⟩ ∧ ∀ j (hj : j < es.length), EvC w b (off + j * 8) es[j]

theorem ReadsE.nil (w : World) (ao : Option Addr) : ReadsE w ao [] := ⟨by simp, by simp⟩
theorem ReadsE.keep {w w' : World} {ao : Option Addr} {es : List Ev} {row : Option Nat} (h : ReadsE w ao es) (k : w.grownBy w' row) (hne : row = none ∨ blk ao ≠ row) : ReadsE w' ao es := by
  refine ⟨h.len, fun i hi => ?_⟩
  obtain ⟨b, off, e, hc⟩ := h.at_ i hi
  refine ⟨b, off, e, fun j hj => (hc j hj).keep k ?_⟩
  rcases hne with rfl | hne
  · simp
  · intro hh
    apply hne
    rw [e, ← hh]
    rfl
theorem ReadsE.fr {w w' : World} {ao : Option Addr} {es : List Ev} (h : ReadsE w ao es) (k : Fr w w') : ReadsE w' ao es := h.keep k (.inl rfl)

theorem cells_len (es : List Ev) : (es.flatMap evCells).length = es.length * 8 := by
  induction es with
  | nil => rfl
  | cons e es ih => rw [List.flatMap_cons, List.length_append, ih]; simp [evCells]; omega
theorem cells_at (es : List Ev) (j k : Nat) (hj : j < es.length) (hk : k < 8) : (es.flatMap evCells)[j * 8 + k]? = (evCells es[j])[k]? := by
  induction es generalizing j with
  | nil => simp at hj
  | cons e es ih =>
    have h8 : (evCells e).length = 8 := rfl
    cases j with
    | zero => rw [List.flatMap_cons, Nat.zero_mul, Nat.zero_add, List.getElem?_append_left (by omega)]; rfl
    | succ j =>
      rw [List.flatMap_cons, List.getElem?_append_right (by omega), h8, show (j + 1) * 8 + k - 8 = j * 8 + k by omega, ih j (by simpa using hj)]
      rfl

def OwnE (w : World) (base : Nat) (v : Value) (es : List Ev) : Prop :=
  ∃ g cap, v = .slice (some ⟨g, 0, none⟩) es.length cap ∧ w.ownsRow base 31 8 (.slice (some ⟨g, 0, none⟩) es.length cap) es.length (es.flatMap evCells) ∧ es.length ≤ 16777216

theorem own_readsE {w : World} {base g cap : Nat} {es : List Ev} (h : w.ownsRow base 31 8 (.slice (some ⟨g, 0, none⟩) es.length cap) es.length (es.flatMap evCells)) (hl : es.length ≤ 16777216) : ReadsE w (some ⟨g, 0, none⟩) es := by
  refine ⟨hl, fun i hi => ⟨g, 0, rfl, fun j hj => EvC.of fun k hk => ?_⟩⟩
  have := h.cellAt (j * 8 + k) (by omega)
  rw [Nat.zero_add, this, cells_at es j k hj hk]
theorem OwnE.keep {w w' : World} {base : Nat} {v : Value} {es : List Ev} {row : Option Nat} (h : OwnE w base v es) (k : w.grownBy w' row) (hne : v.ownBlock ≠ row) : OwnE w' base v es := by
  obtain ⟨g, cap, rfl, ho, hl⟩ := h
  exact ⟨g, cap, rfl, ho.kept k (.inr hne), hl⟩
theorem OwnE.fr {w w' : World} {base : Nat} {v : Value} {es : List Ev} (h : OwnE w base v es) (k : Fr w w') : OwnE w' base v es := by
  obtain ⟨g, cap, rfl, ho, hl⟩ := h
  exact ⟨g, cap, rfl, ho.kept k (by simp [Value.ownBlock]), hl⟩
theorem OwnE.blk {w : World} {base : Nat} {v : Value} {es : List Ev} (h : OwnE w base v es) : ∀ j, v.ownBlock = some j → base ≤ j := by
  obtain ⟨g, cap, rfl, ho, hl⟩ := h
  intro j hj
  exact (ho.lt j hj).1
theorem OwnE.lower {w : World} {base base' : Nat} {v : Value} {es : List Ev} (h : OwnE w base v es) (hb : base' ≤ base) : OwnE w base' v es := by
  obtain ⟨g, cap, rfl, ho, hl⟩ := h
  refine ⟨g, cap, rfl, ⟨ho.1, ?_⟩, hl⟩
  rcases ho.2 with e | ⟨g, cap, cur, e, hg, r⟩
  · exact .inl e
  · exact .inr ⟨g, cap, cur, e, by omega, r⟩

theorem ReadsE.take {w : World} {ao : Option Addr} {es : List Ev} (h : ReadsE w ao es) (k : Nat) : ReadsE w ao (es.take k) := by
  refine ⟨by have := h.len; simp; omega, fun i hi => ?_⟩
  obtain ⟨b, off, e, hc⟩ := h.at_ i (by simp at hi; omega)
  refine ⟨b, off, e, fun j hj => ?_⟩
  rw [List.getElem_take]
  exact hc j (by simp at hj; omega)
end Go.Proofs.YtplnijpolkflcaaGreatDoor
namespace Go.Proofs.YtplnijpolkflcaaGreatDoor
open Go.RowKit

theorem reads_cell {α : Type} {L : Lay α} {w : World} {g k q : Nat} {xs : List α} {e : α} {v : Value} (h : ReadsG L w (some ⟨g, 0, none⟩) xs) (hk : k < xs.length) (hq : q < L.sz) (he : L.cs e = (L.cs xs[k]).set q v) :
    ReadsG L (w.setCell ⟨g, k * L.sz + q, none⟩ v) (some ⟨g, 0, none⟩) (xs.set k e) := by
  refine ⟨by simpa using h.len, fun i hi => ⟨g, 0, rfl, fun j hj r hr => ?_⟩⟩
  obtain ⟨b, off, e0, hc⟩ := h.at_ k hk
  simp only [Option.some.injEq, Addr.mk.injEq, and_true] at e0
  obtain ⟨rfl, rfl⟩ := e0
  have hj' : j < xs.length := by simpa using hj
  have h0 := hc j hj' r hr
  have hlen := L.len xs[k]
  rw [Nat.zero_add] at h0 ⊢
  by_cases hjk : j = k
  · subst hjk
    rw [List.getElem_set_self, he]
    by_cases hrq : r = q
    · subst hrq
      have hs : (w.cell? ⟨g, j * L.sz + r, none⟩).isSome = true := by rw [h0, List.getElem?_eq_getElem (by omega)]; rfl
      rw [World.cell?_setCell_same' _ _ _ hs, List.getElem?_set_self (by omega)]
    · have hne : (⟨g, j * L.sz + q, none⟩ : Addr) ≠ ⟨g, j * L.sz + r, none⟩ := fun e => hrq (by injection e; omega)
      rw [World.cell?_setCell_other _ _ _ _ hne, h0, List.getElem?_set_ne (fun q2 => hrq q2.symm)]
  · have hmul : j * L.sz + r ≠ k * L.sz + q := by
      intro e1
      have p1 : (j * L.sz + r) / L.sz = j := by rw [Nat.mul_comm, Nat.mul_add_div L.pos, Nat.div_eq_of_lt hr, Nat.add_zero]
      have p2 : (k * L.sz + q) / L.sz = k := by rw [Nat.mul_comm, Nat.mul_add_div L.pos, Nat.div_eq_of_lt hq, Nat.add_zero]
      rw [e1, p2] at p1
      exact hjk p1.symm
    have hne : (⟨g, k * L.sz + q, none⟩ : Addr) ≠ ⟨g, j * L.sz + r, none⟩ := fun e => hmul (by injection e; omega)
    rw [World.cell?_setCell_other _ _ _ _ hne, h0, List.getElem_set_ne (fun e => hjk e.symm)]
theorem set_mid {α : Type} (A : List α) (x e : α) (B : List α) (k : Nat) (hk : A.length = k) : (A ++ x :: B).set k e = A ++ [e] ++ B := by
  subst hk
  simp
def RowAt (w : World) (g : Nat) (T : TypeId) : Prop := ∃ cur, w.heap[g]? = some (.cells cur T (0, 0))
theorem RowAt.free {w : World} {g : Nat} {T : TypeId} (h : RowAt w g T) (i : Nat) : w.frozen? ⟨g, i, none⟩ = false := by
  obtain ⟨cur, hc⟩ := h
  exact frozen_of_row w g i _ _ hc
theorem RowAt.set {w : World} {g : Nat} {T : TypeId} (h : RowAt w g T) (i : Nat) (v : Value) : RowAt (w.setCell ⟨g, i, none⟩ v) g T := by
  obtain ⟨cur, hc⟩ := h
  exact ⟨_, heap_setCell_same w g i _ _ v hc⟩

def upN (q : Int) : Ct := ⟨q, q + 1⟩
def mkN (q : Int) (n : Nat) : List Ct := (List.range n).map fun i : Nat => upN (q + 2 * (i : Int))
theorem mkN_length (q : Int) (n : Nat) : (mkN q n).length = n := by simp [mkN]
theorem mkN_succ (q : Int) (n : Nat) : mkN q (n + 1) = mkN q n ++ [upN (q + 2 * (n : Int))] := by simp [mkN, List.range_succ]
theorem mkN_at (q : Int) (n j : Nat) (h : j < (mkN q n).length) : (mkN q n)[j] = upN (q + 2 * (j : Int)) := by simp [mkN]

set_option maxRecDepth 20000 in
set_option maxHeartbeats 1000000 in
theorem markN_any (g n cap : Nat) (q : Int) (xs : List Ct) (w : World) (hn : xs.length = n) (hl : n ≤ 1048576) (q0 : 0 ≤ q) (q1 : q ≤ 4294967296) (h : ReadsG layN w (some ⟨g, 0, none⟩) xs) (hr : RowAt w g 88) :
    Calls Tryz.prog 95 #[.slice (some ⟨g, 0, none⟩) n cap, .int .i64 q] w fun e w' => e = .returned (.int .i64 (q + 2 * (n : Int))) ∧ ReadsG layN w' (some ⟨g, 0, none⟩) (mkN q n) ∧ RowAt w' g 88 ∧ w.grownBy w' (some g) := by
  subst hn
  go_enter Tryz.func95, Tryz.ntmps95
  go_wp2_with fail
  go_loopw [1, 5] (fun c i wr => ∃ k : Nat, k ≤ xs.length ∧ i = .int .i64 k ∧ c = .int .i64 (q + 2 * (k : Int)) ∧ ReadsG layN wr (some ⟨g, 0, none⟩) (mkN q k ++ xs.drop k) ∧ RowAt wr g 88 ∧ w.grownBy wr (some g)) (fun _ i _ => xs.length - (intOf i).toNat)
  case atStart => exact ⟨0, Nat.zero_le _, rfl, by simp, by simpa [mkN] using h, hr, ⟨rfl, rfl, rfl, Nat.le_refl _, fun _ _ _ => rfl⟩⟩
  case round =>
    obtain ⟨k, hk, rfl, rfl, hR, hrw, hf⟩ := hrel
    by_cases hlt : k < xs.length
    · have hkl : k < (mkN q k ++ xs.drop k).length := by rw [List.length_append, mkN_length]; simp; omega
      obtain ⟨b, off, e0, d0, d1⟩ := ct_at hR k hkl
      simp only [Option.some.injEq, Addr.mk.injEq, and_true] at e0
      obtain ⟨rfl, rfl⟩ := e0
      simp only [Nat.zero_add] at d0 d1
      have z0 := hrw.free (k * 2)
      have z1 := hrw.free (k * 2 + 1)
      have HS : Hid (ReadsG layN ((wr.setCell ⟨g, k * 2, none⟩ (.int .i64 (q + 2 * (k : Int)))).setCell ⟨g, k * 2 + 1, none⟩ (.int .i64 (q + 2 * (k : Int) + 1))) (some ⟨g, 0, none⟩) (mkN q (k + 1) ++ xs.drop (k + 1))) := by
        have h1 := reads_cell (L := layN) (q := 0) (e := ⟨q + 2 * (k : Int), (mkN q k ++ xs.drop k)[k].n⟩) (v := .int .i64 (q + 2 * (k : Int))) hR hkl (by decide) rfl
        have hkl2 : k < ((mkN q k ++ xs.drop k).set k ⟨q + 2 * (k : Int), (mkN q k ++ xs.drop k)[k].n⟩).length := by simpa using hkl
        have h2 := reads_cell (L := layN) (q := 1) (e := upN (q + 2 * (k : Int))) (v := .int .i64 (q + 2 * (k : Int) + 1)) h1 hkl2 (by decide) (by rw [List.getElem_set_self]; rfl)
        rw [List.set_set, List.drop_eq_getElem_cons hlt, set_mid _ _ _ _ _ (mkN_length q k), ← mkN_succ] at h2
        exact h2
      have HR : Hid (RowAt ((wr.setCell ⟨g, k * 2, none⟩ (.int .i64 (q + 2 * (k : Int)))).setCell ⟨g, k * 2 + 1, none⟩ (.int .i64 (q + 2 * (k : Int) + 1))) g 88 ∧ w.grownBy ((wr.setCell ⟨g, k * 2, none⟩ (.int .i64 (q + 2 * (k : Int)))).setCell ⟨g, k * 2 + 1, none⟩ (.int .i64 (q + 2 * (k : Int) + 1))) (some g)) := ⟨(hrw.set _ _).set _ _, grown_trans hf (grown_trans (grown_set _ _ _ _) (grown_set _ _ _ _))⟩
      have hi : (k : Int) < xs.length := by omega
      have hw1 : IntKind.i64.wrap (q + 2 * (k : Int) + 1) = q + 2 * (k : Int) + 1 := by rw [IntKind.wrap_i64]; omega
      clear hR hrw hf
      go_wp2_with fail
      go_roundw
      case rel => exact ⟨k + 1, by omega, by go_num, by go_num, HS.out, HR.out.1, HR.out.2⟩
      case measure => simp [intOf]; omega
    · have e : k = xs.length := by omega
      subst e
      rw [List.drop_length, List.append_nil] at hR
      go_wp2_with fail
      go_ret
      exact ⟨rfl, hR, hrw, hf⟩

set_option maxHeartbeats 1000000 in
theorem heldN_any (ao : Option Addr) (n cap : Nat) (q : Int) (w : World) (hl : n ≤ 1048576) (q0 : 0 ≤ q) (q1 : q ≤ 4294967296) (h : ReadsG layN w ao (mkN q n)) :
    Calls Tryz.prog 98 #[.slice ao n cap, .int .i64 q] w fun e w' => e = .returned (.int .i64 (q + 2 * (n : Int))) ∧ w' = w := by
  go_enter Tryz.func98, Tryz.ntmps98
  go_wp2_with fail
  go_loop [1, 5] (fun c i => ∃ k : Nat, k ≤ n ∧ i = .int .i64 k ∧ c = .int .i64 (q + 2 * (k : Int))) (fun _ i => n - (intOf i).toNat)
  case atStart => exact ⟨0, Nat.zero_le _, rfl, by simp⟩
  case round =>
    obtain ⟨k, hk, rfl, rfl⟩ := hrel
    by_cases hlt : k < n
    · have hkl : k < (mkN q n).length := by rw [mkN_length]; exact hlt
      obtain ⟨b, off, rfl, d0, d1⟩ := ct_at h k hkl
      rw [mkN_at] at d0 d1
      simp only [upN] at d0 d1
      have hi : (k : Int) < n := by omega
      have hb0 : (q + 2 * (k : Int) != q + 2 * (k : Int)) = false := by simp
      have hb1 : (q + 2 * (k : Int) + 1 != q + 2 * (k : Int) + 1) = false := by simp
      have hw1 : IntKind.i64.wrap (q + 2 * (k : Int) + 1) = q + 2 * (k : Int) + 1 := by rw [IntKind.wrap_i64]; omega
      go_wp2_with fail
      go_round
      case rel => exact ⟨k + 1, by omega, by go_num, by go_num⟩
      case measure => simp [intOf]; omega
    · have e : k = n := by omega
      subst e
      go_wp2_with fail
      go_ret
      exact ⟨rfl, rfl⟩
end Go.Proofs.YtplnijpolkflcaaGreatDoor
namespace Go.Proofs.YtplnijpolkflcaaGreatDoor
open Go.ChangeShapes Go.WideShapes Go.ChangeAt Go.RowKit

end Go.Proofs.YtplnijpolkflcaaGreatDoor
namespace Go.Proofs.YtplnijpolkflcaaGreatDoor
open Go.ChangeShapes Go.WideShapes Go.ChangeAt Go.RowKit

end Go.Proofs.YtplnijpolkflcaaGreatDoor
