/-
  Pack AJ: ScNew, ScMod, EvSpec, ScNil.
-/
import Derived.Test.YtcofhmikdkkigaaGreatDoorPfAF
import Derived.Test.YtcofhmikdkkigaaGreatDoorPfAE
import Derived.Test.YtcofhmikdkkigaaGreatDoorPfAI
namespace Go.Proofs.YtcofhmikdkkigaaGreatDoor
open Go.RowKit

def scn0 : Scn := ⟨1, [], [], [], []⟩
theorem inB_none (B : Nat → Prop) : InB B none := fun b hb => by simp [blk] at hb
theorem scR_new (B : Nat → Prop) (w : World) : ScR B w ⟨1, none, 0, 0, none, 0, 0, none, 0, 0, none, 0, 0⟩ scn0 where
  g := rfl
  ig := ⟨by decide, by decide⟩
  lks := ⟨[], ReadsG.nil _ _ _, rfl, LksR.nil _ _⟩
  chs := ReadsG.nil _ _ _
  cl := rfl
  cts := ReadsG.nil _ _ _
  nl := rfl
  ons := Reads.nil _ _
  ol := rfl
  bl := inB_none _
  bc := inB_none _
  bn := inB_none _
  bo := inB_none _
  zo _ := rfl
  sl := by simp [scn0]
  sc := by simp [scn0]
  sn := by simp [scn0]
  so := by simp [scn0]
  ic c hc := by simp [scn0] at hc
  inn c hc := by simp [scn0] at hc

theorem newScene_any (B : Nat → Prop) (w : World) :
    Calls Tryz.prog 163 #[] w fun e w' => ∃ s : Sv, e = .returned (.agg #[.int .i64 s.g, .slice s.lo s.ll s.lc, .slice s.co s.cl s.cc, .slice s.no s.nl s.nc, .slice s.oo s.ol s.oc]) ∧ ScR B w' s scn0 ∧ Fr w w' := by
  go_enter Tryz.func163, Tryz.ntmps163
  go_wp2
  refine bodyPost_ret (v := .agg #[.int .i64 1, .slice none 0 0, .slice none 0 0, .slice none 0 0, .slice none 0 0]) (by simp [results, Tryz.results163, go_sem]) rfl ⟨⟨1, none, 0, 0, none, 0, 0, none, 0, 0, none, 0, 0⟩, rfl, scR_new _ _, Fr.alloc _ _⟩
end Go.Proofs.YtcofhmikdkkigaaGreatDoor
namespace Go.Proofs.YtcofhmikdkkigaaGreatDoor
open Go.RowKit

def lockCode (m : Scn) (e : Ev) : Int :=
  if e.k = 2 then (if 0 ≤ (lockOf m.ls e.o).wr ∨ 0 < (lockOf m.ls e.o).rd.length then 3 else 0)
  else if e.k = 4 then (if 0 ≤ (lockOf m.ls e.o).wr ∨ memB (lockOf m.ls e.o).rd e.g = true then 3 else 0)
  else if e.k = 3 then (if (lockOf m.ls e.o).wr = e.g then 0 else 4)
  else if e.k = 5 then (if memB (lockOf m.ls e.o).rd e.g = true then 0 else 4)
  else 0
def chanCode (m : Scn) (e : Ev) : Int :=
  if isChan m.cs e.o = decide (e.k = 6) then 5
  else if ((e.k = 7 ∨ e.k = 8) ∧ (chanOf m.cs e.o).cap = 0) ∨ (e.k = 9 ∧ (chanOf m.cs e.o).cap ≠ 0) then 5
  else if ((e.k = 7 ∨ e.k = 9 ∨ e.k = 10) ∧ (chanOf m.cs e.o).cl = true) ∨ (e.k = 11 ∧ (chanOf m.cs e.o).cl = false) then 6
  else if e.k = 7 ∧ (chanOf m.cs e.o).sent - (chanOf m.cs e.o).got = (chanOf m.cs e.o).cap then 7
  else if (e.k = 8 ∧ (chanOf m.cs e.o).sent = (chanOf m.cs e.o).got) ∨ (e.k = 11 ∧ (chanOf m.cs e.o).sent ≠ (chanOf m.cs e.o).got) then 8
  else if e.k = 7 ∧ (chanOf m.cs e.o).sent = 1000000 then 9
  else 0
def gorBad (m : Scn) (e : Ev) : Prop := m.g ≤ e.g ∨ (e.k = 1 ∧ e.o ≠ m.g) ∨ (e.k = 9 ∧ (m.g ≤ e.w ∨ e.w = e.g))
instance (m : Scn) (e : Ev) : Decidable (gorBad m e) := by unfold gorBad; exact inferInstance
def restCode (m : Scn) (e : Ev) : Int :=
  if 2 ≤ e.k ∧ e.k ≤ 5 then lockCode m e
  else if 6 ≤ e.k ∧ e.k ≤ 11 then chanCode m e
  else if e.k = 13 then (if countOf m.gs e.o = 0 then 9 else 0)
  else if e.k = 14 then (if countOf m.gs e.o = 0 then 0 else 9)
  else if e.k = 12 then (if 1000000 < countOf m.gs e.o + e.s then 9 else 0)
  else if e.k = 15 ∨ e.k = 16 then (if memB m.os e.o = decide (e.k = 15) then 10 else 0)
  else 0
def codeIn (m : Scn) (e : Ev) : Int :=
  if evOk e = false ∨ scB m = false then 1 else if gorBad m e then 2 else restCode m e

def setS {α : Type} (key : α → Int) (x : α) (a : List α × Bool) (y : α) : List α × Bool :=
  let a1 := if !a.2 && decide (key x ≤ key y) then (a.1 ++ [x], true) else a
  if key y = key x then a1 else (a1.1 ++ [y], a1.2)
def setP {α : Type} (key : α → Int) (x : α) (put : Bool) (xs : List α) : List α × Bool := xs.foldl (setS key x) ([], put)
def setL {α : Type} (key : α → Int) (x : α) (put : Bool) (xs : List α) : List α := if (setP key x put xs).2 then (setP key x put xs).1 else (setP key x put xs).1 ++ [x]
theorem setP_step {α : Type} (key : α → Int) (x : α) (put : Bool) (xs : List α) (k : Nat) (hk : k < xs.length) : setP key x put (xs.take (k + 1)) = setS key x (setP key x put (xs.take k)) xs[k] := by
  rw [setP, List.take_succ_eq_append_getElem hk, List.foldl_append]
  rfl
theorem setS_in {α : Type} {key : α → Int} {x y : α} {out : List α} (h : key x < key y) : setS key x (out, false) y = (out ++ [x] ++ [y], true) := by
  unfold setS
  have h1 : key x ≤ key y := by omega
  have h2 : ¬ key y = key x := by omega
  simp [h1, h2]
theorem setS_at {α : Type} {key : α → Int} {x y : α} {out : List α} (h : key y = key x) : setS key x (out, false) y = (out ++ [x], true) := by
  unfold setS
  simp [h]
theorem setS_on {α : Type} {key : α → Int} {x y : α} {out : List α} (h : key y < key x) : setS key x (out, false) y = (out ++ [y], false) := by
  unfold setS
  have h1 : ¬ key x ≤ key y := by omega
  have h2 : ¬ key y = key x := by omega
  simp [h1, h2]
theorem setS_by {α : Type} {key : α → Int} {x y : α} {out : List α} (h : key y = key x) : setS key x (out, true) y = (out, true) := by
  unfold setS
  simp [h]
theorem setS_go {α : Type} {key : α → Int} {x y : α} {out : List α} (h : key y ≠ key x) : setS key x (out, true) y = (out ++ [y], true) := by
  unfold setS
  simp [h]
theorem setS_len {α : Type} (key : α → Int) (x : α) (a : List α × Bool) (y : α) : (setS key x a y).1.length ≤ a.1.length + 2 := by
  unfold setS
  dsimp only
  split <;> split <;> simp
theorem setP_len {α : Type} (key : α → Int) (x : α) (put : Bool) (xs : List α) (k : Nat) (hk : k ≤ xs.length) : (setP key x put (xs.take k)).1.length ≤ 2 * k := by
  induction k with
  | zero => simp [setP]
  | succ k ih =>
    have := ih (by omega)
    have h2 := setS_len key x (setP key x put (xs.take k)) (xs[k]'(by omega))
    rw [setP_step key x put xs k (by omega)]
    omega

def chanTo (m : Scn) (e : Ev) : Ch :=
  if e.k = 6 then { chanOf m.cs e.o with cap := e.s }
  else if e.k = 7 then { chanOf m.cs e.o with sent := (chanOf m.cs e.o).sent + 1 }
  else if e.k = 8 then { chanOf m.cs e.o with got := (chanOf m.cs e.o).got + 1 }
  else { chanOf m.cs e.o with cl := true }
def lockTo (m : Scn) (e : Ev) : Lk :=
  if e.k = 2 then { lockOf m.ls e.o with wr := e.g }
  else if e.k = 3 then { lockOf m.ls e.o with wr := -1 }
  else if e.k = 4 then { lockOf m.ls e.o with rd := withL (lockOf m.ls e.o).rd e.g }
  else { lockOf m.ls e.o with rd := outL (lockOf m.ls e.o).rd e.g }
def lkFree (l : Lk) : Bool := decide (l.wr < 0) && decide (l.rd.length = 0)
def setLk (m : Scn) (l : Lk) : Scn := { m with ls := setL Lk.o l (lkFree l) m.ls }
def setCh (m : Scn) (c : Ch) : Scn := { m with cs := setL Ch.o c false m.cs }
def setCt (m : Scn) (o n : Int) : Scn := { m with gs := setL Ct.o ⟨o, n⟩ (n == 0) m.gs }
def doS (m : Scn) (e : Ev) : Scn :=
  if e.k = 1 then { m with g := m.g + 1 }
  else if 2 ≤ e.k ∧ e.k ≤ 5 then setLk m (lockTo m e)
  else if 6 ≤ e.k ∧ e.k ≤ 8 ∨ e.k = 10 then setCh m (chanTo m e)
  else if e.k = 12 then setCt m e.o (countOf m.gs e.o + e.s)
  else if e.k = 13 then setCt m e.o (countOf m.gs e.o - 1)
  else if e.k = 15 then { m with os := withL m.os e.o }
  else m
end Go.Proofs.YtcofhmikdkkigaaGreatDoor
namespace Go.Proofs.YtcofhmikdkkigaaGreatDoor
open Go.RowKit

set_option maxHeartbeats 2000000 in
theorem specOk_any (e : Ev) (w : World) :
    Calls Tryz.prog 54 #[.agg #[.int .i64 e.k, .int .i64 e.g, .int .i64 e.o, .int .i64 e.w, .int .i64 e.l, .int .i64 e.s, .int .i64 e.f, .int .i64 e.t]] w fun x w' => x = .returned (.bool (evOk e)) ∧ Fr w w' := by
  have ck := fun w => specFields_any e.k w
  have cg := fun w => l2Gor_any e.g w
  cases hk : inB 1 22 e.k
  · have hv : evOk e = false := by simp [evOk, hk]
    have hf : fldV e.k = -1 := by rw [fldV, hk]; rfl
    rw [hv]
    simp only [hf] at ck
    clear hv hk hf cg
    go_enter Tryz.func54, Tryz.ntmps54
    go_wp2_with fail
    refine (ck _).mono ?_
    rintro e w1 ⟨rfl, f1⟩
    go_wp2_with fail
    go_ret
    exact ⟨rfl, (Fr.alloc _ _).trans f1⟩
  have hz : 0 ≤ fldV e.k := by
    obtain ⟨n, hn, hkn⟩ := kinds hk
    rw [hkn, fldV_at n hn]
    exact (fldN_in n).1
  obtain ⟨z, ez⟩ : ∃ z, z = fldV e.k := ⟨_, rfl⟩
  rw [← ez] at hz
  simp only [← ez] at ck
  clear ez
  cases hg : inB 0 15 e.g
  · have hv : evOk e = false := by simp [evOk, hg]
    rw [hv]
    simp only [hg] at cg
    clear hv hk hg
    obtain ⟨k, g, o, wi, l, sz, f, t⟩ := e
    simp only at ck cg ⊢
    go_enter Tryz.func54, Tryz.ntmps54
    go_wp2_with fail
    refine (ck _).mono ?_
    rintro e w1 ⟨rfl, f1⟩
    have d1 : w1.cell? ⟨w.heap.size, 1, none⟩ = some (.int .i64 g) := f1.cell (by go_simp)
    go_wp2_with fail
    refine (cg _).mono ?_
    rintro e w1 ⟨rfl, rfl⟩
    go_wp2_with fail
    go_ret
    exact ⟨rfl, (Fr.alloc _ _).trans f1⟩
  simp only [hg] at cg
  have hv : evOk e = (ev1 e && ev2 e && ev3 e && ev4 e && ev5 e && ev6 e) := by simp [evOk, hk, hg]
  rw [hv]
  clear hv hk hg
  obtain ⟨k, g, o, wi, l, sz, f, t⟩ := e
  simp only at ck cg ⊢
  have cs := fun w => l2Sizes_any k w
  have t1 := fun w => l2Has_any k 1 w (by simp)
  have t2 := fun w => l2Has_any k 2 w (by simp)
  have t3 := fun w => l2Has_any k 4 w (by simp)
  have t4 := fun w => l2Has_any k 8 w (by simp)
  have t5 := fun w => l2Has_any k 16 w (by simp)
  have t6 := fun w => l2Has_any k 32 w (by simp)
  unfold ev1 ev2 ev3 ev4 ev5 ev6
  simp only
  obtain ⟨lo, hlo⟩ : ∃ z, z = loV k := ⟨_, rfl⟩
  obtain ⟨hi, hhi⟩ : ∃ z, z = hiV k := ⟨_, rfl⟩
  simp only [← hlo, ← hhi] at cs ⊢
  obtain ⟨p1, y1⟩ : ∃ b, b = hasB k 1 := ⟨_, rfl⟩
  obtain ⟨p2, y2⟩ : ∃ b, b = hasB k 2 := ⟨_, rfl⟩
  obtain ⟨p3, y3⟩ : ∃ b, b = hasB k 4 := ⟨_, rfl⟩
  obtain ⟨p4, y4⟩ : ∃ b, b = hasB k 8 := ⟨_, rfl⟩
  obtain ⟨p5, y5⟩ : ∃ b, b = hasB k 16 := ⟨_, rfl⟩
  obtain ⟨p6, y6⟩ : ∃ b, b = hasB k 32 := ⟨_, rfl⟩
  simp only [← y1] at t1 ⊢
  simp only [← y2] at t2 ⊢
  simp only [← y3] at t3 ⊢
  simp only [← y4] at t4 ⊢
  simp only [← y5] at t5 ⊢
  simp only [← y6] at t6 ⊢
  clear y1 y2 y3 y4 y5 y6 hlo hhi
  have c1 := fun w => l2Field_any p1 o 0 15 w
  have c2 := fun w => l2Field_any p2 wi 0 15 w
  have c3 := fun w => l2Field_any p3 l 0 65535 w
  have c4 := fun w => l2Field_any p4 sz lo hi w
  have c5 := fun w => l2Field_any p5 f 0 999 w
  have c6 := fun w => l2Field_any p6 t 0 999 w
  obtain ⟨b1, e1⟩ : ∃ b, b = fitB p1 o 0 15 := ⟨_, rfl⟩
  obtain ⟨b2, e2⟩ : ∃ b, b = fitB p2 wi 0 15 := ⟨_, rfl⟩
  obtain ⟨b3, e3⟩ : ∃ b, b = fitB p3 l 0 65535 := ⟨_, rfl⟩
  obtain ⟨b4, e4⟩ : ∃ b, b = fitB p4 sz lo hi := ⟨_, rfl⟩
  obtain ⟨b5, e5⟩ : ∃ b, b = fitB p5 f 0 999 := ⟨_, rfl⟩
  obtain ⟨b6, e6⟩ : ∃ b, b = fitB p6 t 0 999 := ⟨_, rfl⟩
  simp only [← e1] at c1 ⊢
  simp only [← e2] at c2 ⊢
  simp only [← e3] at c3 ⊢
  simp only [← e4] at c4 ⊢
  simp only [← e5] at c5 ⊢
  simp only [← e6] at c6 ⊢
  clear e1 e2 e3 e4 e5 e6
  have hk1 : k = 1 ∨ ¬ k = 1 := by omega
  go_enter Tryz.func54, Tryz.ntmps54
  go_wp2_with fail
  refine (ck _).mono ?_
  rintro e W ⟨rfl, f1⟩
  have fW : Fr w W := (Fr.alloc _ _).trans f1
  have i0 : W.cell? ⟨w.heap.size, 0, none⟩ = some (.int .i64 k) := f1.cell (by go_simp)
  have i1 : W.cell? ⟨w.heap.size, 1, none⟩ = some (.int .i64 g) := f1.cell (by go_simp)
  have d0 : ∀ s : Later W, s.u.cell? ⟨w.heap.size, 0, none⟩ = some (.int .i64 k) := fun s => s.fr.cell (f1.cell (by go_simp))
  have d2 : ∀ s : Later W, s.u.cell? ⟨w.heap.size, 2, none⟩ = some (.int .i64 o) := fun s => s.fr.cell (f1.cell (by go_simp))
  have d3 : ∀ s : Later W, s.u.cell? ⟨w.heap.size, 3, none⟩ = some (.int .i64 wi) := fun s => s.fr.cell (f1.cell (by go_simp))
  have d4 : ∀ s : Later W, s.u.cell? ⟨w.heap.size, 4, none⟩ = some (.int .i64 l) := fun s => s.fr.cell (f1.cell (by go_simp))
  have d5 : ∀ s : Later W, s.u.cell? ⟨w.heap.size, 5, none⟩ = some (.int .i64 sz) := fun s => s.fr.cell (f1.cell (by go_simp))
  have d6 : ∀ s : Later W, s.u.cell? ⟨w.heap.size, 6, none⟩ = some (.int .i64 f) := fun s => s.fr.cell (f1.cell (by go_simp))
  have d7 : ∀ s : Later W, s.u.cell? ⟨w.heap.size, 7, none⟩ = some (.int .i64 t) := fun s => s.fr.cell (f1.cell (by go_simp))
  clear f1
  go_wp2_with fail
  refine (cg _).mono ?_
  rintro e w1 ⟨rfl, rfl⟩
  have := Later.some w1
  have hb : b1 = false ∨ (b1 = true ∧ b2 = false) ∨ (b1 = true ∧ b2 = true ∧ b3 = false) ∨ (b1 = true ∧ b2 = true ∧ b3 = true ∧ b4 = false) ∨ (b1 = true ∧ b2 = true ∧ b3 = true ∧ b4 = true ∧ b5 = false) ∨ (b1 = true ∧ b2 = true ∧ b3 = true ∧ b4 = true ∧ b5 = true) := by
    cases b1 <;> cases b2 <;> cases b3 <;> cases b4 <;> cases b5 <;> simp
  rcases hk1 with rfl | hk1
  all_goals
    go_wp2_with fail
    refine (cs _).mono ?_
    rintro e w2 ⟨rfl, rfl⟩
    go_wp2_with fail
    refine wp_region_grown (by kernel_rfl) (by kernel_rfl) ?_
    clear i0 i1 ck cg cs
    rcases hb with rfl | ⟨rfl, rfl⟩ | ⟨rfl, rfl, rfl⟩ | ⟨rfl, rfl, rfl, rfl⟩ | ⟨rfl, rfl, rfl, rfl, rfl⟩ | ⟨rfl, rfl, rfl, rfl, rfl⟩
    all_goals
      repeat (go_big_quiet_step (first | with_reducible exact Calls.grown_of (t1 _) | with_reducible exact Calls.grown_of (t2 _) | with_reducible exact Calls.grown_of (t3 _) | with_reducible exact Calls.grown_of (t4 _) | with_reducible exact Calls.grown_of (t5 _) | with_reducible exact Calls.grown_of (t6 _) | with_reducible exact Calls.grown_same (c1 _) | with_reducible exact Calls.grown_same (c2 _) | with_reducible exact Calls.grown_same (c3 _) | with_reducible exact Calls.grown_same (c4 _) | with_reducible exact Calls.grown_same (c5 _) | with_reducible exact Calls.grown_same (c6 _)))
      refine wpQuiet_nil ?_
      rintro _ ⟨s, rfl⟩
      go_wp2_with fail
      go_ret
      exact ⟨ret_bool (by simp), fW.trans s.fr⟩
end Go.Proofs.YtcofhmikdkkigaaGreatDoor
namespace Go.Proofs.YtcofhmikdkkigaaGreatDoor
open Go.RowKit

theorem markInt64S_nil (k : Int) (w : World) : Calls Tryz.prog 38 #[.slice none 0 0, .int .i64 k] w fun e w' => e = .returned (.int .i64 k) ∧ w' = w := by
  go_enter Tryz.func38, Tryz.ntmps38
  go_wp2_with fail
  refine wp_loop_rounds 1 ?_
  rw [rounds_succ]
  go_wp2_with fail
  go_ret
  exact ⟨rfl, rfl⟩
theorem heldInt64S_nil (k : Int) (w : World) : Calls Tryz.prog 39 #[.slice none 0 0, .int .i64 k] w fun e w' => e = .returned (.int .i64 k) ∧ w' = w := by
  go_enter Tryz.func39, Tryz.ntmps39
  go_wp2_with fail
  refine wp_loop_rounds 1 ?_
  rw [rounds_succ]
  go_wp2_with fail
  go_ret
  exact ⟨rfl, rfl⟩

theorem specNew_is (w : World) : Calls Tryz.prog 163 #[] w fun e w' => e = .returned (.agg #[.int .i64 1, .slice none 0 0, .slice none 0 0, .slice none 0 0, .slice none 0 0]) ∧ Fr w w' := by
  go_enter Tryz.func163, Tryz.ntmps163
  go_wp2
  refine bodyPost_ret (v := .agg #[.int .i64 1, .slice none 0 0, .slice none 0 0, .slice none 0 0, .slice none 0 0]) (by simp [results, Tryz.results163, go_sem]) rfl ⟨rfl, Fr.alloc _ _⟩

theorem implNew_is (w : World) : Calls Tryz.prog 204 #[] w fun e w' => e = .returned (.agg #[.int .i64 1, .slice none 0 0, .slice none 0 0, .slice none 0 0, .slice none 0 0]) ∧ Fr w w' := by
  go_enter Tryz.func204, Tryz.ntmps204
  go_wp2
  refine bodyPost_ret (v := .agg #[.int .i64 1, .slice none 0 0, .slice none 0 0, .slice none 0 0, .slice none 0 0]) (by simp [results, Tryz.results204, go_sem]) rfl ⟨rfl, Fr.alloc _ _⟩
end Go.Proofs.YtcofhmikdkkigaaGreatDoor
