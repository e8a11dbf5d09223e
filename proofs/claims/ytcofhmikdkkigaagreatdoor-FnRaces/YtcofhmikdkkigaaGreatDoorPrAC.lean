/-
  Pack AC: Bytes, Num, Dec, EvTo, Ev2, EvSpec, EvOk, RegPiv.
-/
import Derived.Test.YtcofhmikdkkigaaGreatDoorPrAA
import Derived.Laws.AppendOwnNone
import Derived.StillTail
import Derived.Deep.Quiet
namespace Go.Proofs.YtcofhmikdkkigaaGreatDoor
open Go.RowKit

def U8 (x : Int) : Prop := 0 ≤ x ∧ x ≤ 255

structure ReadsB (w : World) (ao : Option Addr) (xs : List Int) : Prop where
  len : xs.length ≤ 4294967296
  bd : ∀ x ∈ xs, U8 x
  at_ : ∀ i, i < xs.length → ∃ b off, ao = some ⟨b, off, none⟩ ∧ ∀ j, j < xs.length → w.cell? ⟨b, off + j, none⟩ = some (.int .u8 (xs.getD j 0))

theorem ReadsB.nil (w : World) (ao : Option Addr) : ReadsB w ao [] := ⟨by simp, by simp, by simp⟩

theorem ReadsB.keep {w w' : World} {ao : Option Addr} {xs : List Int} {row : Option Nat} (h : ReadsB w ao xs) (k : w.grownBy w' row) (hne : row = none ∨ blk ao ≠ row) : ReadsB w' ao xs := by
  refine ⟨h.len, h.bd, fun i hi => ?_⟩
  obtain ⟨b, off, e, hc⟩ := h.at_ i hi
  refine ⟨b, off, e, fun j hj => k.cell (hc j hj) ?_⟩
  rcases hne with rfl | hne
  · simp
  · intro hh
    apply hne
    rw [e, ← hh]
    rfl
theorem ReadsB.fr {w w' : World} {ao : Option Addr} {xs : List Int} (h : ReadsB w ao xs) (k : Fr w w') : ReadsB w' ao xs := h.keep k (.inl rfl)

def OwnB (w : World) (base : Nat) (v : Value) (xs : List Int) : Prop :=
  w.ownsRow base 5 1 v xs.length (xs.map (Value.int .u8)) ∧ xs.length ≤ 4294967296 ∧ ∀ x ∈ xs, U8 x

theorem OwnB.reads {w : World} {base : Nat} {g n cap : Nat} {xs : List Int} (h : OwnB w base (.slice (some ⟨g, 0, none⟩) n cap) xs) : ReadsB w (some ⟨g, 0, none⟩) xs := by
  obtain ⟨ho, hl, hb⟩ := h
  have hn : n = xs.length := by
    rcases ho.2 with ⟨e, _⟩ | ⟨g', c', cur, e, _⟩
    · simp at e
    · simp at e; exact e.2.1
  subst hn
  refine ⟨hl, hb, fun i _ => ⟨g, 0, rfl, fun j hj => ?_⟩⟩
  have := ho.cellAt j (by simpa using hj)
  simp only [Nat.zero_add]
  rw [this]
  simp [List.getElem?_eq_getElem hj, List.getD]

theorem Tryz.info5 : (Tryz.prog.info? 5).map (fun i => (i.zero, i.size, i.bytes)) = some (some (.int .u8 0), 1, 1) := by kernel_rfl
end Go.Proofs.YtcofhmikdkkigaaGreatDoor
namespace Go.Proofs.YtcofhmikdkkigaaGreatDoor
open Go.RowKit

end Go.Proofs.YtcofhmikdkkigaaGreatDoor
namespace Go.Proofs.YtcofhmikdkkigaaGreatDoor
open Go.RowKit

def Ev.at (e : Ev) (i : Nat) : Int := [e.k, e.g, e.o, e.w, e.l, e.s, e.f, e.t].getD i 0
def Ev.put (e : Ev) (i : Nat) (x : Int) : Ev :=
  match i with
  | 0 => { e with k := x }
  | 1 => { e with g := x }
  | 2 => { e with o := x }
  | 3 => { e with w := x }
  | 4 => { e with l := x }
  | 5 => { e with s := x }
  | 6 => { e with f := x }
  | 7 => { e with t := x }
  | _ => e
end Go.Proofs.YtcofhmikdkkigaaGreatDoor
namespace Go.Proofs.YtcofhmikdkkigaaGreatDoor
open Go.RowKit

def EvAt (w : World) (b : Nat) (e : Ev) : Prop :=
  w.cell? ⟨b, 0, none⟩ = some (.int .i64 e.k) ∧ w.cell? ⟨b, 1, none⟩ = some (.int .i64 e.g) ∧ w.cell? ⟨b, 2, none⟩ = some (.int .i64 e.o) ∧ w.cell? ⟨b, 3, none⟩ = some (.int .i64 e.w) ∧ w.cell? ⟨b, 4, none⟩ = some (.int .i64 e.l) ∧ w.cell? ⟨b, 5, none⟩ = some (.int .i64 e.s) ∧ w.cell? ⟨b, 6, none⟩ = some (.int .i64 e.f) ∧ w.cell? ⟨b, 7, none⟩ = some (.int .i64 e.t)
theorem EvAt.fr {w w' : World} {b : Nat} {e : Ev} (h : EvAt w b e) (k : Fr w w') : EvAt w' b e := by
  obtain ⟨c0, c1, c2, c3, c4, c5, c6, c7⟩ := h
  exact ⟨k.cell c0, k.cell c1, k.cell c2, k.cell c3, k.cell c4, k.cell c5, k.cell c6, k.cell c7⟩
theorem EvAt.new (w : World) (e : Ev) (t : TypeId) : EvAt (w.alloc (.cells #[.int .i64 e.k, .int .i64 e.g, .int .i64 e.o, .int .i64 e.w, .int .i64 e.l, .int .i64 e.s, .int .i64 e.f, .int .i64 e.t] t)) w.heap.size e := by
  refine ⟨?_, ?_, ?_, ?_, ?_, ?_, ?_, ?_⟩ <;> rw [cell_of_row _ _ _ _ _ _ (heap_alloc_new w _)] <;> rfl

set_option maxHeartbeats 1000000 in
theorem toEvent_any (e : Ev) (w : World) :
    Calls Tryz.prog 85 #[.agg #[.int .i64 e.k, .int .i64 e.g, .int .i64 e.o, .int .i64 e.w, .int .i64 e.l, .int .i64 e.s, .int .i64 e.f, .int .i64 e.t]] w fun x w' => x = .returned (.agg #[.int .i64 e.k, .int .i64 e.g, .int .i64 e.o, .int .i64 e.w, .int .i64 e.l, .int .i64 e.s, .int .i64 e.f, .int .i64 e.t]) ∧ Fr w w' := by
  obtain ⟨k, g, o, wi, l, sz, f, t⟩ := e
  simp only
  go_enter Tryz.func85, Tryz.ntmps85
  go_wp2_with fail
  refine bodyPost_ret (v := .agg #[.int .i64 k, .int .i64 g, .int .i64 o, .int .i64 wi, .int .i64 l, .int .i64 sz, .int .i64 f, .int .i64 t]) (by simp [results, Tryz.results85, go_sem]) rfl ⟨rfl, ?_⟩
  exact ((Fr.alloc _ _).trans (Fr.alloc _ _)).trans (Fr.alloc _ _)

def EvB (w : World) (b : Nat) (e : Ev) : Prop := w.heap[b]? = some (.cells #[.int .i64 e.k, .int .i64 e.g, .int .i64 e.o, .int .i64 e.w, .int .i64 e.l, .int .i64 e.s, .int .i64 e.f, .int .i64 e.t] 31 (0, 0))

theorem EvB.lt {w : World} {b : Nat} {e : Ev} (h : EvB w b e) : b < w.heap.size := (Array.getElem?_eq_some_iff.1 h).1
theorem EvB.keep {w w' : World} {b : Nat} {e : Ev} {row : Option Nat} (h : EvB w b e) (k : w.grownBy w' row) (hr : row ≠ some b) : EvB w' b e := (k.block b h.lt (fun q => hr q.symm)).trans h
theorem EvB.new (w : World) (e : Ev) : EvB (w.alloc (.cells #[.int .i64 e.k, .int .i64 e.g, .int .i64 e.o, .int .i64 e.w, .int .i64 e.l, .int .i64 e.s, .int .i64 e.f, .int .i64 e.t] 31)) w.heap.size e := heap_alloc_new w _
theorem EvB.at {w : World} {b : Nat} {e : Ev} (h : EvB w b e) : EvAt w b e := by
  refine ⟨?_, ?_, ?_, ?_, ?_, ?_, ?_, ?_⟩ <;> rw [cell_of_row _ _ _ _ _ _ h] <;> rfl
theorem EvB.free {w : World} {b : Nat} {e : Ev} (h : EvB w b e) (i : Nat) : w.frozen? ⟨b, i, none⟩ = false := frozen_of_row w b i _ _ h
theorem EvB.setK {w : World} {b : Nat} {e : Ev} (h : EvB w b e) (x : Int) : EvB (w.setCell ⟨b, 0, none⟩ (.int .i64 x)) b { e with k := x } := by
  have h1 := heap_setCell_same w b 0 _ _ (.int .i64 x) h
  exact h1
theorem EvB.setG {w : World} {b : Nat} {e : Ev} (h : EvB w b e) (x : Int) : EvB (w.setCell ⟨b, 1, none⟩ (.int .i64 x)) b { e with g := x } := by
  have h1 := heap_setCell_same w b 1 _ _ (.int .i64 x) h
  exact h1
theorem EvB.setO {w : World} {b : Nat} {e : Ev} (h : EvB w b e) (x : Int) : EvB (w.setCell ⟨b, 2, none⟩ (.int .i64 x)) b { e with o := x } := by
  have h1 := heap_setCell_same w b 2 _ _ (.int .i64 x) h
  exact h1
theorem EvB.setW {w : World} {b : Nat} {e : Ev} (h : EvB w b e) (x : Int) : EvB (w.setCell ⟨b, 3, none⟩ (.int .i64 x)) b { e with w := x } := by
  have h1 := heap_setCell_same w b 3 _ _ (.int .i64 x) h
  exact h1
theorem EvB.setL {w : World} {b : Nat} {e : Ev} (h : EvB w b e) (x : Int) : EvB (w.setCell ⟨b, 4, none⟩ (.int .i64 x)) b { e with l := x } := by
  have h1 := heap_setCell_same w b 4 _ _ (.int .i64 x) h
  exact h1
theorem EvB.setS {w : World} {b : Nat} {e : Ev} (h : EvB w b e) (x : Int) : EvB (w.setCell ⟨b, 5, none⟩ (.int .i64 x)) b { e with s := x } := by
  have h1 := heap_setCell_same w b 5 _ _ (.int .i64 x) h
  exact h1
theorem EvB.setF {w : World} {b : Nat} {e : Ev} (h : EvB w b e) (x : Int) : EvB (w.setCell ⟨b, 6, none⟩ (.int .i64 x)) b { e with f := x } := by
  have h1 := heap_setCell_same w b 6 _ _ (.int .i64 x) h
  exact h1
theorem EvB.setT {w : World} {b : Nat} {e : Ev} (h : EvB w b e) (x : Int) : EvB (w.setCell ⟨b, 7, none⟩ (.int .i64 x)) b { e with t := x } := by
  have h1 := heap_setCell_same w b 7 _ _ (.int .i64 x) h
  exact h1
end Go.Proofs.YtcofhmikdkkigaaGreatDoor
namespace Go.Proofs.YtcofhmikdkkigaaGreatDoor
open Go.RowKit

theorem l2Gor_any (x : Int) (w : World) :
    Calls Tryz.prog 108 #[.int .i64 x] w fun e w' => e = .returned (.bool (inB 0 15 x)) ∧ w' = w := by
  go_enter Tryz.func108, Tryz.ntmps108
  go_wp2_with fail
  refine (l1In_any _ _ _ _).mono ?_
  rintro e w1 ⟨rfl, rfl⟩
  go_wp2_with fail
  go_ret
  exact ⟨rfl, rfl⟩

theorem l2Field_any (h : Bool) (n lo hi : Int) (w : World) :
    Calls Tryz.prog 110 #[.bool h, .int .i64 n, .int .i64 lo, .int .i64 hi] w fun e w' => e = .returned (.bool (fitB h n lo hi)) ∧ w' = w := by
  cases h
  · go_enter Tryz.func110, Tryz.ntmps110
    go_wp2
    go_ret
    exact ⟨rfl, rfl⟩
  · go_enter Tryz.func110, Tryz.ntmps110
    go_wp2_with fail
    refine (l1In_any _ _ _ _).mono ?_
    rintro e w1 ⟨rfl, rfl⟩
    go_wp2_with fail
    go_ret
    exact ⟨rfl, rfl⟩

theorem l2Sizes_any (k : Int) (w : World) :
    Calls Tryz.prog 109 #[.int .i64 k] w fun e w' => e = .returned (.tuple #[.int .i64 (loV k), .int .i64 (hiV k)]) ∧ w' = w := by
  by_cases h6 : k = 6
  · subst h6
    go_enter Tryz.func109, Tryz.ntmps109
    go_wp2
    go_ret2
    exact ⟨rfl, rfl⟩
  by_cases h12 : k = 12
  · subst h12
    go_enter Tryz.func109, Tryz.ntmps109
    go_wp2
    go_ret2
    exact ⟨rfl, rfl⟩
  by_cases h20 : k = 20
  · subst h20
    go_enter Tryz.func109, Tryz.ntmps109
    go_wp2
    go_ret2
    exact ⟨rfl, rfl⟩
  by_cases h21 : k = 21
  · subst h21
    go_enter Tryz.func109, Tryz.ntmps109
    go_wp2
    go_ret2
    exact ⟨rfl, rfl⟩
  by_cases h22 : k = 22
  · subst h22
    go_enter Tryz.func109, Tryz.ntmps109
    go_wp2
    go_ret2
    exact ⟨rfl, rfl⟩
  have e1 : loV k = 0 := by rw [loV, if_neg (by omega)]
  have e2 : hiV k = 0 := by rw [hiV, if_neg h6, if_neg h12, if_neg (by omega), if_neg h22]
  rw [e1, e2]
  clear e1 e2
  go_enter Tryz.func109, Tryz.ntmps109
  go_wp2
  go_ret2
  exact ⟨rfl, rfl⟩

theorem l2Has_any (k d : Int) (w : World) (hd : d = 1 ∨ d = 2 ∨ d = 4 ∨ d = 8 ∨ d = 16 ∨ d = 32) :
    Calls Tryz.prog 111 #[.int .i64 k, .int .i64 d] w fun e w' => e = .returned (.bool (hasB k d)) ∧ Fr w w' := by
  have c1 := fun w => specFields_any k w
  have hb := fldV_in k
  unfold hasB
  obtain ⟨z, hz⟩ : ∃ z, z = fldV k := ⟨_, rfl⟩
  rw [← hz] at hb ⊢
  simp only [← hz] at c1
  clear hz
  rcases hd with rfl | rfl | rfl | rfl | rfl | rfl
  all_goals
    go_enter Tryz.func111, Tryz.ntmps111
    go_wp2_with fail
    refine (c1 _).mono ?_
    rintro e w1 ⟨rfl, f1⟩
    go_wp2_with fail
    go_ret
    first
      | exact ⟨rfl, f1⟩
      | exact ⟨ret_bool (by rw [Int.tdiv_one]), f1⟩
end Go.Proofs.YtcofhmikdkkigaaGreatDoor
namespace Go.Proofs.YtcofhmikdkkigaaGreatDoor
open Go.RowKit

set_option maxHeartbeats 2000000 in
theorem specOk_any (e : Ev) (w : World) :
    Calls Tryz.prog 54 #[.agg #[.int .i64 e.k, .int .i64 e.g, .int .i64 e.o, .int .i64 e.w, .int .i64 e.l, .int .i64 e.s, .int .i64 e.f, .int .i64 e.t]] w fun x w' => x = .returned (.bool (evOk e)) ∧ Fr w w' := by
  have ck := fun w => specFields_any e.k w
  have cg := fun w => l2Gor_any e.g w
  cases hk : inB 1 22 e.k
  · have hv : evOk e = false := by simp [evOk, hk]
    have hf : fldV e.k = -1 := by rw [fldV, hk]; rfl
    rw [hv]
    simp only [hf] at ck
    clear hv hk hf cg
    go_enter Tryz.func54, Tryz.ntmps54
    go_wp2_with fail
    refine (ck _).mono ?_
    rintro e w1 ⟨rfl, f1⟩
    go_wp2_with fail
    go_ret
    exact ⟨rfl, (Fr.alloc _ _).trans f1⟩
  have hz : 0 ≤ fldV e.k := by
    obtain ⟨n, hn, hkn⟩ := kinds hk
    rw [hkn, fldV_at n hn]
    exact (fldN_in n).1
  obtain ⟨z, ez⟩ : ∃ z, z = fldV e.k := ⟨_, rfl⟩
  rw [← ez] at hz
  simp only [← ez] at ck
  clear ez
  cases hg : inB 0 15 e.g
  · have hv : evOk e = false := by simp [evOk, hg]
    rw [hv]
    simp only [hg] at cg
    clear hv hk hg
    obtain ⟨k, g, o, wi, l, sz, f, t⟩ := e
    simp only at ck cg ⊢
    go_enter Tryz.func54, Tryz.ntmps54
    go_wp2_with fail
    refine (ck _).mono ?_
    rintro e w1 ⟨rfl, f1⟩
    have d1 : w1.cell? ⟨w.heap.size, 1, none⟩ = some (.int .i64 g) := f1.cell (by go_simp)
    go_wp2_with fail
    refine (cg _).mono ?_
    rintro e w1 ⟨rfl, rfl⟩
    go_wp2_with fail
    go_ret
    exact ⟨rfl, (Fr.alloc _ _).trans f1⟩
  simp only [hg] at cg
  have hv : evOk e = (ev1 e && ev2 e && ev3 e && ev4 e && ev5 e && ev6 e) := by simp [evOk, hk, hg]
  rw [hv]
  clear hv hk hg
  obtain ⟨k, g, o, wi, l, sz, f, t⟩ := e
  simp only at ck cg ⊢
  have cs := fun w => l2Sizes_any k w
  have t1 := fun w => l2Has_any k 1 w (by simp)
  have t2 := fun w => l2Has_any k 2 w (by simp)
  have t3 := fun w => l2Has_any k 4 w (by simp)
  have t4 := fun w => l2Has_any k 8 w (by simp)
  have t5 := fun w => l2Has_any k 16 w (by simp)
  have t6 := fun w => l2Has_any k 32 w (by simp)
  unfold ev1 ev2 ev3 ev4 ev5 ev6
  simp only
  obtain ⟨lo, hlo⟩ : ∃ z, z = loV k := ⟨_, rfl⟩
  obtain ⟨hi, hhi⟩ : ∃ z, z = hiV k := ⟨_, rfl⟩
  simp only [← hlo, ← hhi] at cs ⊢
  obtain ⟨p1, y1⟩ : ∃ b, b = hasB k 1 := ⟨_, rfl⟩
  obtain ⟨p2, y2⟩ : ∃ b, b = hasB k 2 := ⟨_, rfl⟩
  obtain ⟨p3, y3⟩ : ∃ b, b = hasB k 4 := ⟨_, rfl⟩
  obtain ⟨p4, y4⟩ : ∃ b, b = hasB k 8 := ⟨_, rfl⟩
  obtain ⟨p5, y5⟩ : ∃ b, b = hasB k 16 := ⟨_, rfl⟩
  obtain ⟨p6, y6⟩ : ∃ b, b = hasB k 32 := ⟨_, rfl⟩
  simp only [← y1] at t1 ⊢
  simp only [← y2] at t2 ⊢
  simp only [← y3] at t3 ⊢
  simp only [← y4] at t4 ⊢
  simp only [← y5] at t5 ⊢
  simp only [← y6] at t6 ⊢
  clear y1 y2 y3 y4 y5 y6 hlo hhi
  have c1 := fun w => l2Field_any p1 o 0 15 w
  have c2 := fun w => l2Field_any p2 wi 0 15 w
  have c3 := fun w => l2Field_any p3 l 0 65535 w
  have c4 := fun w => l2Field_any p4 sz lo hi w
  have c5 := fun w => l2Field_any p5 f 0 999 w
  have c6 := fun w => l2Field_any p6 t 0 999 w
  obtain ⟨b1, e1⟩ : ∃ b, b = fitB p1 o 0 15 := ⟨_, rfl⟩
  obtain ⟨b2, e2⟩ : ∃ b, b = fitB p2 wi 0 15 := ⟨_, rfl⟩
  obtain ⟨b3, e3⟩ : ∃ b, b = fitB p3 l 0 65535 := ⟨_, rfl⟩
  obtain ⟨b4, e4⟩ : ∃ b, b = fitB p4 sz lo hi := ⟨_, rfl⟩
  obtain ⟨b5, e5⟩ : ∃ b, b = fitB p5 f 0 999 := ⟨_, rfl⟩
  obtain ⟨b6, e6⟩ : ∃ b, b = fitB p6 t 0 999 := ⟨_, rfl⟩
  simp only [← e1] at c1 ⊢
  simp only [← e2] at c2 ⊢
  simp only [← e3] at c3 ⊢
  simp only [← e4] at c4 ⊢
  simp only [← e5] at c5 ⊢
  simp only [← e6] at c6 ⊢
  clear e1 e2 e3 e4 e5 e6
  have hk1 : k = 1 ∨ ¬ k = 1 := by omega
  go_enter Tryz.func54, Tryz.ntmps54
  go_wp2_with fail
  refine (ck _).mono ?_
  rintro e W ⟨rfl, f1⟩
  have fW : Fr w W := (Fr.alloc _ _).trans f1
  have i0 : W.cell? ⟨w.heap.size, 0, none⟩ = some (.int .i64 k) := f1.cell (by go_simp)
  have i1 : W.cell? ⟨w.heap.size, 1, none⟩ = some (.int .i64 g) := f1.cell (by go_simp)
  have d0 : ∀ s : Later W, s.u.cell? ⟨w.heap.size, 0, none⟩ = some (.int .i64 k) := fun s => s.fr.cell (f1.cell (by go_simp))
  have d2 : ∀ s : Later W, s.u.cell? ⟨w.heap.size, 2, none⟩ = some (.int .i64 o) := fun s => s.fr.cell (f1.cell (by go_simp))
  have d3 : ∀ s : Later W, s.u.cell? ⟨w.heap.size, 3, none⟩ = some (.int .i64 wi) := fun s => s.fr.cell (f1.cell (by go_simp))
  have d4 : ∀ s : Later W, s.u.cell? ⟨w.heap.size, 4, none⟩ = some (.int .i64 l) := fun s => s.fr.cell (f1.cell (by go_simp))
  have d5 : ∀ s : Later W, s.u.cell? ⟨w.heap.size, 5, none⟩ = some (.int .i64 sz) := fun s => s.fr.cell (f1.cell (by go_simp))
  have d6 : ∀ s : Later W, s.u.cell? ⟨w.heap.size, 6, none⟩ = some (.int .i64 f) := fun s => s.fr.cell (f1.cell (by go_simp))
  have d7 : ∀ s : Later W, s.u.cell? ⟨w.heap.size, 7, none⟩ = some (.int .i64 t) := fun s => s.fr.cell (f1.cell (by go_simp))
  clear f1
  go_wp2_with fail
  refine (cg _).mono ?_
  rintro e w1 ⟨rfl, rfl⟩
  have := Later.some w1
  have hb : b1 = false ∨ (b1 = true ∧ b2 = false) ∨ (b1 = true ∧ b2 = true ∧ b3 = false) ∨ (b1 = true ∧ b2 = true ∧ b3 = true ∧ b4 = false) ∨ (b1 = true ∧ b2 = true ∧ b3 = true ∧ b4 = true ∧ b5 = false) ∨ (b1 = true ∧ b2 = true ∧ b3 = true ∧ b4 = true ∧ b5 = true) := by
    cases b1 <;> cases b2 <;> cases b3 <;> cases b4 <;> cases b5 <;> simp
  rcases hk1 with rfl | hk1
  all_goals
    go_wp2_with fail
    refine (cs _).mono ?_
    rintro e w2 ⟨rfl, rfl⟩
    go_wp2_with fail
    refine wp_region_grown (by kernel_rfl) (by kernel_rfl) ?_
    clear i0 i1 ck cg cs
    rcases hb with rfl | ⟨rfl, rfl⟩ | ⟨rfl, rfl, rfl⟩ | ⟨rfl, rfl, rfl, rfl⟩ | ⟨rfl, rfl, rfl, rfl, rfl⟩ | ⟨rfl, rfl, rfl, rfl, rfl⟩
    all_goals
      repeat (go_big_quiet_step (first | with_reducible exact Calls.grown_of (t1 _) | with_reducible exact Calls.grown_of (t2 _) | with_reducible exact Calls.grown_of (t3 _) | with_reducible exact Calls.grown_of (t4 _) | with_reducible exact Calls.grown_of (t5 _) | with_reducible exact Calls.grown_of (t6 _) | with_reducible exact Calls.grown_same (c1 _) | with_reducible exact Calls.grown_same (c2 _) | with_reducible exact Calls.grown_same (c3 _) | with_reducible exact Calls.grown_same (c4 _) | with_reducible exact Calls.grown_same (c5 _) | with_reducible exact Calls.grown_same (c6 _)))
      refine wpQuiet_nil ?_
      rintro _ ⟨s, rfl⟩
      go_wp2_with fail
      go_ret
      exact ⟨ret_bool (by simp), fW.trans s.fr⟩
end Go.Proofs.YtcofhmikdkkigaaGreatDoor
namespace Go.Proofs.YtcofhmikdkkigaaGreatDoor
open Go.RowKit

def Shapes (w : World) : Prop := ∀ n : Nat, n < 22 → w.cell? ⟨0, (n + 1) * 3, none⟩ = some (.int .i64 (fldN n)) ∧
  w.cell? ⟨0, (n + 1) * 3 + 1, none⟩ = some (.int .i64 (loV ((n : Int) + 1))) ∧ w.cell? ⟨0, (n + 1) * 3 + 2, none⟩ = some (.int .i64 (hiV ((n : Int) + 1)))

theorem Shapes.keep {w w' : World} {row : Option Nat} (h : Shapes w) (k : w.grownBy w' row) (hr : row ≠ some 0) : Shapes w' := fun n hn => by
  obtain ⟨h1, h2, h3⟩ := h n hn
  exact ⟨k.cell h1 (fun e => hr e.symm), k.cell h2 (fun e => hr e.symm), k.cell h3 (fun e => hr e.symm)⟩
theorem Shapes.fr {w w' : World} (h : Shapes w) (k : Fr w w') : Shapes w' := h.keep k (by simp)

set_option maxHeartbeats 2000000 in
theorem implOk_any (e : Ev) (w : World) (hs : Shapes w) :
    Calls Tryz.prog 114 #[.agg #[.int .i64 e.k, .int .i64 e.g, .int .i64 e.o, .int .i64 e.w, .int .i64 e.l, .int .i64 e.s, .int .i64 e.f, .int .i64 e.t]] w fun x w' => x = .returned (.bool (evOk e)) ∧ Fr w w' := by
  have ck := fun w => kindIn_any e.k w
  have cg := fun w => gorIn_any e.g w
  cases hk : inB 1 22 e.k
  · have hv : evOk e = false := by simp [evOk, hk]
    rw [hv]
    simp only [hk] at ck
    clear hv hk hs cg
    go_enter Tryz.func114, Tryz.ntmps114
    go_wp2_with fail
    refine (ck _).mono ?_
    rintro e w1 ⟨rfl, rfl⟩
    go_wp2_with fail
    go_ret
    exact ⟨rfl, Fr.alloc _ _⟩
  cases hg : inB 0 15 e.g
  · have hv : evOk e = false := by simp [evOk, hg]
    rw [hv]
    simp only [hk] at ck
    simp only [hg] at cg
    clear hv hk hs hg
    go_enter Tryz.func114, Tryz.ntmps114
    go_wp2_with fail
    refine (ck _).mono ?_
    rintro e w1 ⟨rfl, rfl⟩
    go_wp2_with fail
    refine (cg _).mono ?_
    rintro e w1 ⟨rfl, rfl⟩
    go_wp2_with fail
    go_ret
    exact ⟨rfl, Fr.alloc _ _⟩
  simp only [hk] at ck
  simp only [hg] at cg
  have hv : evOk e = (ev1 e && ev2 e && ev3 e && ev4 e && ev5 e && ev6 e) := by simp [evOk, hk, hg]
  rw [hv]
  clear hv
  obtain ⟨n, hn, hkn⟩ := kinds hk
  obtain ⟨h1, h2, h3⟩ := hs n hn
  have hw0 : 0 < w.heap.size := World.block_lt_of_cell? w _ h1
  obtain ⟨z, hz⟩ : ∃ z, z = fldN n := ⟨_, rfl⟩
  obtain ⟨lo, hlo⟩ : ∃ z, z = loV ((n : Int) + 1) := ⟨_, rfl⟩
  obtain ⟨hi, hhi⟩ : ∃ z, z = hiV ((n : Int) + 1) := ⟨_, rfl⟩
  rw [← hz] at h1
  rw [← hlo] at h2
  rw [← hhi] at h3
  obtain ⟨k, g, o, wi, l, sz, f, t⟩ := e
  simp only at hkn ck cg ⊢
  subst hkn
  have m := mask_has n hn
  rw [← hz] at m
  have c1 := fun w => fits_any z lo hi 1 o 0 15 _ (m 1 (by simp)) w
  have c2 := fun w => fits_any z lo hi 2 wi 0 15 _ (m 2 (by simp)) w
  have c3 := fun w => fits_any z lo hi 4 l 0 65535 _ (m 4 (by simp)) w
  have c4 := fun w => fits_any z lo hi 8 sz lo hi _ (m 8 (by simp)) w
  have c5 := fun w => fits_any z lo hi 16 f 0 999 _ (m 16 (by simp)) w
  have c6 := fun w => fits_any z lo hi 32 t 0 999 _ (m 32 (by simp)) w
  unfold ev1 ev2 ev3 ev4 ev5 ev6
  simp only
  rw [← hlo, ← hhi]
  obtain ⟨b1, e1⟩ : ∃ b, b = fitB (hasB ((n : Int) + 1) 1) o 0 15 := ⟨_, rfl⟩
  obtain ⟨b2, e2⟩ : ∃ b, b = fitB (hasB ((n : Int) + 1) 2) wi 0 15 := ⟨_, rfl⟩
  obtain ⟨b3, e3⟩ : ∃ b, b = fitB (hasB ((n : Int) + 1) 4) l 0 65535 := ⟨_, rfl⟩
  obtain ⟨b4, e4⟩ : ∃ b, b = fitB (hasB ((n : Int) + 1) 8) sz lo hi := ⟨_, rfl⟩
  obtain ⟨b5, e5⟩ : ∃ b, b = fitB (hasB ((n : Int) + 1) 16) f 0 999 := ⟨_, rfl⟩
  obtain ⟨b6, e6⟩ : ∃ b, b = fitB (hasB ((n : Int) + 1) 32) t 0 999 := ⟨_, rfl⟩
  simp only [← e1] at c1 ⊢
  simp only [← e2] at c2 ⊢
  simp only [← e3] at c3 ⊢
  simp only [← e4] at c4 ⊢
  simp only [← e5] at c5 ⊢
  simp only [← e6] at c6 ⊢
  clear e1 e2 e3 e4 e5 e6 m hz hlo hhi hs hk hg
  go_enter Tryz.func114, Tryz.ntmps114
  go_wp2_with fail
  refine (ck _).mono ?_
  rintro e w1 ⟨rfl, rfl⟩
  go_wp2_with fail
  refine (cg _).mono ?_
  rintro e w1 ⟨rfl, rfl⟩
  go_wp2_with fail
  obtain ⟨W, hW⟩ : ∃ W, W = (w.alloc (.cells #[.int .i64 ((n : Int) + 1), .int .i64 g, .int .i64 o, .int .i64 wi, .int .i64 l, .int .i64 sz, .int .i64 f, .int .i64 t] 31)).alloc (.cells #[.int .i64 z, .int .i64 lo, .int .i64 hi] 186) := ⟨_, rfl⟩
  rw [← hW]
  have fW : Fr w W := by rw [hW]; exact (Fr.alloc _ _).trans (Fr.alloc _ _)
  have d0 : ∀ s : Later W, s.u.cell? ⟨w.heap.size, 0, none⟩ = some (.int .i64 ((n : Int) + 1)) := fun s => s.fr.cell (by rw [hW]; go_simp)
  have d1 : ∀ s : Later W, s.u.cell? ⟨w.heap.size, 1, none⟩ = some (.int .i64 g) := fun s => s.fr.cell (by rw [hW]; go_simp)
  have d2 : ∀ s : Later W, s.u.cell? ⟨w.heap.size, 2, none⟩ = some (.int .i64 o) := fun s => s.fr.cell (by rw [hW]; go_simp)
  have d3 : ∀ s : Later W, s.u.cell? ⟨w.heap.size, 3, none⟩ = some (.int .i64 wi) := fun s => s.fr.cell (by rw [hW]; go_simp)
  have d4 : ∀ s : Later W, s.u.cell? ⟨w.heap.size, 4, none⟩ = some (.int .i64 l) := fun s => s.fr.cell (by rw [hW]; go_simp)
  have d5 : ∀ s : Later W, s.u.cell? ⟨w.heap.size, 5, none⟩ = some (.int .i64 sz) := fun s => s.fr.cell (by rw [hW]; go_simp)
  have d6 : ∀ s : Later W, s.u.cell? ⟨w.heap.size, 6, none⟩ = some (.int .i64 f) := fun s => s.fr.cell (by rw [hW]; go_simp)
  have d7 : ∀ s : Later W, s.u.cell? ⟨w.heap.size, 7, none⟩ = some (.int .i64 t) := fun s => s.fr.cell (by rw [hW]; go_simp)
  have q0 : ∀ s : Later W, s.u.cell? ⟨w.heap.size + 1, 0, none⟩ = some (.int .i64 z) := fun s => s.fr.cell (by rw [hW]; go_simp)
  have q1 : ∀ s : Later W, s.u.cell? ⟨w.heap.size + 1, 1, none⟩ = some (.int .i64 lo) := fun s => s.fr.cell (by rw [hW]; go_simp)
  have q2 : ∀ s : Later W, s.u.cell? ⟨w.heap.size + 1, 2, none⟩ = some (.int .i64 hi) := fun s => s.fr.cell (by rw [hW]; go_simp)
  clear hW h1 h2 h3 hw0 ck cg hn
  have := Later.some W
  have hb : b1 = false ∨ (b1 = true ∧ b2 = false) ∨ (b1 = true ∧ b2 = true ∧ b3 = false) ∨ (b1 = true ∧ b2 = true ∧ b3 = true ∧ b4 = false) ∨ (b1 = true ∧ b2 = true ∧ b3 = true ∧ b4 = true ∧ b5 = false) ∨ (b1 = true ∧ b2 = true ∧ b3 = true ∧ b4 = true ∧ b5 = true) := by
    cases b1 <;> cases b2 <;> cases b3 <;> cases b4 <;> cases b5 <;> simp
  refine wp_region_grown (by kernel_rfl) (by kernel_rfl) ?_
  rcases hb with rfl | ⟨rfl, rfl⟩ | ⟨rfl, rfl, rfl⟩ | ⟨rfl, rfl, rfl, rfl⟩ | ⟨rfl, rfl, rfl, rfl, rfl⟩ | ⟨rfl, rfl, rfl, rfl, rfl⟩
  all_goals
    repeat (go_big_quiet_step (first | with_reducible exact Calls.grown_of (c1 _) | with_reducible exact Calls.grown_of (c2 _) | with_reducible exact Calls.grown_of (c3 _) | with_reducible exact Calls.grown_of (c4 _) | with_reducible exact Calls.grown_of (c5 _) | with_reducible exact Calls.grown_of (c6 _) | with_reducible exact Calls.grown_same (mostObj_any _ _)))
    refine wpQuiet_nil ?_
    rintro _ ⟨s, rfl⟩
    go_wp2_with fail
    go_ret
    exact ⟨ret_bool (by simp), fW.trans s.fr⟩
end Go.Proofs.YtcofhmikdkkigaaGreatDoor
namespace Go.Proofs.YtcofhmikdkkigaaGreatDoor
open Go.RowKit

section
variable {P : Program} {md : Region.Mode} {ops : Array Oper} {C C2 : World → Prop}

def behindB (md : Region.Mode) (ops : Array Oper) (n : Nat) : Bool :=
  (List.range ops.size).all fun t => decide (t ≤ n) || (List.range t).any fun s => decide (n ≤ s) && Region.waitsFor md ops t s
def headB (md : Region.Mode) (ops : Array Oper) : Nat → Nat → Array Bool → Bool
  | 0, k, listed => decide (Region.ready md ops listed = [k]) && Region.lexFrom md ops (ops.size - k - 1) (k + 1) (listed.setIfInBounds k true)
  | f + 1, k, listed => (Region.ready md ops listed).contains k && Region.free md ops listed k && headB md ops f (k + 1) (listed.setIfInBounds k true)
def pivotB (md : Region.Mode) (ops : Array Oper) (n : Nat) : Bool :=
  Region.noSelect ops && decide (n < ops.size) && Region.sinkB md ops n && behindB md ops n && headB md ops n 0 (Array.replicate ops.size false)

theorem sink_wait {n i : Nat} (hs : Region.sinkB md ops n = true) (hi : i < n) : ∃ j, i < j ∧ j ≤ n ∧ Region.waitsFor md ops j i = true := by
  unfold Region.sinkB at hs
  have h1 := List.all_eq_true.1 hs i (List.mem_range.2 hi)
  obtain ⟨j, hj, h2⟩ := List.any_eq_true.1 h1
  simp only [Bool.and_eq_true, decide_eq_true_eq] at h2
  have := List.mem_range.1 hj
  exact ⟨j, h2.1, by omega, h2.2⟩
theorem pivot_waits {n : Nat} (hs : Region.sinkB md ops n = true) {listed : Array Bool} (inv : HeadInv md ops n listed) : ∀ (d i : Nat), n - i ≤ d → i < n → listed.getD i false = false → n ∉ Region.ready md ops listed
  | 0, i, hd, hi, _ => by omega
  | d + 1, i, hd, hi, hl => by
    obtain ⟨j, h1, h2, h3⟩ := sink_wait hs hi
    obtain ⟨oj, ho, e, he, hb, hon⟩ := Region.waitsFor_spec h3
    by_cases hjn : j = n
    · subst hjn
      intro hr
      obtain ⟨-, o, ho2, hall⟩ := mem_ready.1 hr
      rw [ho] at ho2
      cases ho2
      have := hall e he hb
      rw [hon, hl] at this
      cases this
    · refine pivot_waits hs inv d j (by omega) (by omega) ?_
      cases hj : listed.getD j false
      · rfl
      · have := inv.closed j oj ho hj e he hb
        rw [hon, hl] at this
        cases this
theorem behind_not {n t : Nat} (hb : behindB md ops n = true) {listed : Array Bool} (inv : HeadInv md ops n listed) (ht : n < t) : t ∉ Region.ready md ops listed := by
  intro hr
  obtain ⟨-, o, ho, hall⟩ := mem_ready.1 hr
  have hts := (Array.getElem?_eq_some_iff.1 ho).1
  unfold behindB at hb
  have h1 := List.all_eq_true.1 hb t (List.mem_range.2 hts)
  simp only [Bool.or_eq_true, decide_eq_true_eq] at h1
  rcases h1 with h1 | h1
  · omega
  · obtain ⟨s, hs, h2⟩ := List.any_eq_true.1 h1
    simp only [Bool.and_eq_true, decide_eq_true_eq] at h2
    obtain ⟨oj, ho2, e, he, hbd, hon⟩ := Region.waitsFor_spec h2.2
    rw [ho] at ho2
    cases ho2
    have h3 := hall e he hbd
    have h4 := inv.tail s h2.1 (by have := List.mem_range.1 hs; omega)
    rw [hon, getD_both h4] at h3
    cases h3

def wpHd (P : Program) (md : Region.Mode) (ops : Array Oper) (C : World → Prop) (n : Nat) (L : Array Bool → Act → Prop) : Nat → Array Bool → Act → Prop
  | 0, listed, a => L listed a
  | f + 1, listed, a => Region.ready md ops listed ≠ [] ∧ ∀ i ∈ Region.ready md ops listed, i < n ∧ qOp P ops C i (wpHd P md ops C n L f (listed.setIfInBounds i true)) a

theorem wpAny_of_hd {n g : Nat} {L : Array Bool → Act → Prop} {Q' : Exit → Act → World → Prop} (hL : ∀ listed a w, C w → L listed a → wpAny P md ops Q' g listed a w) :
    ∀ (f : Nat) (listed : Array Bool) (a : Act) (w : World), C w → wpHd P md ops C n L f listed a → wpAny P md ops Q' (f + g) listed a w
  | 0, listed, a, w, hw, h => by rw [Nat.zero_add]; exact hL _ _ _ hw h
  | f + 1, listed, a, w, hw, h => by
    have e : f + 1 + g = (f + g) + 1 := by omega
    rw [e]
    exact ⟨fun h0 => absurd h0 h.1, fun i hi => wpOp_of_qOp hw (fun a' w' hw' h' => wpAny_of_hd hL f _ a' w' hw' h') (h.2 i hi).2⟩

theorem hd_first {n i : Nat} {oi : Oper} {v : Value} {L : Array Bool → Act → Prop} (hi : ops[i]? = some oi) (hsel : Region.noSelect ops = true) (hs : Region.sinkB md ops n = true) (hb : behindB md ops n = true) (hin : i < n)
    (hdone : ∀ listed a, L listed a → ∀ j ∈ Region.ready md ops listed, n ≤ j) :
    ∀ (f : Nat) (listed : Array Bool) (a : Act), HeadInv md ops n listed →
      (∀ j oj, ops[j]? = some oj → j ≠ i → listed.getD j true = false → (∀ e ∈ oj.after, Region.binds md e = true → e.on ≠ i) → oi.apart ops oj = true) →
      i ∈ Region.ready md ops listed → YieldsIn P ops C oi v a →
      wpHd P md ops C n L f (listed.setIfInBounds i true) (a.put oi.dst v) → wpHd P md ops C n L (f + 1) listed a := by
  intro f
  induction f with
  | zero =>
    intro listed a inv _ hr hy H
    refine ⟨fun h => by rw [h] at hr; (cases hr), fun j hj => ?_⟩
    have hjn : j < n := by
      have h1 := pivot_waits hs inv (n - i) i (Nat.le_refl _) hin (getD_both (mem_ready.1 hr).1)
      have h2 := fun q : n < j => behind_not hb inv q hj
      by_cases e : j = n
      · rw [e] at hj; exact absurd hj h1
      · exact Nat.lt_of_le_of_ne (Nat.not_lt.1 h2) e
    refine ⟨hjn, ?_⟩
    by_cases hji : j = i
    · subst hji
      exact hy.qOp hi H
    · have := hdone _ _ H j (ready_mono hj hji)
      omega
  | succ f ih =>
    intro listed a inv hfree hr hy H
    refine ⟨fun h => by rw [h] at hr; (cases hr), fun j hj => ?_⟩
    have hjn : j < n := by
      have h1 := pivot_waits hs inv (n - i) i (Nat.le_refl _) hin (getD_both (mem_ready.1 hr).1)
      have h2 := fun q : n < j => behind_not hb inv q hj
      by_cases e : j = n
      · rw [e] at hj; exact absurd hj h1
      · exact Nat.lt_of_le_of_ne (Nat.not_lt.1 h2) e
    refine ⟨hjn, ?_⟩
    by_cases hji : j = i
    · subst hji
      exact hy.qOp hi H
    · have h1 := (H.2 j (ready_mono hj hji)).2
      obtain ⟨hjun, oj, hoj, hall⟩ := mem_ready.1 hj
      have hnot : ∀ e ∈ oj.after, Region.binds md e = true → e.on ≠ i := fun e he hbd heq => by
        have h3 := hall e he hbd
        rw [heq, getD_both (mem_ready.1 hr).1] at h3
        cases h3
      have h2 := qOp_put hoj (hfree j oj hoj hji hjun hnot) (fun cs b => Region.noSelect_spec hsel i oi cs b hi) (fun cs b => Region.noSelect_spec hsel j oj cs b hoj) hy h1
      refine qOp_mono (fun a' h3 => ih (listed.setIfInBounds j true) a' (inv.set hj hjn) (fun k ok hk hki hun hno => ?_) (ready_mono hr (Ne.symm hji)) h3.1 ?_) h2
      · refine hfree k ok hk hki ?_ hno
        by_cases hjk : j = k
        · subst hjk; exact hjun
        · rw [getD_set_ne true hjk] at hun; exact hun
      · rw [Array.setIfInBounds_comm _ _ hji]
        exact h3.2

theorem hd_lex {n : Nat} {Lq : Act → Prop} (hsel : Region.noSelect ops = true) (hs : Region.sinkB md ops n = true) (hb : behindB md ops n = true) :
    ∀ (l : List Oper) (k : Nat) (listed : Array Bool) (a : Act), (∀ j, j < l.length → l[j]? = ops[k + j]?) → k + l.length = n → HeadInv md ops n listed →
    headB md ops l.length k listed = true → wpQuiet P ops C Lq l a →
    wpHd P md ops C n (fun listed' a' => headB md ops 0 n listed' = true ∧ Lq a') l.length listed a
  | [], k, listed, a, _, hk, _, hB, h => by
    have : k = n := by simpa using hk
    subst this
    exact ⟨hB, h⟩
  | o :: l, k, listed, a, hl, hk, inv, hB, h => by
    have h0 : ops[k]? = some o := by simpa using (hl 0 (by simp)).symm
    simp only [List.length_cons, headB, Bool.and_eq_true] at hB
    obtain ⟨⟨hr, hf⟩, hB'⟩ := hB
    have hkn : k < n := by simp only [List.length_cons] at hk; omega
    have hr' : k ∈ Region.ready md ops listed := by simpa using hr
    have hst : qOp P ops C k (wpQuiet P ops C Lq l) a := by unfold qOp; simp only [h0]; exact h
    obtain ⟨v, hy, hK⟩ := yieldsIn_of_qOp h0 hst
    refine hd_first h0 hsel hs hb hkn (fun listed' a' hL j hj => ?_) l.length listed a inv (Region.free_spec h0 hf) hr' hy
      (hd_lex hsel hs hb l (k + 1) _ _ (fun j hj => by have := hl (j + 1) (by simpa using hj); simpa [Nat.add_assoc, Nat.add_comm 1 j] using this) (by simp only [List.length_cons] at hk; omega) (inv.set hr' hkn) hB' hK)
    have h1 := hL.1
    simp only [headB, Bool.and_eq_true, decide_eq_true_eq] at h1
    rw [h1.1] at hj
    simp only [List.mem_singleton] at hj
    omega

theorem wp_region_pivot {id : Nat} {Q : Exit → Act → World → Prop} {a : Act} {w : World} {l : List Oper} (n : Nat) (hm : P.follows .mixedOrders = true) (hB : pivotB .any l.toArray n = true) (hC : C w.drew)
    (h : wpQuiet P l.toArray C (fun a1 => ∀ u, C u → ∀ o, l[n]? = some o → Region.wanted o (yielded l.toArray a1.tmps) = true ∧
      o.wp P a1 u (fun a2 u2 => C2 u2 ∧ wpQuiet P l.toArray C2 (fun a' => ∀ w', C2 w' → Q .normal a' w') (l.drop (n + 1)) a2) Q) (l.take n) a) : (Code.region id l.toArray true).wp P Q a w := by
  simp only [pivotB, Bool.and_eq_true, decide_eq_true_eq] at hB
  obtain ⟨⟨⟨⟨hsel, hn⟩, hs⟩, hb⟩, hh⟩ := hB
  have hn' : n < l.length := by simpa using hn
  have htl : (l.take n).length = n := by simp; omega
  have inv0 : HeadInv .any l.toArray n (Array.replicate l.toArray.size false) :=
    ⟨by simp, fun j oj _ hl => (by rw [getD_replicate_false] at hl; cases hl), fun t _ ht => getD_in (by simpa using ht) (getD_replicate_false _ _)⟩
  have H := hd_lex (P := P) (C := C) (md := .any) hsel hs hb (l.take n) 0 (Array.replicate l.toArray.size false) a (fun j hj => by
    have hj' : j < n := by rw [htl] at hj; exact hj
    simp [hj']) (by simpa using htl) inv0 (by rw [htl]; exact hh) h
  refine wp_region_any hm ?_
  have hgo := wpAny_of_hd (P := P) (C := C) (md := .any) (Q' := Q) (g := l.toArray.size - n) (fun listed a1 u hu hL => ?_) _ _ _ w.drew hC H
  · rw [htl] at hgo
    have e : n + (l.toArray.size - n) = l.toArray.size := by omega
    rw [e] at hgo
    exact hgo
  · obtain ⟨h1, h2⟩ := hL
    simp only [headB, Bool.and_eq_true, decide_eq_true_eq] at h1
    obtain ⟨hr, hlex⟩ := h1
    have e : l.toArray.size - n = (l.toArray.size - n - 1) + 1 := by omega
    rw [e]
    refine ⟨fun h0 => (by rw [hr] at h0; cases h0), fun i hi => ?_⟩
    rw [hr] at hi
    simp only [List.mem_singleton] at hi
    subst hi
    obtain ⟨o, ho⟩ : ∃ o, l[i]? = some o := ⟨l[i], by simp [hn']⟩
    have hoA : l.toArray[i]? = some o := by simpa using ho
    obtain ⟨hw, hwp⟩ := h2 u hu o ho
    unfold wpOp
    simp only [hoA]
    rw [if_pos hw]
    refine .inl (Oper.wp_mono (fun a2 u2 hq => ?_) hwp)
    have hdl : (l.drop (i + 1)).length = l.toArray.size - i - 1 := by simp; omega
    have hq2 := wpAnyQ_lex (P := P) (C := C2) (md := .any) hsel (l.drop (i + 1)) (i + 1) _ a2 (fun j => by simp [List.getElem?_drop]) (by rw [hdl]; exact hlex) hq.2
    rw [hdl] at hq2
    exact wpAny_of_quiet (fun a' w' hw' h' => h' w' hw') _ _ _ _ hq.1 hq2
end
end Go.Proofs.YtcofhmikdkkigaaGreatDoor
