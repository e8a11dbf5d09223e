/-
  What a board holds, as lists; the locks' loop of the board's scene.
-/
import Derived.Test.YtikjodbboljhjaaGreatDoorScOrdI
import Derived.Test.YtikjodbboljhjaaGreatDoorScW2
namespace Go.Proofs.YtikjodbboljhjaaGreatDoor
open Go.RowKit

theorem find_of_mem {α : Type} (key : α → Int) : ∀ (xs : List α), (xs.map key).Pairwise (· < ·) → ∀ x ∈ xs, xs.find? (fun y => key y == key x) = some x
  | [], _, x, hx => by simp at hx
  | y :: ys, h, x, hx => by
    rw [List.map_cons, List.pairwise_cons] at h
    rcases List.mem_cons.1 hx with rfl | hx
    · rw [List.find?_cons]; simp
    · have h1 := h.1 _ (List.mem_map_of_mem hx)
      rw [List.find?_cons, show (key y == key x) = false by simp; omega]
      exact find_of_mem key ys h.2 x hx
theorem mem_find {α : Type} (key : α → Int) (o : Int) (xs : List α) : o ∈ xs.map key ↔ (xs.find? (fun y => key y == o)).isSome = true := by
  rw [List.find?_isSome, List.mem_map]
  constructor
  · rintro ⟨x, hx, rfl⟩; exact ⟨x, hx, by simp⟩
  · rintro ⟨x, hx, e⟩; exact ⟨x, hx, by simpa using e⟩
theorem lvs_of {B : Nat → Prop} {w : World} {fl : Int → Option Value} : ∀ (ls : List Lk), (∀ l ∈ ls, ∃ lv, fl l.o = some (valL lv) ∧ LkR B w lv l) → ∃ lvs, LksR B w lvs ls ∧ ∀ lv ∈ lvs, fl lv.o = some (valL lv)
  | [], _ => ⟨[], LksR.nil _ _, by simp⟩
  | l :: ls, h => by
    obtain ⟨lv, h1, h2⟩ := h l (List.mem_cons_self ..)
    obtain ⟨lvs, h3, h4⟩ := lvs_of ls fun x hx => h x (List.mem_cons_of_mem _ hx)
    refine ⟨lv :: lvs, ⟨by simp [h3.len], fun j q1 q2 => ?_⟩, fun x hx => ?_⟩
    · cases j with
      | zero => exact h2
      | succ j => exact h3.at_ j (by simpa using q1) (by simpa using q2)
    · rcases List.mem_cons.1 hx with rfl | hx
      · rw [h2.o]; exact h1
      · exact h4 x hx
/-- The locks that a board holds. -/
theorem BoardW.lks {lo : Nat × Nat} {w : World} {b b1 b2 b3 b4 n : Nat} {m : Scn} (h : BoardW lo w b b1 b2 b3 b4 n m) (hm : scB m = true) : ∃ fl lvs, MapF w b1 n fl ∧ LksR (Off lo) w lvs m.ls ∧ (∀ j (hj : j < lvs.length), fl lvs[j].o = some (valL lvs[j])) ∧ (∀ o, o ∈ lvs.map Lv.o ↔ (fl o).isSome = true) := by
  obtain ⟨fl, M, hf⟩ := h.m1
  have hr := (sc_rise hm).1
  obtain ⟨lvs, h1, h2⟩ := lvs_of (B := Off lo) (w := w) (fl := fl) m.ls (fun l hl => by
    have h3 := find_of_mem Lk.o m.ls hr l hl
    rcases hf l.o with ⟨q, _⟩ | ⟨lk, lv, q1, q2, q3⟩
    · rw [q] at h3; cases h3
    · rw [q1] at h3; cases h3; exact ⟨lv, q2, q3⟩)
  refine ⟨fl, lvs, M, h1, fun j hj => h2 _ (List.getElem_mem hj), fun o => ?_⟩
  rw [lk_os _ _ h1, mem_find]
  rcases hf o with ⟨q, q2⟩ | ⟨lk, lv, q1, q2, q3⟩
  · rw [q, q2]; simp
  · rw [q1, q2]; simp

/-- A new Readers slice written into the lock at k. -/
theorem reads_setR {w : World} {g k : Nat} {ys : List Lv} {ao : Option Addr} {rn rc : Nat} (h : ReadsG layL w (some ⟨g, 0, none⟩) ys) (hk : k < ys.length) :
    ReadsG layL (w.setCell ⟨g, k * 3 + 2, none⟩ (.slice ao rn rc)) (some ⟨g, 0, none⟩) (ys.set k { ys[k] with ro := ao, rn := rn, rc := rc }) := by
  refine ⟨by simpa using h.len, fun i hi => ⟨g, 0, rfl, fun j hj q hq => ?_⟩⟩
  obtain ⟨b, off, e, hc⟩ := h.at_ k hk
  simp only [Option.some.injEq, Addr.mk.injEq, and_true] at e
  obtain ⟨rfl, rfl⟩ := e
  have hj' : j < ys.length := by simpa using hj
  have hq' : q < 3 := hq
  have h0 := hc j hj' q hq
  have hsz : layL.sz = 3 := rfl
  by_cases hjk : j = k
  · subst hjk
    by_cases hq2 : q = 2
    · subst hq2
      have : (0 + j * layL.sz + 2) = j * 3 + 2 := by rw [hsz]; omega
      rw [this] at h0 ⊢
      rw [World.cell?_setCell_same' _ _ _ (by rw [h0]; rfl)]
      simp [layL]
    · have : (0 + j * layL.sz + q) ≠ j * 3 + 2 := by rw [hsz]; omega
      have hne : (⟨g, 0 + j * layL.sz + q, none⟩ : Addr) ≠ ⟨g, j * 3 + 2, none⟩ := fun e => this (by injection e)
      rw [World.cell?_setCell_other _ _ _ _ hne.symm, h0, List.getElem_set_self]
      have : q = 0 ∨ q = 1 := by omega
      rcases this with rfl | rfl <;> rfl
  · have : (0 + j * layL.sz + q) ≠ k * 3 + 2 := by rw [hsz]; omega
    have hne : (⟨g, 0 + j * layL.sz + q, none⟩ : Addr) ≠ ⟨g, k * 3 + 2, none⟩ := fun e => this (by injection e)
    rw [World.cell?_setCell_other _ _ _ _ hne.symm, h0, List.getElem_set_ne (fun e => hjk e.symm)]

/-- In the midst of the locks' loop: the first k have Readers of their own. -/
structure LX (w wr : World) (g k : Nat) (lvs ys : List Lv) (ls : List Lk) : Prop where
  fr : Fr w wr
  ge : w.heap.size ≤ g
  row : ∃ cur, wr.heap[g]? = some (.cells cur 47 (0, 0))
  rd : ReadsG layL wr (some ⟨g, 0, none⟩) ys
  len : ys.length = ls.length
  new : ∀ j (h1 : j < ys.length) (h2 : j < ls.length), j < k → LkR (fun x => w.heap.size < x ∧ x < wr.heap.size ∧ x ≠ g) wr ys[j] ls[j]
  old : ∀ j (h1 : j < ys.length) (h2 : j < lvs.length), k ≤ j → ys[j] = lvs[j]
theorem LX.glt {w wr : World} {g k : Nat} {lvs ys : List Lv} {ls : List Lk} (h : LX w wr g k lvs ys ls) : g < wr.heap.size := by
  obtain ⟨cur, hc⟩ := h.row
  exact (Array.getElem?_eq_some_iff.1 hc).1
theorem LX.grow {w wr w' : World} {g k : Nat} {lvs ys : List Lv} {ls : List Lk} (h : LX w wr g k lvs ys ls) (f : Fr wr w') : LX w w' g k lvs ys ls := by
  obtain ⟨cur, hc⟩ := h.row
  have hs := f.size
  exact ⟨h.fr.trans f, h.ge, ⟨cur, (f.block g h.glt (by simp)).trans hc⟩, h.rd.fr f, h.len, fun j h1 h2 hk => ((h.new j h1 h2 hk).fr f).mono (fun x q => ⟨q.1, by omega, q.2.2⟩), h.old⟩
theorem LX.put {w wr : World} {g k g2 c2 : Nat} {lvs ys : List Lv} {ls : List Lk} (h : LX w wr g k lvs ys ls) (hk : k < ys.length) (hk2 : k < ls.length) (hk3 : k < lvs.length) (hL : LkR (fun _ => True) wr lvs[k] ls[k]) (R : Reads wr (some ⟨g2, 0, none⟩) ls[k].rd) (hg2 : w.heap.size < g2 ∧ g2 < wr.heap.size ∧ g2 ≠ g) :
    LX w (wr.setCell ⟨g, k * 3 + 2, none⟩ (.slice (some ⟨g2, 0, none⟩) ls[k].rd.length c2)) g (k + 1) lvs (ys.set k { ys[k] with ro := some ⟨g2, 0, none⟩, rn := ls[k].rd.length, rc := c2 }) ls := by
  obtain ⟨cur, hc⟩ := h.row
  have ks := grown_set wr g (k * 3 + 2) (.slice (some ⟨g2, 0, none⟩) ls[k].rd.length c2)
  have hs := ks.size
  have he := h.old k hk (by omega) (Nat.le_refl _)
  have hg := h.ge
  refine ⟨h.fr.then ks (fun j hj => by simp only [Option.some.injEq] at hj; omega), hg, ⟨_, heap_setCell_same wr g (k * 3 + 2) _ _ _ hc⟩, reads_setR h.rd hk, by simpa using h.len, fun j h1 h2 hj => ?_, fun j h1 h2 hj => ?_⟩
  · by_cases e : j = k
    · subst e
      rw [List.getElem_set_self]
      refine ⟨by simp only [he]; exact hL.o, by simp only [he]; exact hL.wr, rfl, R.keep ks (.inr (by simp [blk]; omega)), fun b q => ?_, fun q => by simp at q, hL.sz, hL.io, hL.iw⟩
      simp only [blk, Option.map_some, Option.some.injEq] at q
      subst q
      exact ⟨hg2.1, by omega, hg2.2.2⟩
    · rw [List.getElem_set_ne (fun q => e q.symm)]
      exact ((h.new j (by simpa using h1) h2 (by omega)).keep ks (fun x hx => by cases hx; exact fun q => q.2.2 rfl)).mono (fun x q => ⟨q.1, by omega, q.2.2⟩)
  · rw [List.getElem_set_ne (by omega)]
    exact h.old j (by simpa using h1) h2 (by omega)
end Go.Proofs.YtikjodbboljhjaaGreatDoor
