/-
  What a board holds, as lists; the locks' loop of the board's scene.
-/
import Derived.Test.YtihdablgnmkjnaaGreatDoorPileAQ
import Derived.Test.YtihdablgnmkjnaaGreatDoorPileAN
import Derived.Test.YtihdablgnmkjnaaGreatDoorPileAD
import Derived.Test.YtihdablgnmkjnaaGreatDoorPileAA
namespace Go.Proofs.YtihdablgnmkjnaaGreatDoor
open Go.RowKit

theorem find_of_mem {α : Type} (key : α → Int) : ∀ (xs : List α), (xs.map key).Pairwise (· < ·) → ∀ x ∈ xs, xs.find? (fun y => key y == key x) = some x
  | [], _, x, hx => by simp at hx
  | y :: ys, h, x, hx => by
    rw [List.map_cons, List.pairwise_cons] at h
    rcases List.mem_cons.1 hx with rfl | hx
    · rw [List.find?_cons]; simp
    · have h1 := h.1 _ (List.mem_map_of_mem hx)
      rw [List.find?_cons, show (key y == key x) = false by simp; omega]
      exact find_of_mem key ys h.2 x hx
theorem mem_find {α : Type} (key : α → Int) (o : Int) (xs : List α) : o ∈ xs.map key ↔ (xs.find? (fun y => key y == o)).isSome = true := by
  rw [List.find?_isSome, List.mem_map]
  constructor
  · rintro ⟨x, hx, rfl⟩; exact ⟨x, hx, by simp⟩
  · rintro ⟨x, hx, e⟩; exact ⟨x, hx, by simpa using e⟩
theorem lvs_of {B : Nat → Prop} {w : World} {fl : Int → Option Value} : ∀ (ls : List Lk), (∀ l ∈ ls, ∃ lv, fl l.o = some (valL lv) ∧ LkR B w lv l) → ∃ lvs, LksR B w lvs ls ∧ ∀ lv ∈ lvs, fl lv.o = some (valL lv)
  | [], _ => ⟨[], LksR.nil _ _, by simp⟩
  | l :: ls, h => by
    obtain ⟨lv, h1, h2⟩ := h l (List.mem_cons_self ..)
    obtain ⟨lvs, h3, h4⟩ := lvs_of ls fun x hx => h x (List.mem_cons_of_mem _ hx)
    refine ⟨lv :: lvs, ⟨by simp [h3.len], fun j q1 q2 => ?_⟩, fun x hx => ?_⟩
    · cases j with
      | zero => exact h2
      | succ j => exact h3.at_ j (by simpa using q1) (by simpa using q2)
    · rcases List.mem_cons.1 hx with rfl | hx
      · rw [h2.o]; exact h1
      · exact h4 x hx
/-- The locks that a board holds. -/
theorem BoardW.lks {lo : Nat × Nat} {w : World} {b b1 b2 b3 b4 n : Nat} {m : Scn} (h : BoardW lo w b b1 b2 b3 b4 n m) (hm : scB m = true) : ∃ fl lvs, MapF w b1 n fl ∧ LksR (Off lo) w lvs m.ls ∧ (∀ j (hj : j < lvs.length), fl lvs[j].o = some (valL lvs[j])) ∧ (∀ o, o ∈ lvs.map Lv.o ↔ (fl o).isSome = true) := by
  obtain ⟨fl, M, hf⟩ := h.m1
  have hr := (sc_rise hm).1
  obtain ⟨lvs, h1, h2⟩ := lvs_of (B := Off lo) (w := w) (fl := fl) m.ls (fun l hl => by
    have h3 := find_of_mem Lk.o m.ls hr l hl
    rcases hf l.o with ⟨q, _⟩ | ⟨lk, lv, q1, q2, q3⟩
    · rw [q] at h3; cases h3
    · rw [q1] at h3; cases h3; exact ⟨lv, q2, q3⟩)
  refine ⟨fl, lvs, M, h1, fun j hj => h2 _ (List.getElem_mem hj), fun o => ?_⟩
  rw [lk_os _ _ h1, mem_find]
  rcases hf o with ⟨q, q2⟩ | ⟨lk, lv, q1, q2, q3⟩
  · rw [q, q2]; simp
  · rw [q1, q2]; simp

/-- A new Readers slice written into the lock at k. -/
theorem reads_setR {w : World} {g k : Nat} {ys : List Lv} {ao : Option Addr} {rn rc : Nat} (h : ReadsG layL w (some ⟨g, 0, none⟩) ys) (hk : k < ys.length) :
    ReadsG layL (w.setCell ⟨g, k * 3 + 2, none⟩ (.slice ao rn rc)) (some ⟨g, 0, none⟩) (ys.set k { ys[k] with ro := ao, rn := rn, rc := rc }) := by
  refine ⟨by simpa using h.len, fun i hi => ⟨g, 0, rfl, fun j hj q hq => ?_⟩⟩
  obtain ⟨b, off, e, hc⟩ := h.at_ k hk
  simp only [Option.some.injEq, Addr.mk.injEq, and_true] at e
  obtain ⟨rfl, rfl⟩ := e
  have hj' : j < ys.length := by simpa using hj
  have hq' : q < 3 := hq
  have h0 := hc j hj' q hq
  have hsz : layL.sz = 3 := rfl
  by_cases hjk : j = k
  · subst hjk
    by_cases hq2 : q = 2
    · subst hq2
      have : (0 + j * layL.sz + 2) = j * 3 + 2 := by rw [hsz]; omega
      rw [this] at h0 ⊢
      rw [World.cell?_setCell_same' _ _ _ (by rw [h0]; rfl)]
      simp [layL]
    · have : (0 + j * layL.sz + q) ≠ j * 3 + 2 := by rw [hsz]; omega
      have hne : (⟨g, 0 + j * layL.sz + q, none⟩ : Addr) ≠ ⟨g, j * 3 + 2, none⟩ := fun e => this (by injection e)
      rw [World.cell?_setCell_other _ _ _ _ hne.symm, h0, List.getElem_set_self]
      have : q = 0 ∨ q = 1 := by omega
      rcases this with rfl | rfl <;> rfl
  · have : (0 + j * layL.sz + q) ≠ k * 3 + 2 := by rw [hsz]; omega
    have hne : (⟨g, 0 + j * layL.sz + q, none⟩ : Addr) ≠ ⟨g, k * 3 + 2, none⟩ := fun e => this (by injection e)
    rw [World.cell?_setCell_other _ _ _ _ hne.symm, h0, List.getElem_set_ne (fun e => hjk e.symm)]

/-- In the midst of the locks' loop: the first k have Readers of their own. -/
structure LX (w wr : World) (g k : Nat) (lvs ys : List Lv) (ls : List Lk) : Prop where
  fr : Fr w wr
  ge : w.heap.size ≤ g
  row : ∃ cur, wr.heap[g]? = some (.cells cur 47 (0, 0))
  rd : ReadsG layL wr (some ⟨g, 0, none⟩) ys
  len : ys.length = ls.length
  new : ∀ j (h1 : j < ys.length) (h2 : j < ls.length), j < k → LkR (fun x => w.heap.size < x ∧ x < wr.heap.size ∧ x ≠ g) wr ys[j] ls[j]
  old : ∀ j (h1 : j < ys.length) (h2 : j < lvs.length), k ≤ j → ys[j] = lvs[j]
  ow : ∀ j (h1 : j < ys.length) (h2 : j < ls.length), j < k → ∃ gj, ys[j].ro = some ⟨gj, 0, none⟩ ∧ gj ≠ g ∧ gj < wr.heap.size ∧ OwnI wr w.heap.size (.slice (some ⟨gj, 0, none⟩) ys[j].rn ys[j].rc) ls[j].rd
  ap : ∀ i j (h1 : i < ys.length) (h2 : j < ys.length), i < k → j < k → i ≠ j → ys[i].ro ≠ ys[j].ro
theorem LX.glt {w wr : World} {g k : Nat} {lvs ys : List Lv} {ls : List Lk} (h : LX w wr g k lvs ys ls) : g < wr.heap.size := by
  obtain ⟨cur, hc⟩ := h.row
  exact (Array.getElem?_eq_some_iff.1 hc).1
theorem LX.grow {w wr w' : World} {g k : Nat} {lvs ys : List Lv} {ls : List Lk} (h : LX w wr g k lvs ys ls) (f : Fr wr w') : LX w w' g k lvs ys ls := by
  obtain ⟨cur, hc⟩ := h.row
  have hs := f.size
  exact ⟨h.fr.trans f, h.ge, ⟨cur, (f.block g h.glt (by simp)).trans hc⟩, h.rd.fr f, h.len, fun j h1 h2 hk => ((h.new j h1 h2 hk).fr f).mono (fun x q => ⟨q.1, by omega, q.2.2⟩), h.old, fun j h1 h2 hk => by
    obtain ⟨gj, a1, a2, a3, a4⟩ := h.ow j h1 h2 hk
    exact ⟨gj, a1, a2, by omega, a4.fr f⟩, h.ap⟩
theorem LX.put {w wr : World} {g k g2 c2 : Nat} {lvs ys : List Lv} {ls : List Lk} (h : LX w wr g k lvs ys ls) (hk : k < ys.length) (hk2 : k < ls.length) (hk3 : k < lvs.length) (hL : LkR (fun _ => True) wr lvs[k] ls[k]) (O : OwnI wr w.heap.size (.slice (some ⟨g2, 0, none⟩) ls[k].rd.length c2) ls[k].rd) (hfr : ∀ j (h1 : j < ys.length), j < k → ys[j].ro ≠ some ⟨g2, 0, none⟩) (hg2 : w.heap.size < g2 ∧ g2 < wr.heap.size ∧ g2 ≠ g) :
    LX w (wr.setCell ⟨g, k * 3 + 2, none⟩ (.slice (some ⟨g2, 0, none⟩) ls[k].rd.length c2)) g (k + 1) lvs (ys.set k { ys[k] with ro := some ⟨g2, 0, none⟩, rn := ls[k].rd.length, rc := c2 }) ls := by
  obtain ⟨cur, hc⟩ := h.row
  have ks := grown_set wr g (k * 3 + 2) (.slice (some ⟨g2, 0, none⟩) ls[k].rd.length c2)
  have hs := ks.size
  have he := h.old k hk (by omega) (Nat.le_refl _)
  have hg := h.ge
  refine ⟨h.fr.then ks (fun j hj => by simp only [Option.some.injEq] at hj; omega), hg, ⟨_, heap_setCell_same wr g (k * 3 + 2) _ _ _ hc⟩, reads_setR h.rd hk, by simpa using h.len, fun j h1 h2 hj => ?_, fun j h1 h2 hj => ?_, fun j h1 h2 hj => ?_, fun i j h1 h2 hi hj hij => ?_⟩
  · by_cases e : j = k
    · subst e
      rw [List.getElem_set_self]
      refine ⟨by simp only [he]; exact hL.o, by simp only [he]; exact hL.wr, rfl, O.reads.keep ks (.inr (by simp [blk]; omega)), fun b q => ?_, fun q => by simp at q, hL.sz, hL.io, hL.iw⟩
      simp only [blk, Option.map_some, Option.some.injEq] at q
      subst q
      exact ⟨hg2.1, by omega, hg2.2.2⟩
    · rw [List.getElem_set_ne (fun q => e q.symm)]
      exact ((h.new j (by simpa using h1) h2 (by omega)).keep ks (fun x hx => by cases hx; exact fun q => q.2.2 rfl)).mono (fun x q => ⟨q.1, by omega, q.2.2⟩)
  · rw [List.getElem_set_ne (by omega)]
    exact h.old j (by simpa using h1) h2 (by omega)
  · by_cases e : j = k
    · subst e
      rw [List.getElem_set_self]
      exact ⟨g2, rfl, hg2.2.2, by omega, O.keep ks (.inr (by simp [Value.ownBlock]; omega))⟩
    · rw [List.getElem_set_ne (fun q => e q.symm)]
      obtain ⟨gj, a1, a2, a3, a4⟩ := h.ow j (by simpa using h1) h2 (by omega)
      exact ⟨gj, a1, a2, by omega, a4.keep ks (.inr (by simp [Value.ownBlock]; omega))⟩
  · have h1' : i < ys.length := by simpa using h1
    have h2' : j < ys.length := by simpa using h2
    by_cases e1 : i = k
    · subst e1
      rw [List.getElem_set_self, List.getElem_set_ne (fun q => hij q)]
      exact fun q => hfr j h2' (by omega) q.symm
    · by_cases e2 : j = k
      · subst e2
        rw [List.getElem_set_self, List.getElem_set_ne (fun q => e1 q.symm)]
        exact hfr i h1' (by omega)
      · rw [List.getElem_set_ne (fun q => e1 q.symm), List.getElem_set_ne (fun q => e2 q.symm)]
        exact h.ap i j h1' h2' (by omega) (by omega) hij
end Go.Proofs.YtihdablgnmkjnaaGreatDoor
/-
  Marks in lists of channels and of counts: written, and held.
-/
namespace Go.Proofs.YtihdablgnmkjnaaGreatDoor
open Go.RowKit

/-- One cell of one element is written. -/
theorem reads_cell {α : Type} {L : Lay α} {w : World} {g k q : Nat} {xs : List α} {e : α} {v : Value} (h : ReadsG L w (some ⟨g, 0, none⟩) xs) (hk : k < xs.length) (hq : q < L.sz) (he : L.cs e = (L.cs xs[k]).set q v) :
    ReadsG L (w.setCell ⟨g, k * L.sz + q, none⟩ v) (some ⟨g, 0, none⟩) (xs.set k e) := by
  refine ⟨by simpa using h.len, fun i hi => ⟨g, 0, rfl, fun j hj r hr => ?_⟩⟩
  obtain ⟨b, off, e0, hc⟩ := h.at_ k hk
  simp only [Option.some.injEq, Addr.mk.injEq, and_true] at e0
  obtain ⟨rfl, rfl⟩ := e0
  have hj' : j < xs.length := by simpa using hj
  have h0 := hc j hj' r hr
  have hlen := L.len xs[k]
  rw [Nat.zero_add] at h0 ⊢
  by_cases hjk : j = k
  · subst hjk
    rw [List.getElem_set_self, he]
    by_cases hrq : r = q
    · subst hrq
      have hs : (w.cell? ⟨g, j * L.sz + r, none⟩).isSome = true := by rw [h0, List.getElem?_eq_getElem (by omega)]; rfl
      rw [World.cell?_setCell_same' _ _ _ hs, List.getElem?_set_self (by omega)]
    · have hne : (⟨g, j * L.sz + q, none⟩ : Addr) ≠ ⟨g, j * L.sz + r, none⟩ := fun e => hrq (by injection e; omega)
      rw [World.cell?_setCell_other _ _ _ _ hne, h0, List.getElem?_set_ne (fun q2 => hrq q2.symm)]
  · have hmul : j * L.sz + r ≠ k * L.sz + q := by
      intro e1
      have p1 : (j * L.sz + r) / L.sz = j := by rw [Nat.mul_comm, Nat.mul_add_div L.pos, Nat.div_eq_of_lt hr, Nat.add_zero]
      have p2 : (k * L.sz + q) / L.sz = k := by rw [Nat.mul_comm, Nat.mul_add_div L.pos, Nat.div_eq_of_lt hq, Nat.add_zero]
      rw [e1, p2] at p1
      exact hjk p1.symm
    have hne : (⟨g, k * L.sz + q, none⟩ : Addr) ≠ ⟨g, j * L.sz + r, none⟩ := fun e => hmul (by injection e; omega)
    rw [World.cell?_setCell_other _ _ _ _ hne, h0, List.getElem_set_ne (fun e => hjk e.symm)]
theorem set_mid {α : Type} (A : List α) (x e : α) (B : List α) (k : Nat) (hk : A.length = k) : (A ++ x :: B).set k e = A ++ [e] ++ B := by
  subst hk
  simp
/-- The block is a row of cells. -/
def RowAt (w : World) (g : Nat) (T : TypeId) : Prop := ∃ cur, w.heap[g]? = some (.cells cur T (0, 0))
theorem RowAt.free {w : World} {g : Nat} {T : TypeId} (h : RowAt w g T) (i : Nat) : w.frozen? ⟨g, i, none⟩ = false := by
  obtain ⟨cur, hc⟩ := h
  exact frozen_of_row w g i _ _ hc
theorem RowAt.set {w : World} {g : Nat} {T : TypeId} (h : RowAt w g T) (i : Nat) (v : Value) : RowAt (w.setCell ⟨g, i, none⟩ v) g T := by
  obtain ⟨cur, hc⟩ := h
  exact ⟨_, heap_setCell_same w g i _ _ v hc⟩

/-- The marked counts. -/
def upN (q : Int) : Ct := ⟨q, q + 1⟩
def mkN (q : Int) (n : Nat) : List Ct := (List.range n).map fun i : Nat => upN (q + 2 * (i : Int))
theorem mkN_length (q : Int) (n : Nat) : (mkN q n).length = n := by simp [mkN]
theorem mkN_succ (q : Int) (n : Nat) : mkN q (n + 1) = mkN q n ++ [upN (q + 2 * (n : Int))] := by simp [mkN, List.range_succ]
theorem mkN_at (q : Int) (n j : Nat) (h : j < (mkN q n).length) : (mkN q n)[j] = upN (q + 2 * (j : Int)) := by simp [mkN]

set_option maxRecDepth 20000 in
set_option maxHeartbeats 1000000 in
theorem markN_any (g n cap : Nat) (q : Int) (xs : List Ct) (w : World) (hn : xs.length = n) (hl : n ≤ 1048576) (q0 : 0 ≤ q) (q1 : q ≤ 4294967296) (h : ReadsG layN w (some ⟨g, 0, none⟩) xs) (hr : RowAt w g 90) :
    Calls Tryz.prog 84 #[.slice (some ⟨g, 0, none⟩) n cap, .int .i64 q] w fun e w' => e = .returned (.int .i64 (q + 2 * (n : Int))) ∧ ReadsG layN w' (some ⟨g, 0, none⟩) (mkN q n) ∧ RowAt w' g 90 ∧ w.grownBy w' (some g) := by
  subst hn
  go_enter Tryz.func84, Tryz.ntmps84
  go_wp2_with fail
  go_loopw [1, 5] (fun c i wr => ∃ k : Nat, k ≤ xs.length ∧ i = .int .i64 k ∧ c = .int .i64 (q + 2 * (k : Int)) ∧ ReadsG layN wr (some ⟨g, 0, none⟩) (mkN q k ++ xs.drop k) ∧ RowAt wr g 90 ∧ w.grownBy wr (some g)) (fun _ i _ => xs.length - (intOf i).toNat)
  case atStart => exact ⟨0, Nat.zero_le _, rfl, by simp, by simpa [mkN] using h, hr, ⟨rfl, rfl, rfl, Nat.le_refl _, fun _ _ _ => rfl⟩⟩
  case round =>
    obtain ⟨k, hk, rfl, rfl, hR, hrw, hf⟩ := hrel
    by_cases hlt : k < xs.length
    · have hkl : k < (mkN q k ++ xs.drop k).length := by rw [List.length_append, mkN_length]; simp; omega
      obtain ⟨b, off, e0, d0, d1⟩ := ct_at hR k hkl
      simp only [Option.some.injEq, Addr.mk.injEq, and_true] at e0
      obtain ⟨rfl, rfl⟩ := e0
      simp only [Nat.zero_add] at d0 d1
      have z0 := hrw.free (k * 2)
      have z1 := hrw.free (k * 2 + 1)
      have HS : Hid (ReadsG layN ((wr.setCell ⟨g, k * 2, none⟩ (.int .i64 (q + 2 * (k : Int)))).setCell ⟨g, k * 2 + 1, none⟩ (.int .i64 (q + 2 * (k : Int) + 1))) (some ⟨g, 0, none⟩) (mkN q (k + 1) ++ xs.drop (k + 1))) := by
        have h1 := reads_cell (L := layN) (q := 0) (e := ⟨q + 2 * (k : Int), (mkN q k ++ xs.drop k)[k].n⟩) (v := .int .i64 (q + 2 * (k : Int))) hR hkl (by decide) rfl
        have hkl2 : k < ((mkN q k ++ xs.drop k).set k ⟨q + 2 * (k : Int), (mkN q k ++ xs.drop k)[k].n⟩).length := by simpa using hkl
        have h2 := reads_cell (L := layN) (q := 1) (e := upN (q + 2 * (k : Int))) (v := .int .i64 (q + 2 * (k : Int) + 1)) h1 hkl2 (by decide) (by rw [List.getElem_set_self]; rfl)
        rw [List.set_set, List.drop_eq_getElem_cons hlt, set_mid _ _ _ _ _ (mkN_length q k), ← mkN_succ] at h2
        exact h2
      have HR : Hid (RowAt ((wr.setCell ⟨g, k * 2, none⟩ (.int .i64 (q + 2 * (k : Int)))).setCell ⟨g, k * 2 + 1, none⟩ (.int .i64 (q + 2 * (k : Int) + 1))) g 90 ∧ w.grownBy ((wr.setCell ⟨g, k * 2, none⟩ (.int .i64 (q + 2 * (k : Int)))).setCell ⟨g, k * 2 + 1, none⟩ (.int .i64 (q + 2 * (k : Int) + 1))) (some g)) := ⟨(hrw.set _ _).set _ _, grown_trans hf (grown_trans (grown_set _ _ _ _) (grown_set _ _ _ _))⟩
      have hi : (k : Int) < xs.length := by omega
      have hw1 : IntKind.i64.wrap (q + 2 * (k : Int) + 1) = q + 2 * (k : Int) + 1 := by rw [IntKind.wrap_i64]; omega
      clear hR hrw hf
      go_wp2_with fail
      go_roundw
      case rel => exact ⟨k + 1, by omega, by go_num, by go_num, HS.out, HR.out.1, HR.out.2⟩
      case measure => simp [intOf]; omega
    · have e : k = xs.length := by omega
      subst e
      rw [List.drop_length, List.append_nil] at hR
      go_wp2_with fail
      go_ret
      exact ⟨rfl, hR, hrw, hf⟩

set_option maxHeartbeats 1000000 in
theorem heldN_any (ao : Option Addr) (n cap : Nat) (q : Int) (w : World) (hl : n ≤ 1048576) (q0 : 0 ≤ q) (q1 : q ≤ 4294967296) (h : ReadsG layN w ao (mkN q n)) :
    Calls Tryz.prog 88 #[.slice ao n cap, .int .i64 q] w fun e w' => e = .returned (.int .i64 (q + 2 * (n : Int))) ∧ w' = w := by
  go_enter Tryz.func88, Tryz.ntmps88
  go_wp2_with fail
  go_loop [1, 5] (fun c i => ∃ k : Nat, k ≤ n ∧ i = .int .i64 k ∧ c = .int .i64 (q + 2 * (k : Int))) (fun _ i => n - (intOf i).toNat)
  case atStart => exact ⟨0, Nat.zero_le _, rfl, by simp⟩
  case round =>
    obtain ⟨k, hk, rfl, rfl⟩ := hrel
    by_cases hlt : k < n
    · have hkl : k < (mkN q n).length := by rw [mkN_length]; exact hlt
      obtain ⟨b, off, rfl, d0, d1⟩ := ct_at h k hkl
      rw [mkN_at] at d0 d1
      simp only [upN] at d0 d1
      have hi : (k : Int) < n := by omega
      have hb0 : (q + 2 * (k : Int) != q + 2 * (k : Int)) = false := by simp
      have hb1 : (q + 2 * (k : Int) + 1 != q + 2 * (k : Int) + 1) = false := by simp
      have hw1 : IntKind.i64.wrap (q + 2 * (k : Int) + 1) = q + 2 * (k : Int) + 1 := by rw [IntKind.wrap_i64]; omega
      go_wp2_with fail
      go_round
      case rel => exact ⟨k + 1, by omega, by go_num, by go_num⟩
      case measure => simp [intOf]; omega
    · have e : k = n := by omega
      subst e
      go_wp2_with fail
      go_ret
      exact ⟨rfl, rfl⟩
end Go.Proofs.YtihdablgnmkjnaaGreatDoor
/-
  Marks in lists of channels: written, and held.
-/
namespace Go.Proofs.YtihdablgnmkjnaaGreatDoor
open Go.RowKit

/-- The marked channels. -/
def upC (q : Int) : Ch := ⟨q, q + 1, q + 1 + 1, q + 1 + 1 + 1, (q + 1 + 1 + 1 + 1) % 3 == 0⟩
def mkC (q : Int) (n : Nat) : List Ch := (List.range n).map fun i : Nat => upC (q + 5 * (i : Int))
theorem mkC_length (q : Int) (n : Nat) : (mkC q n).length = n := by simp [mkC]
theorem mkC_succ (q : Int) (n : Nat) : mkC q (n + 1) = mkC q n ++ [upC (q + 5 * (n : Int))] := by simp [mkC, List.range_succ]
theorem mkC_at (q : Int) (n j : Nat) (h : j < (mkC q n).length) : (mkC q n)[j] = upC (q + 5 * (j : Int)) := by simp [mkC]

set_option maxRecDepth 20000 in
set_option maxHeartbeats 1000000 in
theorem markC_any (g n cap : Nat) (q : Int) (xs : List Ch) (w : World) (hn : xs.length = n) (hl : n ≤ 1048576) (q0 : 0 ≤ q) (q1 : q ≤ 4294967296) (h : ReadsG layC w (some ⟨g, 0, none⟩) xs) (hr : RowAt w g 87) :
    Calls Tryz.prog 83 #[.slice (some ⟨g, 0, none⟩) n cap, .int .i64 q] w fun e w' => e = .returned (.int .i64 (q + 5 * (n : Int))) ∧ ReadsG layC w' (some ⟨g, 0, none⟩) (mkC q n) ∧ RowAt w' g 87 ∧ w.grownBy w' (some g) := by
  subst hn
  go_enter Tryz.func83, Tryz.ntmps83
  go_wp2_with fail
  go_loopw [1, 5] (fun c i wr => ∃ k : Nat, k ≤ xs.length ∧ i = .int .i64 k ∧ c = .int .i64 (q + 5 * (k : Int)) ∧ ReadsG layC wr (some ⟨g, 0, none⟩) (mkC q k ++ xs.drop k) ∧ RowAt wr g 87 ∧ w.grownBy wr (some g)) (fun _ i _ => xs.length - (intOf i).toNat)
  case atStart => exact ⟨0, Nat.zero_le _, rfl, by simp, by simpa [mkC] using h, hr, ⟨rfl, rfl, rfl, Nat.le_refl _, fun _ _ _ => rfl⟩⟩
  case round =>
    obtain ⟨k, hk, rfl, rfl, hR, hrw, hf⟩ := hrel
    by_cases hlt : k < xs.length
    · have hkl : k < (mkC q k ++ xs.drop k).length := by rw [List.length_append, mkC_length]; simp; omega
      obtain ⟨b, off, e0, d0, d1, d2, d3, d4⟩ := ch_at hR k hkl
      simp only [Option.some.injEq, Addr.mk.injEq, and_true] at e0
      obtain ⟨rfl, rfl⟩ := e0
      simp only [Nat.zero_add] at d0 d1 d2 d3 d4
      have z0 := hrw.free (k * 5)
      have z1 := hrw.free (k * 5 + 1)
      have z2 := hrw.free (k * 5 + 2)
      have z3 := hrw.free (k * 5 + 3)
      have z4 := hrw.free (k * 5 + 4)
      have HS : Hid (∀ K, K = q + 5 * (k : Int) → ReadsG layC (((((wr.setCell ⟨g, k * 5, none⟩ (.int .i64 K)).setCell ⟨g, k * 5 + 1, none⟩ (.int .i64 (K + 1))).setCell ⟨g, k * 5 + 2, none⟩ (.int .i64 (K + 1 + 1))).setCell ⟨g, k * 5 + 3, none⟩ (.int .i64 (K + 1 + 1 + 1))).setCell ⟨g, k * 5 + 4, none⟩ (.bool ((K + 1 + 1 + 1 + 1) % 3 == 0))) (some ⟨g, 0, none⟩) (mkC q (k + 1) ++ xs.drop (k + 1))) := by
        intro K hK
        obtain ⟨X, hX⟩ : ∃ X, X = (mkC q k ++ xs.drop k)[k] := ⟨_, rfl⟩
        have h1 := reads_cell (L := layC) (q := 0) (e := { X with o := K }) (v := .int .i64 K) hR hkl (by decide) (by rw [← hX]; rfl)
        have h2 := reads_cell (L := layC) (q := 1) (e := { X with o := K, cap := K + 1 }) (v := .int .i64 (K + 1)) h1 (by simpa using hkl) (by decide) (by rw [List.getElem_set_self]; rfl)
        have h3 := reads_cell (L := layC) (q := 2) (e := { X with o := K, cap := K + 1, sent := K + 1 + 1 }) (v := .int .i64 (K + 1 + 1)) h2 (by simpa using hkl) (by decide) (by rw [List.getElem_set_self]; rfl)
        have h4 := reads_cell (L := layC) (q := 3) (e := { X with o := K, cap := K + 1, sent := K + 1 + 1, got := K + 1 + 1 + 1 }) (v := .int .i64 (K + 1 + 1 + 1)) h3 (by simpa using hkl) (by decide) (by rw [List.getElem_set_self]; rfl)
        have h5 := reads_cell (L := layC) (q := 4) (e := upC K) (v := .bool ((K + 1 + 1 + 1 + 1) % 3 == 0)) h4 (by simpa using hkl) (by decide) (by rw [List.getElem_set_self]; rfl)
        rw [List.set_set, List.set_set, List.set_set, List.set_set, List.drop_eq_getElem_cons hlt, set_mid _ _ _ _ _ (mkC_length q k), hK, ← mkC_succ] at h5
        rw [hK]
        exact h5
      have HR : Hid (∀ a0 a1 a2 a3 a4, RowAt (((((wr.setCell ⟨g, k * 5, none⟩ a0).setCell ⟨g, k * 5 + 1, none⟩ a1).setCell ⟨g, k * 5 + 2, none⟩ a2).setCell ⟨g, k * 5 + 3, none⟩ a3).setCell ⟨g, k * 5 + 4, none⟩ a4) g 87 ∧ w.grownBy (((((wr.setCell ⟨g, k * 5, none⟩ a0).setCell ⟨g, k * 5 + 1, none⟩ a1).setCell ⟨g, k * 5 + 2, none⟩ a2).setCell ⟨g, k * 5 + 3, none⟩ a3).setCell ⟨g, k * 5 + 4, none⟩ a4) (some g)) := fun _ _ _ _ _ => ⟨((((hrw.set _ _).set _ _).set _ _).set _ _).set _ _, grown_trans hf (grown_trans (grown_set _ _ _ _) (grown_trans (grown_set _ _ _ _) (grown_trans (grown_set _ _ _ _) (grown_trans (grown_set _ _ _ _) (grown_set _ _ _ _)))))⟩
      have hi : (k : Int) < xs.length := by omega
      have HQ : Hid (q + 5 * (k : Int) ≤ 4400000000 ∧ 0 ≤ q + 5 * (k : Int)) := ⟨by omega, by omega⟩
      obtain ⟨K, hK⟩ : ∃ K, K = q + 5 * (k : Int) := ⟨_, rfl⟩
      rw [← hK] at HQ ⊢
      have HS := HS.out K hK
      have HS : Hid _ := HS
      have HK : Hid (K = q + 5 * (k : Int)) := hK
      have hKb := HQ.out
      clear hR hrw hf hK
      go_wp2_with fail
      go_roundw
      case rel => exact ⟨k + 1, by omega, by go_num, by have := HK.out; go_num, HS.out, (HR.out _ _ _ _ _).1, (HR.out _ _ _ _ _).2⟩
      case measure => simp [intOf]; omega
    · have e : k = xs.length := by omega
      subst e
      rw [List.drop_length, List.append_nil] at hR
      go_wp2_with fail
      go_ret
      exact ⟨rfl, hR, hrw, hf⟩

set_option maxHeartbeats 1000000 in
theorem heldC_any (ao : Option Addr) (n cap : Nat) (q : Int) (w : World) (hl : n ≤ 1048576) (q0 : 0 ≤ q) (q1 : q ≤ 4294967296) (h : ReadsG layC w ao (mkC q n)) :
    Calls Tryz.prog 87 #[.slice ao n cap, .int .i64 q] w fun e w' => e = .returned (.int .i64 (q + 5 * (n : Int))) ∧ w' = w := by
  go_enter Tryz.func87, Tryz.ntmps87
  go_wp2_with fail
  go_loop [1, 5] (fun c i => ∃ k : Nat, k ≤ n ∧ i = .int .i64 k ∧ c = .int .i64 (q + 5 * (k : Int))) (fun _ i => n - (intOf i).toNat)
  case atStart => exact ⟨0, Nat.zero_le _, rfl, by simp⟩
  case round =>
    obtain ⟨k, hk, rfl, rfl⟩ := hrel
    by_cases hlt : k < n
    · have hkl : k < (mkC q n).length := by rw [mkC_length]; exact hlt
      obtain ⟨b, off, rfl, d0, d1, d2, d3, d4⟩ := ch_at h k hkl
      rw [mkC_at] at d0 d1 d2 d3 d4
      simp only [upC] at d0 d1 d2 d3 d4
      have hi : (k : Int) < n := by omega
      have hKb : q + 5 * (k : Int) ≤ 4400000000 ∧ 0 ≤ q + 5 * (k : Int) := ⟨by omega, by omega⟩
      obtain ⟨K, hK⟩ : ∃ K, K = q + 5 * (k : Int) := ⟨_, rfl⟩
      rw [← hK] at d0 d1 d2 d3 d4 hKb ⊢
      have HK : Hid (K = q + 5 * (k : Int)) := hK
      clear hK
      obtain ⟨bb, hbb⟩ : ∃ b, b = ((K + 1 + 1 + 1 + 1) % 3 == 0) := ⟨_, rfl⟩
      have hb4 : (bb != bb) = false := by simp
      go_wp2_with fail
      go_round
      case rel => exact ⟨k + 1, by omega, by go_num, by have := HK.out; go_num⟩
      case measure => simp [intOf]; omega
    · have e : k = n := by omega
      subst e
      go_wp2_with fail
      go_ret
      exact ⟨rfl, rfl⟩
end Go.Proofs.YtihdablgnmkjnaaGreatDoor
/-
  The walks of the laws' markInt64S (it writes k, k + 1, .. into a list) and heldInt64S (are these still there?).
-/
namespace Go.Proofs.YtihdablgnmkjnaaGreatDoor
open Go.RowKit

/-- k, k + 1, .., n of them. -/
def ups (k : Int) (n : Nat) : List Int := (List.range n).map fun j : Nat => k + (j : Int)
theorem ups_length (k : Int) (n : Nat) : (ups k n).length = n := by simp [ups]
theorem ups_at (k : Int) (n j : Nat) (h : j < n) : (ups k n)[j]? = some (k + (j : Int)) := by simp [ups, h]

theorem mark_step (xs : List Int) (q : Int) (k : Nat) (h : k < xs.length) :
    (((ups q k) ++ xs.drop k).map (Value.int .i64)).set k (.int .i64 (q + (k : Int))) = ((ups q (k + 1)) ++ xs.drop (k + 1)).map (Value.int .i64) := by
  have e : ups q (k + 1) = ups q k ++ [q + (k : Int)] := by simp [ups, List.range_succ]
  rw [e, List.map_append, List.map_append, List.map_append, List.set_append_right _ _ (by simp [ups_length]), List.length_map, ups_length, Nat.sub_self, List.drop_eq_getElem_cons h, List.map_cons, List.set_cons_zero, List.append_assoc]
  rfl

set_option maxHeartbeats 400000 in
/-- It writes into the block of the list alone. -/
theorem mark_any (g n cap : Nat) (base : Nat) (q : Int) (xs : List Int) (w : World) (hn : xs.length = n) (q0 : 0 ≤ q) (q1 : q ≤ 4294967296) (h : OwnI w base (.slice (some ⟨g, 0, none⟩) n cap) xs) :
    Calls Tryz.prog 85 #[.slice (some ⟨g, 0, none⟩) n cap, .int .i64 q] w fun e w' => e = .returned (.int .i64 (q + (n : Int))) ∧ OwnI w' base (.slice (some ⟨g, 0, none⟩) n cap) (ups q n) ∧ w.grownBy w' (some g) := by
  subst hn
  obtain ⟨ho, hl, hb⟩ := h
  go_enter Tryz.func85, Tryz.ntmps85
  go_wp2
  go_loopw [1, 5] (fun c i wr => ∃ k : Nat, k ≤ xs.length ∧ i = .int .i64 k ∧ c = .int .i64 (q + (k : Int)) ∧ wr.ownsRow base 2 1 (.slice (some ⟨g, 0, none⟩) xs.length cap) xs.length (((ups q k) ++ xs.drop k).map (Value.int .i64)) ∧ w.grownBy wr (some g)) (fun _ i _ => xs.length - (intOf i).toNat)
  case atStart =>
    refine ⟨0, Nat.zero_le _, rfl, by simp, by simpa [ups] using ho, ⟨rfl, rfl, rfl, Nat.le_refl _, fun _ _ _ => rfl⟩⟩
  case round =>
    obtain ⟨k, hk, rfl, rfl, hr, hf⟩ := hrel
    by_cases hlt : k < xs.length
    · have hfz := hr.frozenAt k
      have hce := hr.cellAt k (by omega)
      have hst := hr.stored k (.int .i64 (q + (k : Int)))
      rw [mark_step xs q k hlt] at hst
      obtain ⟨u, hu⟩ : ∃ u, ((((ups q k) ++ xs.drop k).map (Value.int .i64)))[k]? = some u := ⟨_, List.getElem?_eq_getElem (by simp [ups_length]; omega)⟩
      rw [hu] at hce
      clear hu ho
      go_wp2
      go_roundw
      case rel =>
        refine ⟨k + 1, by omega, by go_num, by simp; omega, hst.1, ?_⟩
        exact ⟨hst.2.os.trans hf.os, hst.2.tape.trans hf.tape, hst.2.output.trans hf.output, Nat.le_trans hf.size hst.2.size, fun i hi hne => (hst.2.block i (Nat.lt_of_lt_of_le hi hf.size) hne).trans (hf.block i hi hne)⟩
      case measure => simp [intOf]; omega
    · go_wp2
      go_ret
      have hkn : k = xs.length := by omega
      subst hkn
      refine ⟨rfl, ⟨?_, by simpa [ups_length] using hl, ?_⟩, hf⟩
      · simpa [ups_length] using hr
      · intro x hx
        simp only [ups, List.mem_map, List.mem_range] at hx
        obtain ⟨j, hj, rfl⟩ := hx
        exact ⟨by omega, by omega⟩

set_option maxHeartbeats 400000 in
theorem held_any (ao : Option Addr) (n cap : Nat) (q : Int) (w : World) (q0 : 0 ≤ q) (q1 : q ≤ 4294967296) (h : Reads w ao (ups q n)) :
    Calls Tryz.prog 89 #[.slice ao n cap, .int .i64 q] w fun e w' => e = .returned (.int .i64 (q + (n : Int))) ∧ w' = w := by
  have hl : n ≤ 4294967296 := by have := h.len; rwa [ups_length] at this
  go_enter Tryz.func89, Tryz.ntmps89
  go_wp2
  go_loop [1, 5] (fun c i => ∃ k : Nat, k ≤ n ∧ i = .int .i64 k ∧ c = .int .i64 (q + (k : Int))) (fun _ i => n - (intOf i).toNat)
  case atStart => exact ⟨0, Nat.zero_le _, rfl, by simp⟩
  case round =>
    obtain ⟨k, hk, rfl, rfl⟩ := hrel
    by_cases hlt : k < n
    · obtain ⟨b, off, rfl, hc⟩ := h.at_ k (by rwa [ups_length])
      have hck := hc k (by rwa [ups_length])
      rw [List.getD_eq_getElem?_getD, ups_at q n k hlt, Option.getD_some] at hck
      clear hc
      go_wp2
      go_round
      case rel => exact ⟨k + 1, by omega, by go_num, by simp; omega⟩
      case measure => simp [intOf]; omega
    · go_wp2
      go_ret
      have hkn : k = n := by omega
      subst hkn
      exact ⟨rfl, rfl⟩
end Go.Proofs.YtihdablgnmkjnaaGreatDoor
/-
  Marks in lists of locks: written, and held.
-/
namespace Go.Proofs.YtihdablgnmkjnaaGreatDoor
open Go.RowKit

/-- How many marks these locks take. -/
def totL : List Lv → Nat
  | [] => 0
  | lv :: r => 2 + lv.rn + totL r
theorem totL_app : ∀ (a b : List Lv), totL (a ++ b) = totL a + totL b
  | [], b => by simp [totL]
  | x :: a, b => by simp only [List.cons_append, totL, totL_app a b]; omega
theorem totL_succ (xs : List Lv) (k : Nat) (hk : k < xs.length) : totL (xs.take (k + 1)) = totL (xs.take k) + 2 + xs[k].rn := by
  rw [List.take_succ_eq_append_getElem hk, totL_app]
  simp [totL]
  omega
theorem totL_take : ∀ (xs : List Lv) (k : Nat), totL (xs.take k) ≤ totL xs
  | _, 0 => by simp [totL]
  | [], k + 1 => by simp
  | x :: xs, k + 1 => by
    have := totL_take xs k
    simp only [List.take_succ_cons, totL]
    omega
/-- The marked locks' values. -/
def mkLs (q : Int) : List Lv → List Lv
  | [] => []
  | lv :: r => ⟨q, q + 1, lv.ro, lv.rn, lv.rc⟩ :: mkLs (q + 2 + (lv.rn : Int)) r
theorem mkLs_len : ∀ (xs : List Lv) (q : Int), (mkLs q xs).length = xs.length
  | [], _ => rfl
  | x :: xs, q => by simp [mkLs, mkLs_len xs]
theorem mkLs_app : ∀ (a b : List Lv) (q : Int), mkLs q (a ++ b) = mkLs q a ++ mkLs (q + (totL a : Int)) b
  | [], b, q => by simp [mkLs, totL]
  | x :: a, b, q => by
    simp only [List.cons_append, mkLs, mkLs_app a b, totL]
    congr 3
    omega
theorem mkLs_succ (xs : List Lv) (q : Int) (k : Nat) (hk : k < xs.length) : mkLs q (xs.take (k + 1)) = mkLs q (xs.take k) ++ [⟨q + (totL (xs.take k) : Int), q + (totL (xs.take k) : Int) + 1, xs[k].ro, xs[k].rn, xs[k].rc⟩] := by
  rw [List.take_succ_eq_append_getElem hk, mkLs_app]
  rfl
theorem mkLs_at (xs : List Lv) (q : Int) (k : Nat) (hk : k < xs.length) (hk2 : k < (mkLs q xs).length) : (mkLs q xs)[k] = ⟨q + (totL (xs.take k) : Int), q + (totL (xs.take k) : Int) + 1, xs[k].ro, xs[k].rn, xs[k].rc⟩ := by
  have e : mkLs q xs = mkLs q (xs.take (k + 1)) ++ mkLs (q + (totL (xs.take (k + 1)) : Int)) (xs.drop (k + 1)) := by rw [← mkLs_app, List.take_append_drop]
  have h1 : (mkLs q (xs.take k)).length = k := by rw [mkLs_len]; simp; omega
  simp only [e, mkLs_succ xs q k hk]
  rw [List.getElem_append_left (by simp [h1]), List.getElem_append_right (by omega)]
  simp [h1]

/-- Locks whose list and whose Readers are rows of their own. -/
structure LO (w : World) (g base : Nat) (lvs : List Lv) : Prop where
  row : RowAt w g 47
  own : ∀ j (hj : j < lvs.length), ∃ gj, lvs[j].ro = some ⟨gj, 0, none⟩ ∧ gj ≠ g ∧ ∃ xs : List Int, xs.length = lvs[j].rn ∧ OwnI w base (.slice (some ⟨gj, 0, none⟩) lvs[j].rn lvs[j].rc) xs
  ap : ∀ i j (hi : i < lvs.length) (hj : j < lvs.length), i ≠ j → lvs[i].ro ≠ lvs[j].ro
/-- The blocks of these locks. -/
def BlkL (g : Nat) (lvs : List Lv) (x : Nat) : Prop := x = g ∨ ∃ j, ∃ h : j < lvs.length, lvs[j].ro = some ⟨x, 0, none⟩
/-- In the midst of marking: the first k are marked. -/
structure MX (w wr : World) (g base : Nat) (q : Int) (lvs : List Lv) (k : Nat) : Prop where
  row : RowAt wr g 47
  rd : ReadsG layL wr (some ⟨g, 0, none⟩) (mkLs q (lvs.take k) ++ lvs.drop k)
  new : ∀ j (hj : j < lvs.length), j < k → ∃ gj, lvs[j].ro = some ⟨gj, 0, none⟩ ∧ gj ≠ g ∧ OwnI wr base (.slice (some ⟨gj, 0, none⟩) lvs[j].rn lvs[j].rc) (ups (q + (totL (lvs.take j) : Int) + 2) lvs[j].rn)
  old : ∀ j (hj : j < lvs.length), k ≤ j → ∃ gj, lvs[j].ro = some ⟨gj, 0, none⟩ ∧ gj ≠ g ∧ ∃ xs : List Int, xs.length = lvs[j].rn ∧ OwnI wr base (.slice (some ⟨gj, 0, none⟩) lvs[j].rn lvs[j].rc) xs
  fr : FrS (BlkL g lvs) w wr

theorem own_other {w w' : World} {base g gj n c : Nat} {xs : List Int} (h : OwnI w base (.slice (some ⟨gj, 0, none⟩) n c) xs) (k : w.grownBy w' (some g)) (hne : gj ≠ g) : OwnI w' base (.slice (some ⟨gj, 0, none⟩) n c) xs :=
  h.keep k (.inr (by simp [Value.ownBlock]; exact hne))
theorem MX.step {w wr w3 : World} {g base k gk : Nat} {q : Int} {lvs : List Lv} (h : MX w wr g base q lvs k) (hap : ∀ i j (hi : i < lvs.length) (hj : j < lvs.length), i ≠ j → lvs[i].ro ≠ lvs[j].ro) (hk : k < lvs.length) (hgk : lvs[k].ro = some ⟨gk, 0, none⟩) (hne : gk ≠ g)
    (k3 : ((wr.setCell ⟨g, k * 3, none⟩ (.int .i64 (q + (totL (lvs.take k) : Int)))).setCell ⟨g, k * 3 + 1, none⟩ (.int .i64 (q + (totL (lvs.take k) : Int) + 1))).grownBy w3 (some gk))
    (o3 : OwnI w3 base (.slice (some ⟨gk, 0, none⟩) lvs[k].rn lvs[k].rc) (ups (q + (totL (lvs.take k) : Int) + 2) lvs[k].rn)) : MX w w3 g base q lvs (k + 1) := by
  have hml : (mkLs q (lvs.take k)).length = k := by rw [mkLs_len]; simp; omega
  have hkl : k < (mkLs q (lvs.take k) ++ lvs.drop k).length := by rw [List.length_append, hml]; simp; omega
  have hel : (mkLs q (lvs.take k) ++ lvs.drop k)[k] = lvs[k] := by
    rw [List.getElem_append_right (by omega)]
    simp [hml]
  have k2 := grown_trans (grown_set wr g (k * 3) (.int .i64 (q + (totL (lvs.take k) : Int)))) (grown_set (wr.setCell ⟨g, k * 3, none⟩ (.int .i64 (q + (totL (lvs.take k) : Int)))) g (k * 3 + 1) (.int .i64 (q + (totL (lvs.take k) : Int) + 1)))
  have hg : g < wr.heap.size := by
    obtain ⟨cur, hc⟩ := h.row
    exact (Array.getElem?_eq_some_iff.1 hc).1
  refine ⟨?_, ?_, fun j hj hjk => ?_, fun j hj hjk => ?_, ?_⟩
  · obtain ⟨cur, hc⟩ := (h.row.set (k * 3) (.int .i64 (q + (totL (lvs.take k) : Int)))).set (k * 3 + 1) (.int .i64 (q + (totL (lvs.take k) : Int) + 1))
    exact ⟨cur, (k3.block g (by have := k2.size; omega) (by simpa using fun e => hne e.symm)).trans hc⟩
  · have h1 := reads_cell (L := layL) (q := 0) (e := { lvs[k] with o := q + (totL (lvs.take k) : Int) }) (v := .int .i64 (q + (totL (lvs.take k) : Int))) h.rd hkl (by decide) (by rw [hel]; rfl)
    have h2 := reads_cell (L := layL) (q := 1) (e := { lvs[k] with o := q + (totL (lvs.take k) : Int), wr := q + (totL (lvs.take k) : Int) + 1 }) (v := .int .i64 (q + (totL (lvs.take k) : Int) + 1)) h1 (by simpa using hkl) (by decide) (by rw [List.getElem_set_self]; rfl)
    rw [List.set_set, List.drop_eq_getElem_cons hk, set_mid _ _ _ _ _ hml, ← mkLs_succ lvs q k hk] at h2
    exact ReadsG.keep h2 k3 (.inr (by simpa [blk] using fun e => hne e.symm))
  · by_cases e : j = k
    · subst e
      exact ⟨gk, hgk, hne, o3⟩
    · obtain ⟨gj, a1, a2, a3⟩ := h.new j hj (by omega)
      refine ⟨gj, a1, a2, own_other (own_other a3 k2 a2) k3 (fun e2 => ?_)⟩
      have := hap j k hj hk e
      rw [a1, hgk, e2] at this
      exact this rfl
  · obtain ⟨gj, a1, a2, xs, a3, a4⟩ := h.old j hj (by omega)
    refine ⟨gj, a1, a2, xs, a3, own_other (own_other a4 k2 a2) k3 (fun e2 => ?_)⟩
    have := hap j k hj hk (by omega)
    rw [a1, hgk, e2] at this
    exact this rfl
  · exact h.fr.trans ((grown_toS k2 (.inl rfl)).trans (grown_toS k3 (.inr ⟨k, hk, hgk⟩)))

set_option maxRecDepth 20000 in
set_option maxHeartbeats 2000000 in
theorem markL_any (g n cap base : Nat) (q : Int) (lvs : List Lv) (w : World) (hn : lvs.length = n) (hl : n ≤ 1048576) (ht : totL lvs ≤ 4194304) (q0 : 0 ≤ q) (q1 : q ≤ 4000000000) (h : ReadsG layL w (some ⟨g, 0, none⟩) lvs) (hO : LO w g base lvs) :
    Calls Tryz.prog 82 #[.slice (some ⟨g, 0, none⟩) n cap, .int .i64 q] w fun e w' => e = .returned (.int .i64 (q + (totL lvs : Int))) ∧ MX w w' g base q lvs lvs.length := by
  subst hn
  have M0 : MX w w g base q lvs 0 := ⟨hO.row, by simpa [mkLs] using h, fun j _ hj => by omega, fun j hj _ => hO.own j hj, FrS.refl _ _⟩
  have hap := hO.ap
  clear hO h
  go_enter Tryz.func82, Tryz.ntmps82
  go_wp2_with fail
  go_loopw [1, 5] (fun c i wr => ∃ k : Nat, k ≤ lvs.length ∧ i = .int .i64 k ∧ c = .int .i64 (q + (totL (lvs.take k) : Int)) ∧ MX w wr g base q lvs k) (fun _ i _ => lvs.length - (intOf i).toNat)
  case atStart => exact ⟨0, Nat.zero_le _, rfl, by simp [totL], M0⟩
  case round =>
    clear M0
    obtain ⟨k, hk, rfl, rfl, hM⟩ := hrel
    by_cases hlt : k < lvs.length
    · have hml : (mkLs q (lvs.take k)).length = k := by rw [mkLs_len]; simp; omega
      have hkl : k < (mkLs q (lvs.take k) ++ lvs.drop k).length := by rw [List.length_append, hml]; simp; omega
      have hel : (mkLs q (lvs.take k) ++ lvs.drop k)[k] = lvs[k] := by
        rw [List.getElem_append_right (by omega)]
        simp [hml]
      obtain ⟨b, off, e0, d0, d1, d2⟩ := lv_at hM.rd k hkl
      simp only [Option.some.injEq, Addr.mk.injEq, and_true] at e0
      obtain ⟨rfl, rfl⟩ := e0
      rw [hel] at d0 d1 d2
      simp only [Nat.zero_add] at d0 d1 d2
      obtain ⟨gk, a1, a2, xs, a3, a4⟩ := hM.old k hlt (Nat.le_refl _)
      rw [a1] at d2
      have z0 := hM.row.free (k * 3)
      have z1 := hM.row.free (k * 3 + 1)
      have htk := totL_take lvs (k + 1)
      have hts := totL_succ lvs k hlt
      have hi : (k : Int) < lvs.length := by omega
      have k2 := grown_trans (grown_set wr g (k * 3) (.int .i64 (q + (totL (lvs.take k) : Int)))) (grown_set (wr.setCell ⟨g, k * 3, none⟩ (.int .i64 (q + (totL (lvs.take k) : Int)))) g (k * 3 + 1) (.int .i64 (q + (totL (lvs.take k) : Int) + 1)))
      have o2 := own_other a4 k2 a2
      have e2 : q + (totL (lvs.take k) : Int) + 1 + 1 = q + (totL (lvs.take k) : Int) + 2 := by omega
      have cM := mark_any gk lvs[k].rn lvs[k].rc base (q + (totL (lvs.take k) : Int) + 1 + 1) xs _ a3 (by omega) (by omega) o2
      have HST : Hid (∀ w3, ((wr.setCell ⟨g, k * 3, none⟩ (.int .i64 (q + (totL (lvs.take k) : Int)))).setCell ⟨g, k * 3 + 1, none⟩ (.int .i64 (q + (totL (lvs.take k) : Int) + 1))).grownBy w3 (some gk) → OwnI w3 base (.slice (some ⟨gk, 0, none⟩) lvs[k].rn lvs[k].rc) (ups (q + (totL (lvs.take k) : Int) + 1 + 1) lvs[k].rn) → MX w w3 g base q lvs (k + 1)) := fun w3 k3 o3 => hM.step hap hlt a1 a2 k3 (by rw [← e2]; exact o3)
      have HT : Hid (q + (totL (lvs.take k) : Int) + 1 + 1 + (lvs[k].rn : Int) = q + (totL (lvs.take (k + 1)) : Int)) := by
        show q + (totL (lvs.take k) : Int) + 1 + 1 + (lvs[k].rn : Int) = q + (totL (lvs.take (k + 1)) : Int)
        rw [hts]; omega
      have hKb : 0 ≤ q + (totL (lvs.take k) : Int) ∧ q + (totL (lvs.take k) : Int) ≤ 4100000000 := by omega
      clear hM hel hkl hml k2 o2 e2 hts htk a4
      obtain ⟨K, hK⟩ : ∃ K, K = q + (totL (lvs.take k) : Int) := ⟨_, rfl⟩
      rw [← hK] at hKb ⊢
      simp only [← hK] at cM HST HT
      clear hK
      obtain ⟨rn, hrn⟩ : ∃ r, r = lvs[k].rn := ⟨_, rfl⟩
      obtain ⟨rc, hrc⟩ : ∃ r, r = lvs[k].rc := ⟨_, rfl⟩
      rw [← hrn, ← hrc] at d2
      rw [← hrn, ← hrc] at cM
      simp only [← hrn, ← hrc] at HST HT
      clear hrn hrc
      go_wp2_with fail
      refine cM.mono ?_
      rintro x w3 ⟨rfl, o3, k3⟩
      clear cM
      have HM3 : Hid (MX w w3 g base q lvs (k + 1)) := HST.out w3 k3 o3
      clear HST o3 k3
      go_wp2_with fail
      go_roundw
      case rel => exact ⟨k + 1, by omega, by go_num, by rw [HT.out], HM3.out⟩
      case measure => simp [intOf]; omega
    · have e : k = lvs.length := by omega
      subst e
      rw [List.take_length]
      go_wp2_with fail
      go_ret
      exact ⟨rfl, hM⟩

set_option maxHeartbeats 2000000 in
theorem heldL_any (ao : Option Addr) (n cap : Nat) (q : Int) (lvs : List Lv) (w : World) (hn : lvs.length = n) (hl : n ≤ 1048576) (ht : totL lvs ≤ 4194304) (q0 : 0 ≤ q) (q1 : q ≤ 4000000000) (h : ReadsG layL w ao (mkLs q lvs)) (hR : ∀ j (hj : j < lvs.length), Reads w lvs[j].ro (ups (q + (totL (lvs.take j) : Int) + 2) lvs[j].rn)) :
    Calls Tryz.prog 86 #[.slice ao n cap, .int .i64 q] w fun e w' => e = .returned (.int .i64 (q + (totL lvs : Int))) ∧ w' = w := by
  subst hn
  go_enter Tryz.func86, Tryz.ntmps86
  go_wp2_with fail
  go_loop [1, 5] (fun c i => ∃ k : Nat, k ≤ lvs.length ∧ i = .int .i64 k ∧ c = .int .i64 (q + (totL (lvs.take k) : Int))) (fun _ i => lvs.length - (intOf i).toNat)
  case atStart => exact ⟨0, Nat.zero_le _, rfl, by simp [totL]⟩
  case round =>
    obtain ⟨k, hk, rfl, rfl⟩ := hrel
    by_cases hlt : k < lvs.length
    · have hkl : k < (mkLs q lvs).length := by rw [mkLs_len]; exact hlt
      obtain ⟨b, off, rfl, d0, d1, d2⟩ := lv_at h k hkl
      rw [mkLs_at lvs q k hlt] at d0 d1 d2
      simp only at d0 d1 d2
      have hRk := hR k hlt
      have htk := totL_take lvs (k + 1)
      have hts := totL_succ lvs k hlt
      have hi : (k : Int) < lvs.length := by omega
      have e2 : q + (totL (lvs.take k) : Int) + 2 = q + (totL (lvs.take k) : Int) + 1 + 1 := by omega
      rw [e2] at hRk
      have cH := held_any lvs[k].ro lvs[k].rn lvs[k].rc (q + (totL (lvs.take k) : Int) + 1 + 1) w (by omega) (by omega) hRk
      have HT : Hid (q + (totL (lvs.take k) : Int) + 1 + 1 + (lvs[k].rn : Int) = q + (totL (lvs.take (k + 1)) : Int)) := by
        show q + (totL (lvs.take k) : Int) + 1 + 1 + (lvs[k].rn : Int) = q + (totL (lvs.take (k + 1)) : Int)
        rw [hts]; omega
      have hKb : 0 ≤ q + (totL (lvs.take k) : Int) ∧ q + (totL (lvs.take k) : Int) ≤ 4100000000 := by omega
      have hrb : (lvs[k].rn : Int) ≤ 4194304 := by omega
      clear hts htk e2 hRk
      obtain ⟨K, hK⟩ : ∃ K, K = q + (totL (lvs.take k) : Int) := ⟨_, rfl⟩
      rw [← hK] at hKb d0 d1 ⊢
      rw [← hK] at cH
      simp only [← hK] at HT
      clear hK
      obtain ⟨ro, hro⟩ : ∃ r, r = lvs[k].ro := ⟨_, rfl⟩
      obtain ⟨rn, hrn⟩ : ∃ r, r = lvs[k].rn := ⟨_, rfl⟩
      obtain ⟨rc, hrc⟩ : ∃ r, r = lvs[k].rc := ⟨_, rfl⟩
      rw [← hro, ← hrn, ← hrc] at d2
      rw [← hro, ← hrn, ← hrc] at cH
      rw [← hrn] at hrb
      simp only [← hrn] at HT
      clear hro hrn hrc
      have hb0 : (K != K) = false := by simp
      have hb1 : (K + 1 != K + 1) = false := by simp
      have hb2 : ¬ (K + 1 + 1 + (rn : Int) < 0) := by omega
      go_wp2_with fail
      refine cH.mono ?_
      rintro x w3 ⟨rfl, rfl⟩
      clear cH
      go_wp2_with fail
      go_round
      case rel => exact ⟨k + 1, by omega, by go_num, by rw [HT.out]⟩
      case measure => simp [intOf]; omega
    · have e : k = lvs.length := by omega
      subst e
      rw [List.take_length]
      go_wp2_with fail
      go_ret
      exact ⟨rfl, rfl⟩
end Go.Proofs.YtihdablgnmkjnaaGreatDoor
