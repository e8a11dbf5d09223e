/-
  The drawing of scenes: the drawn regions of l4DrawAny.
-/
import Derived.Test.YtcofhmikdkkigaaGreatDoorScDrwS
import Derived.Test.YtcofhmikdkkigaaGreatDoorRegLast
namespace Go.Proofs.YtcofhmikdkkigaaGreatDoor
open Go.RowKit

theorem chs_one {w : World} {ao : Option Addr} {xs ys : List Ch} (h : ReadsG layC w ao xs) (h' : ReadsG layC w ao ys) (hl : xs.length = ys.length) : xs = ys := by
  refine List.ext_getElem hl fun k h1 h2 => ?_
  obtain ⟨b, off, e, a0, a1, a2, a3, a4⟩ := ch_at h k h1
  obtain ⟨b', off', e', x0, x1, x2, x3, x4⟩ := ch_at h' k h2
  rw [e] at e'
  simp only [Option.some.injEq, Addr.mk.injEq, and_true] at e'
  obtain ⟨rfl, rfl⟩ := e'
  rw [a0] at x0; rw [a1] at x1; rw [a2] at x2; rw [a3] at x3; rw [a4] at x4
  simp only [Option.some.injEq, Value.int.injEq, Value.bool.injEq, true_and] at x0 x1 x2 x3 x4
  generalize xs[k] = x at *
  generalize ys[k] = y at *
  obtain ⟨p, q, r, t, v⟩ := x
  obtain ⟨p', q', r', t', v'⟩ := y
  simp only at x0 x1 x2 x3 x4
  rw [x0, x1, x2, x3, x4]
theorem cts_one {w : World} {ao : Option Addr} {xs ys : List Ct} (h : ReadsG layN w ao xs) (h' : ReadsG layN w ao ys) (hl : xs.length = ys.length) : xs = ys := by
  refine List.ext_getElem hl fun k h1 h2 => ?_
  obtain ⟨b, off, e, a0, a1⟩ := ct_at h k h1
  obtain ⟨b', off', e', x0, x1⟩ := ct_at h' k h2
  rw [e] at e'
  simp only [Option.some.injEq, Addr.mk.injEq, and_true] at e'
  obtain ⟨rfl, rfl⟩ := e'
  rw [a0] at x0; rw [a1] at x1
  simp only [Option.some.injEq, Value.int.injEq, true_and] at x0 x1
  generalize xs[k] = x at *
  generalize ys[k] = y at *
  obtain ⟨p, q⟩ := x
  obtain ⟨p', q'⟩ := y
  simp only at x0 x1
  rw [x0, x1]

/-- A number that was drawn. -/
def PInt (v : Value) : Prop := ∃ x : Int, v = .int .i64 x ∧ I64 x
/-- A new row of two numbers. -/
def PRow (z : Nat) (v : Value) (u : World) : Prop := ∃ (b : Nat) (x y : Int), v = .slice (some ⟨b, 0, none⟩) 2 2 ∧ z ≤ b ∧ u.heap[b]? = some (.cells #[.int .i64 x, .int .i64 y] 2 (0, 0)) ∧ I64 x ∧ I64 y
/-- An element, and a new row of one. -/
def PEl {α : Type} (L : Lay α) (P : Nat → α → World → Prop) (z : Nat) (v : Value) (u : World) : Prop := ∃ e : α, v = .agg (L.cs e).toArray ∧ P z e u
def PSl {α : Type} (L : Lay α) (P : Nat → α → World → Prop) (z : Nat) (v : Value) (u : World) : Prop := ∃ (b : Nat) (e : α), v = .slice (some ⟨b, 0, none⟩) 1 1 ∧ z ≤ b ∧ (∀ k, k < L.sz → u.cell? ⟨b, k, none⟩ = (L.cs e)[k]?) ∧ P z e u
theorem PRow.keep {z : Nat} {v : Value} {u u' : World} {row : Option Nat} (h : PRow z v u) (k : u.grownBy u' row) (hg : ∀ j, row = some j → j < z) : PRow z v u' := by
  obtain ⟨b, x, y, e, hb, hr, h1, h2⟩ := h
  exact ⟨b, x, y, e, hb, (k.block b (Array.getElem?_eq_some_iff.1 hr).1 (fun q => by have := hg b q.symm; omega)).trans hr, h1, h2⟩
theorem PEl.keep {α : Type} {L : Lay α} {P : Nat → α → World → Prop} {z : Nat} {v : Value} {u u' : World} {row : Option Nat} (hP : ∀ u u', ∀ {e}, P z e u → u.grownBy u' row → P z e u') (h : PEl L P z v u) (k : u.grownBy u' row) : PEl L P z v u' := by
  obtain ⟨e, h1, h2⟩ := h
  exact ⟨e, h1, hP _ _ h2 k⟩
theorem PSl.keep {α : Type} {L : Lay α} {P : Nat → α → World → Prop} {z : Nat} {v : Value} {u u' : World} {row : Option Nat} (hP : ∀ u u', ∀ {e}, P z e u → u.grownBy u' row → P z e u') (h : PSl L P z v u) (k : u.grownBy u' row) (hg : ∀ j, row = some j → j < z) : PSl L P z v u' := by
  obtain ⟨b, e, h1, hb, h2, h3⟩ := h
  refine ⟨b, e, h1, hb, fun q hq => ?_, hP _ _ h3 k⟩
  have h0 := h2 q hq
  have hlt : q < (L.cs e).length := by rw [L.len]; exact hq
  rw [List.getElem?_eq_getElem hlt] at h0 ⊢
  exact k.cell h0 (fun e => by have := hg b e.symm; omega)
theorem newG {α : Type} (L : Lay α) {e : α} {u : World} {b : Nat} {T : Nat} (h : u.heap[b]? = some (.cells (L.cs e).toArray T (0, 0))) : ∀ k, k < L.sz → u.cell? ⟨b, k, none⟩ = (L.cs e)[k]? := by
  intro k _
  rw [cell_of_row u b k _ _ _ h]
  exact List.getElem?_toArray

/-- What holds while the list has not been appended to. -/
def CD (w : World) (g rb sb z : Nat) (s : Sv) (m : Scn) (B : Nat → Prop) (q : Nat) (L : Nat → Bool) (u : World) : Prop := L q = false → DA w g rb sb s s m B u ∧ OwR u s ∧ z ≤ u.heap.size
theorem CD.mk {w : World} {g rb sb z : Nat} {s : Sv} {m : Scn} {B : Nat → Prop} {q : Nat} {L : Nat → Bool} {u : World} (D : DA w g rb sb s s m B u) (O : OwR u s) (hz : z ≤ u.heap.size) : CD w g rb sb z s m B q L u := fun _ => ⟨D, O, hz⟩
theorem CD.up {w : World} {g rb sb z : Nat} {s : Sv} {m : Scn} {B : Nat → Prop} {q i : Nat} {L : Nat → Bool} {u : World} (h : CD w g rb sb z s m B q L u) (hi : q ≠ i) : CD w g rb sb z s m B q (cameL L i) u := fun e => h (by unfold cameL at e; rwa [if_neg hi] at e)
theorem CD.no {w : World} {g rb sb z : Nat} {s : Sv} {m : Scn} {B : Nat → Prop} {q : Nat} {L : Nat → Bool} {u : World} : CD w g rb sb z s m B q (cameL L q) u := fun e => by simp [cameL] at e
def PA1 (w : World) (g rb sb : Nat) (s : Sv) (v : Value) (u : World) : Prop := ∃ (ao : Option Addr) (n c : Nat) (m' : Scn) (B' : Nat → Prop), v = .slice ao n c ∧ DA w g rb sb s { s with lo := ao, ll := n, lc := c } m' B' u
theorem PA1.draw {w : World} {g rb sb : Nat} {s : Sv} {u u' : World} (c1 : Cur u' g) (k : u.grownBy u' (some g)) (x : Value) (h : PA1 w g rb sb s x u) : PA1 w g rb sb s x u' := by
  obtain ⟨ao, n, c, m', B', e, h⟩ := h
  exact ⟨ao, n, c, m', B', e, h.draw c1 k⟩
theorem PA1.fr {w : World} {g rb sb : Nat} {s : Sv} {u u' : World} (k : Fr u u') (x : Value) (h : PA1 w g rb sb s x u) : PA1 w g rb sb s x u' := by
  obtain ⟨ao, n, c, m', B', e, h⟩ := h
  exact ⟨ao, n, c, m', B', e, h.fr k⟩
def PA2 (w : World) (g rb sb : Nat) (s : Sv) (v : Value) (u : World) : Prop := ∃ (ao : Option Addr) (n c : Nat) (m' : Scn) (B' : Nat → Prop), v = .slice ao n c ∧ DA w g rb sb s { s with co := ao, cl := n, cc := c } m' B' u
theorem PA2.draw {w : World} {g rb sb : Nat} {s : Sv} {u u' : World} (c1 : Cur u' g) (k : u.grownBy u' (some g)) (x : Value) (h : PA2 w g rb sb s x u) : PA2 w g rb sb s x u' := by
  obtain ⟨ao, n, c, m', B', e, h⟩ := h
  exact ⟨ao, n, c, m', B', e, h.draw c1 k⟩
theorem PA2.fr {w : World} {g rb sb : Nat} {s : Sv} {u u' : World} (k : Fr u u') (x : Value) (h : PA2 w g rb sb s x u) : PA2 w g rb sb s x u' := by
  obtain ⟨ao, n, c, m', B', e, h⟩ := h
  exact ⟨ao, n, c, m', B', e, h.fr k⟩
def PA3 (w : World) (g rb sb : Nat) (s : Sv) (v : Value) (u : World) : Prop := ∃ (ao : Option Addr) (n c : Nat) (m' : Scn) (B' : Nat → Prop), v = .slice ao n c ∧ DA w g rb sb s { s with no := ao, nl := n, nc := c } m' B' u
theorem PA3.draw {w : World} {g rb sb : Nat} {s : Sv} {u u' : World} (c1 : Cur u' g) (k : u.grownBy u' (some g)) (x : Value) (h : PA3 w g rb sb s x u) : PA3 w g rb sb s x u' := by
  obtain ⟨ao, n, c, m', B', e, h⟩ := h
  exact ⟨ao, n, c, m', B', e, h.draw c1 k⟩
theorem PA3.fr {w : World} {g rb sb : Nat} {s : Sv} {u u' : World} (k : Fr u u') (x : Value) (h : PA3 w g rb sb s x u) : PA3 w g rb sb s x u' := by
  obtain ⟨ao, n, c, m', B', e, h⟩ := h
  exact ⟨ao, n, c, m', B', e, h.fr k⟩
def PA4 (w : World) (g rb sb : Nat) (s : Sv) (v : Value) (u : World) : Prop := ∃ (ao : Option Addr) (n c : Nat) (m' : Scn) (B' : Nat → Prop), v = .slice ao n c ∧ DA w g rb sb s { s with oo := ao, ol := n, oc := c } m' B' u
theorem PA4.draw {w : World} {g rb sb : Nat} {s : Sv} {u u' : World} (c1 : Cur u' g) (k : u.grownBy u' (some g)) (x : Value) (h : PA4 w g rb sb s x u) : PA4 w g rb sb s x u' := by
  obtain ⟨ao, n, c, m', B', e, h⟩ := h
  exact ⟨ao, n, c, m', B', e, h.draw c1 k⟩
theorem PA4.fr {w : World} {g rb sb : Nat} {s : Sv} {u u' : World} (k : Fr u u') (x : Value) (h : PA4 w g rb sb s x u) : PA4 w g rb sb s x u' := by
  obtain ⟨ao, n, c, m', B', e, h⟩ := h
  exact ⟨ao, n, c, m', B', e, h.fr k⟩

/-- Where a new lock's readers lie. -/
def NB (z : Nat) (u : World) (b : Nat) : Prop := z ≤ b ∧ RowOf 2 u b
def PPlock0 (z : Nat) (e : Lv) (u : World) : Prop := ∃ kk, LkR (NB z u) u e kk
def PPlock2 (z : Nat) (e : Lv) (u : World) : Prop := ∃ kk, LkR (NB z u) u e kk
def PPchan (_ : Nat) (e : Ch) (_ : World) : Prop := I64 e.o ∧ I64 e.cap ∧ I64 e.sent ∧ I64 e.got
def PPcount (_ : Nat) (e : Ct) (_ : World) : Prop := I64 e.o ∧ I64 e.n
def PPonce (_ : Nat) (e : Int) (_ : World) : Prop := I64 e
theorem PPlock0_keep {z : Nat} {row : Option Nat} (hg : ∀ j, row = some j → j < z) (u u' : World) {e : Lv} (h : PPlock0 z e u) (k : u.grownBy u' row) : PPlock0 z e u' := by
  obtain ⟨kk, h⟩ := h
  exact ⟨kk, { h.keep k (fun j hj q => by have := hg j hj; have := q.1; omega) with bl := fun b hb => ⟨(h.bl b hb).1, (h.bl b hb).2.keep k (fun q => by have := hg b q.symm; have := (h.bl b hb).1; omega)⟩ }⟩
theorem PPlock2_keep {z : Nat} {row : Option Nat} (hg : ∀ j, row = some j → j < z) (u u' : World) {e : Lv} (h : PPlock2 z e u) (k : u.grownBy u' row) : PPlock2 z e u' := PPlock0_keep hg u u' h k
theorem PPchan_keep {z : Nat} {row : Option Nat} (_ : ∀ j, row = some j → j < z) (u u' : World) {e : Ch} (h : PPchan z e u) (_ : u.grownBy u' row) : PPchan z e u' := h
theorem PPcount_keep {z : Nat} {row : Option Nat} (_ : ∀ j, row = some j → j < z) (u u' : World) {e : Ct} (h : PPcount z e u) (_ : u.grownBy u' row) : PPcount z e u' := h
theorem PPonce_keep {z : Nat} {row : Option Nat} (_ : ∀ j, row = some j → j < z) (u u' : World) {e : Int} (h : PPonce z e u) (_ : u.grownBy u' row) : PPonce z e u' := h
theorem i64_9 : I64 9 := ⟨by decide, by decide⟩
theorem PRow.lock {z b : Nat} {x y : Int} {u : World} (h : z ≤ b ∧ u.heap[b]? = some (.cells #[.int .i64 x, .int .i64 y] 2 (0, 0)) ∧ I64 x ∧ I64 y) : PPlock2 z ⟨9, -1, some ⟨b, 0, none⟩, 2, 2⟩ u := by
  obtain ⟨hb, hr, hx, hy⟩ := h
  refine ⟨⟨9, -1, [x, y]⟩, ⟨rfl, rfl, rfl, ⟨by simp, ?_, fun i hi => ⟨b, 0, rfl, fun j hj => ?_⟩⟩, fun c hc => ?_, fun q => by simp at q, by simp, i64_9, i64_m1⟩⟩
  · intro q hq
    simp only [List.mem_cons, List.not_mem_nil, or_false] at hq
    rcases hq with rfl | rfl
    · exact hx
    · exact hy
  · rw [cell_of_row u b (0 + j) _ _ _ hr]
    have : j = 0 ∨ j = 1 := by simp at hj; omega
    rcases this with rfl | rfl <;> rfl
  · simp only [blk, Option.map_some, Option.some.injEq] at hc
    subst hc
    exact ⟨hb, _, hr⟩


/-- A new list of one channel, of one count. -/
theorem DA.chanNew {w u : World} {g rb sb k : Nat} {t s : Sv} {m : Scn} {B : Nat → Prop} (h : DA w g rb sb t s m B u) (hk : u.heap.size = k) (e : Ch) (he : I64 e.o ∧ I64 e.cap ∧ I64 e.sent ∧ I64 e.got) :
    DA w g rb sb t { s with co := some ⟨k, 0, none⟩, cl := 1, cc := 1 } { m with cs := [e] } (fun b => B b ∨ b = k) (u.alloc (.cells #[.int .i64 e.o, .int .i64 e.cap, .int .i64 e.sent, .int .i64 e.got, .bool e.cl] 89)) := by
  subst hk
  have f := Fr.alloc u (.cells #[.int .i64 e.o, .int .i64 e.cap, .int .i64 e.sent, .int .i64 e.got, .bool e.cl] 89)
  have own := ownG_lit layC u [e] (by simp) (.cells #[.int .i64 e.o, .int .i64 e.cap, .int .i64 e.sent, .int .i64 e.got, .bool e.cl] 89 (0, 0)) rfl
  have hz : (u.alloc (.cells #[.int .i64 e.o, .int .i64 e.cap, .int .i64 e.sent, .int .i64 e.got, .bool e.cl] 89)).heap.size = u.heap.size + 1 := by simp
  have h' := h.fr f
  have hg := h.gro.size
  have h1 := h.sc.lt
  have h2 := h.rk.lt
  refine { h' with scr := ?_, bB := ?_ }
  · have hs := h'.scr
    exact { hs.mono (fun b q => (.inl q : B b ∨ b = u.heap.size)) with chs := (HasG.reads (.inr (own.lower (Nat.zero_le _)))).1, cl := rfl, bc := (fun b hb => by simp only [blk, Option.map_some, Option.some.injEq] at hb; exact .inr hb.symm), sc := (by show [e].length ≤ 1048576; simp), ic := (fun c hc => by rw [List.mem_singleton.1 hc]; exact he) }
  · rintro b (q | rfl)
    · exact h'.bB b q
    · exact ⟨hg, by omega, by omega, by omega⟩
theorem DA.countNew {w u : World} {g rb sb k : Nat} {t s : Sv} {m : Scn} {B : Nat → Prop} (h : DA w g rb sb t s m B u) (hk : u.heap.size = k) (e : Ct) (he : I64 e.o ∧ I64 e.n) :
    DA w g rb sb t { s with no := some ⟨k, 0, none⟩, nl := 1, nc := 1 } { m with gs := [e] } (fun b => B b ∨ b = k) (u.alloc (.cells #[.int .i64 e.o, .int .i64 e.n] 92)) := by
  subst hk
  have f := Fr.alloc u (.cells #[.int .i64 e.o, .int .i64 e.n] 92)
  have own := ownG_lit layN u [e] (by simp) (.cells #[.int .i64 e.o, .int .i64 e.n] 92 (0, 0)) rfl
  have hz : (u.alloc (.cells #[.int .i64 e.o, .int .i64 e.n] 92)).heap.size = u.heap.size + 1 := by simp
  have h' := h.fr f
  have hg := h.gro.size
  have h1 := h.sc.lt
  have h2 := h.rk.lt
  refine { h' with scr := ?_, bB := ?_ }
  · have hs := h'.scr
    exact { hs.mono (fun b q => (.inl q : B b ∨ b = u.heap.size)) with cts := (HasG.reads (.inr (own.lower (Nat.zero_le _)))).1, nl := rfl, bn := (fun b hb => by simp only [blk, Option.map_some, Option.some.injEq] at hb; exact .inr hb.symm), sn := (by show [e].length ≤ 1048576; simp), inn := (fun c hc => by rw [List.mem_singleton.1 hc]; exact he) }
  · rintro b (q | rfl)
    · exact h'.bB b q
    · exact ⟨hg, by omega, by omega, by omega⟩
def mkD7 (g rb sb : Nat) (sv : Value) (X : Nat → Value) : Act :=
  { tmps := #[.pointer (some ⟨g, 0, none⟩), undef, .pointer (some ⟨rb, 0, none⟩), .pointer (some ⟨sb, 0, none⟩), .pointer (some ⟨g, 0, none⟩), sv, .pointer (some ⟨g, 0, none⟩), .bool true, .pointer (some ⟨g, 0, none⟩), .int .i64 1, .bool false, .bool false, undef, undef, undef, .bool true, .bool true, X 17, X 18, X 19, X 20, X 21, X 22, X 23, X 24, X 25, X 26, undef, undef, undef, undef, undef, undef, undef, undef, undef, undef, undef, undef, undef, undef, undef, undef, undef, undef, undef, undef, undef, undef, undef, undef, undef, undef, undef, undef, undef, undef, undef, undef, undef, undef, undef, undef, undef, undef, undef, undef, undef, undef, undef, undef, undef, undef, undef, undef, undef, undef, undef, undef, undef, undef, undef, undef, undef, undef, undef, undef, undef, undef, undef, undef, undef], defers := [] }
def dsD7 (i : Nat) : Nat := [17, 18, 19, 20, 21, 22, 23, 24, 25, 26].getD i (i + 100)
def coD7 (i : Nat) : Nat := [1, 8, 3, 6, 5, 6, 7, 8, 10, 10].getD i (i + 100)
def RD7 (g sb z : Nat) (lv : Value) (PA : Value → World → Prop) : Nat → Value → World → Prop
  | 0, v, _ => v = .pointer (some ⟨sb, 1, none⟩)
  | 1, v, _ => v = lv
  | 2, v, _ => v = .pointer (some ⟨g, 0, none⟩)
  | 3, v, _ => PInt v
  | 4, v, _ => v = .pointer (some ⟨g, 0, none⟩)
  | 5, v, _ => PInt v
  | 6, v, u => PEl layL PPlock0 z v u
  | 7, v, u => PSl layL PPlock0 z v u
  | 8, v, u => PA v u
  | 9, v, _ => v = .pointer (some ⟨sb, 1, none⟩)
  | _, _, _ => True
theorem RD7_keep {g sb z : Nat} {lv : Value} {PA : Value → World → Prop} {u u' : World} {row : Option Nat} {q : Nat} {x : Value} (h : RD7 g sb z lv PA q x u) (k : u.grownBy u' row) (hg : ∀ j, row = some j → j < z) (hP : ∀ x, PA x u → PA x u') : RD7 g sb z lv PA q x u' := by
  rcases q with _ | _ | _ | _ | _ | _ | _ | _ | _ | _ | q
  · exact h
  · exact h
  · exact h
  · exact h
  · exact h
  · exact h
  · exact PEl.keep (PPlock0_keep hg) h k
  · exact PSl.keep (PPlock0_keep hg) h k hg
  · exact hP x h
  · exact h
  · trivial
theorem RD7_past {g sb z : Nat} {lv : Value} {PA : Value → World → Prop} {u u' : World} {q : Nat} {x : Value} {L : Nat → Bool} (h1 : q < 10) (h2 : q ≠ 8) (h3 : coD7 q ≠ 8) (h4 : L (coD7 q) = false) (hall : ∀ k, k < 8 → L k = true) (h : RD7 g sb z lv PA q x u) : RD7 g sb z lv PA q x u' := by
  rcases q with _ | _ | _ | _ | _ | _ | _ | _ | _ | _ | q
  · exact Bool.noConfusion ((hall 1 (by decide)).symm.trans h4)
  · exact absurd rfl h3
  · exact Bool.noConfusion ((hall 3 (by decide)).symm.trans h4)
  · exact Bool.noConfusion ((hall 6 (by decide)).symm.trans h4)
  · exact Bool.noConfusion ((hall 5 (by decide)).symm.trans h4)
  · exact Bool.noConfusion ((hall 6 (by decide)).symm.trans h4)
  · exact Bool.noConfusion ((hall 7 (by decide)).symm.trans h4)
  · exact absurd rfl h3
  · exact absurd rfl h2
  · exact h
  · omega
def mkD9 (g rb sb : Nat) (sv : Value) (X : Nat → Value) : Act :=
  { tmps := #[.pointer (some ⟨g, 0, none⟩), undef, .pointer (some ⟨rb, 0, none⟩), .pointer (some ⟨sb, 0, none⟩), .pointer (some ⟨g, 0, none⟩), sv, .pointer (some ⟨g, 0, none⟩), .bool true, .pointer (some ⟨g, 0, none⟩), .int .i64 2, .bool false, .bool false, undef, undef, undef, .bool false, .bool false, undef, undef, undef, undef, undef, undef, undef, undef, undef, undef, .bool true, .bool true, X 29, X 30, X 31, X 32, X 33, X 34, X 35, X 36, X 37, X 38, X 39, undef, undef, undef, undef, undef, undef, undef, undef, undef, undef, undef, undef, undef, undef, undef, undef, undef, undef, undef, undef, undef, undef, undef, undef, undef, undef, undef, undef, undef, undef, undef, undef, undef, undef, undef, undef, undef, undef, undef, undef, undef, undef, undef, undef, undef, undef, undef, undef, undef, undef, undef, undef], defers := [] }
def dsD9 (i : Nat) : Nat := [29, 30, 31, 32, 33, 34, 35, 36, 37, 38, 39].getD i (i + 100)
def coD9 (i : Nat) : Nat := [1, 9, 3, 6, 5, 6, 7, 8, 9, 11, 11].getD i (i + 100)
def RD9 (g sb z : Nat) (lv : Value) (PA : Value → World → Prop) : Nat → Value → World → Prop
  | 0, v, _ => v = .pointer (some ⟨sb, 1, none⟩)
  | 1, v, _ => v = lv
  | 2, v, _ => v = .pointer (some ⟨g, 0, none⟩)
  | 3, v, _ => PInt v
  | 4, v, _ => v = .pointer (some ⟨g, 0, none⟩)
  | 5, v, _ => PInt v
  | 6, v, u => PRow z v u
  | 7, v, u => PEl layL PPlock2 z v u
  | 8, v, u => PSl layL PPlock2 z v u
  | 9, v, u => PA v u
  | 10, v, _ => v = .pointer (some ⟨sb, 1, none⟩)
  | _, _, _ => True
theorem RD9_keep {g sb z : Nat} {lv : Value} {PA : Value → World → Prop} {u u' : World} {row : Option Nat} {q : Nat} {x : Value} (h : RD9 g sb z lv PA q x u) (k : u.grownBy u' row) (hg : ∀ j, row = some j → j < z) (hP : ∀ x, PA x u → PA x u') : RD9 g sb z lv PA q x u' := by
  rcases q with _ | _ | _ | _ | _ | _ | _ | _ | _ | _ | _ | q
  · exact h
  · exact h
  · exact h
  · exact h
  · exact h
  · exact h
  · exact PRow.keep h k hg
  · exact PEl.keep (PPlock2_keep hg) h k
  · exact PSl.keep (PPlock2_keep hg) h k hg
  · exact hP x h
  · exact h
  · trivial
theorem RD9_past {g sb z : Nat} {lv : Value} {PA : Value → World → Prop} {u u' : World} {q : Nat} {x : Value} {L : Nat → Bool} (h1 : q < 11) (h2 : q ≠ 9) (h3 : coD9 q ≠ 9) (h4 : L (coD9 q) = false) (hall : ∀ k, k < 9 → L k = true) (h : RD9 g sb z lv PA q x u) : RD9 g sb z lv PA q x u' := by
  rcases q with _ | _ | _ | _ | _ | _ | _ | _ | _ | _ | _ | q
  · exact Bool.noConfusion ((hall 1 (by decide)).symm.trans h4)
  · exact absurd rfl h3
  · exact Bool.noConfusion ((hall 3 (by decide)).symm.trans h4)
  · exact Bool.noConfusion ((hall 6 (by decide)).symm.trans h4)
  · exact Bool.noConfusion ((hall 5 (by decide)).symm.trans h4)
  · exact Bool.noConfusion ((hall 6 (by decide)).symm.trans h4)
  · exact Bool.noConfusion ((hall 7 (by decide)).symm.trans h4)
  · exact Bool.noConfusion ((hall 8 (by decide)).symm.trans h4)
  · exact absurd rfl h3
  · exact absurd rfl h2
  · exact h
  · omega
def mkD11 (g rb sb : Nat) (sv : Value) (X : Nat → Value) : Act :=
  { tmps := #[.pointer (some ⟨g, 0, none⟩), undef, .pointer (some ⟨rb, 0, none⟩), .pointer (some ⟨sb, 0, none⟩), .pointer (some ⟨g, 0, none⟩), sv, .pointer (some ⟨g, 0, none⟩), .bool true, .pointer (some ⟨g, 0, none⟩), .int .i64 3, .bool false, .bool false, undef, undef, undef, .bool false, .bool false, undef, undef, undef, undef, undef, undef, undef, undef, undef, undef, .bool false, .bool false, undef, undef, undef, undef, undef, undef, undef, undef, undef, undef, undef, .bool true, .bool true, X 42, X 43, X 44, X 45, X 46, X 47, X 48, X 49, X 50, X 51, X 52, X 53, X 54, X 55, undef, undef, undef, undef, undef, undef, undef, undef, undef, undef, undef, undef, undef, undef, undef, undef, undef, undef, undef, undef, undef, undef, undef, undef, undef, undef, undef, undef, undef, undef, undef, undef, undef, undef, undef, undef], defers := [] }
def dsD11 (i : Nat) : Nat := [42, 43, 44, 45, 46, 47, 48, 49, 50, 51, 52, 53, 54, 55].getD i (i + 100)
def coD11 (i : Nat) : Nat := [1, 12, 3, 10, 5, 10, 7, 10, 9, 10, 11, 12, 14, 14].getD i (i + 100)
def RD11 (g sb z : Nat) (lv : Value) (PA : Value → World → Prop) : Nat → Value → World → Prop
  | 0, v, _ => v = .pointer (some ⟨sb, 2, none⟩)
  | 1, v, _ => v = lv
  | 2, v, _ => v = .pointer (some ⟨g, 0, none⟩)
  | 3, v, _ => PInt v
  | 4, v, _ => v = .pointer (some ⟨g, 0, none⟩)
  | 5, v, _ => PInt v
  | 6, v, _ => v = .pointer (some ⟨g, 0, none⟩)
  | 7, v, _ => PInt v
  | 8, v, _ => v = .pointer (some ⟨g, 0, none⟩)
  | 9, v, _ => PInt v
  | 10, v, u => PEl layC PPchan z v u
  | 11, v, u => PSl layC PPchan z v u
  | 12, v, u => PA v u
  | 13, v, _ => v = .pointer (some ⟨sb, 2, none⟩)
  | _, _, _ => True
theorem RD11_keep {g sb z : Nat} {lv : Value} {PA : Value → World → Prop} {u u' : World} {row : Option Nat} {q : Nat} {x : Value} (h : RD11 g sb z lv PA q x u) (k : u.grownBy u' row) (hg : ∀ j, row = some j → j < z) (hP : ∀ x, PA x u → PA x u') : RD11 g sb z lv PA q x u' := by
  rcases q with _ | _ | _ | _ | _ | _ | _ | _ | _ | _ | _ | _ | _ | _ | q
  · exact h
  · exact h
  · exact h
  · exact h
  · exact h
  · exact h
  · exact h
  · exact h
  · exact h
  · exact h
  · exact PEl.keep (PPchan_keep hg) h k
  · exact PSl.keep (PPchan_keep hg) h k hg
  · exact hP x h
  · exact h
  · trivial
theorem RD11_past {g sb z : Nat} {lv : Value} {PA : Value → World → Prop} {u u' : World} {q : Nat} {x : Value} {L : Nat → Bool} (h1 : q < 14) (h2 : q ≠ 12) (h3 : coD11 q ≠ 12) (h4 : L (coD11 q) = false) (hall : ∀ k, k < 12 → L k = true) (h : RD11 g sb z lv PA q x u) : RD11 g sb z lv PA q x u' := by
  rcases q with _ | _ | _ | _ | _ | _ | _ | _ | _ | _ | _ | _ | _ | _ | q
  · exact Bool.noConfusion ((hall 1 (by decide)).symm.trans h4)
  · exact absurd rfl h3
  · exact Bool.noConfusion ((hall 3 (by decide)).symm.trans h4)
  · exact Bool.noConfusion ((hall 10 (by decide)).symm.trans h4)
  · exact Bool.noConfusion ((hall 5 (by decide)).symm.trans h4)
  · exact Bool.noConfusion ((hall 10 (by decide)).symm.trans h4)
  · exact Bool.noConfusion ((hall 7 (by decide)).symm.trans h4)
  · exact Bool.noConfusion ((hall 10 (by decide)).symm.trans h4)
  · exact Bool.noConfusion ((hall 9 (by decide)).symm.trans h4)
  · exact Bool.noConfusion ((hall 10 (by decide)).symm.trans h4)
  · exact Bool.noConfusion ((hall 11 (by decide)).symm.trans h4)
  · exact absurd rfl h3
  · exact absurd rfl h2
  · exact h
  · omega
def mkD13 (g rb sb : Nat) (sv : Value) (X : Nat → Value) : Act :=
  { tmps := #[.pointer (some ⟨g, 0, none⟩), undef, .pointer (some ⟨rb, 0, none⟩), .pointer (some ⟨sb, 0, none⟩), .pointer (some ⟨g, 0, none⟩), sv, .pointer (some ⟨g, 0, none⟩), .bool true, .pointer (some ⟨g, 0, none⟩), .int .i64 4, .bool false, .bool false, undef, undef, undef, .bool false, .bool false, undef, undef, undef, undef, undef, undef, undef, undef, undef, undef, .bool false, .bool false, undef, undef, undef, undef, undef, undef, undef, undef, undef, undef, undef, .bool false, .bool false, undef, undef, undef, undef, undef, undef, undef, undef, undef, undef, undef, undef, undef, undef, .bool true, .bool true, X 58, X 59, X 60, X 61, X 62, X 63, X 64, X 65, X 66, X 67, undef, undef, undef, undef, undef, undef, undef, undef, undef, undef, undef, undef, undef, undef, undef, undef, undef, undef, undef, undef, undef, undef, undef, undef], defers := [] }
def dsD13 (i : Nat) : Nat := [58, 59, 60, 61, 62, 63, 64, 65, 66, 67].getD i (i + 100)
def coD13 (i : Nat) : Nat := [1, 8, 3, 6, 5, 6, 7, 8, 10, 10].getD i (i + 100)
def RD13 (g sb z : Nat) (lv : Value) (PA : Value → World → Prop) : Nat → Value → World → Prop
  | 0, v, _ => v = .pointer (some ⟨sb, 3, none⟩)
  | 1, v, _ => v = lv
  | 2, v, _ => v = .pointer (some ⟨g, 0, none⟩)
  | 3, v, _ => PInt v
  | 4, v, _ => v = .pointer (some ⟨g, 0, none⟩)
  | 5, v, _ => PInt v
  | 6, v, u => PEl layN PPcount z v u
  | 7, v, u => PSl layN PPcount z v u
  | 8, v, u => PA v u
  | 9, v, _ => v = .pointer (some ⟨sb, 3, none⟩)
  | _, _, _ => True
theorem RD13_keep {g sb z : Nat} {lv : Value} {PA : Value → World → Prop} {u u' : World} {row : Option Nat} {q : Nat} {x : Value} (h : RD13 g sb z lv PA q x u) (k : u.grownBy u' row) (hg : ∀ j, row = some j → j < z) (hP : ∀ x, PA x u → PA x u') : RD13 g sb z lv PA q x u' := by
  rcases q with _ | _ | _ | _ | _ | _ | _ | _ | _ | _ | q
  · exact h
  · exact h
  · exact h
  · exact h
  · exact h
  · exact h
  · exact PEl.keep (PPcount_keep hg) h k
  · exact PSl.keep (PPcount_keep hg) h k hg
  · exact hP x h
  · exact h
  · trivial
theorem RD13_past {g sb z : Nat} {lv : Value} {PA : Value → World → Prop} {u u' : World} {q : Nat} {x : Value} {L : Nat → Bool} (h1 : q < 10) (h2 : q ≠ 8) (h3 : coD13 q ≠ 8) (h4 : L (coD13 q) = false) (hall : ∀ k, k < 8 → L k = true) (h : RD13 g sb z lv PA q x u) : RD13 g sb z lv PA q x u' := by
  rcases q with _ | _ | _ | _ | _ | _ | _ | _ | _ | _ | q
  · exact Bool.noConfusion ((hall 1 (by decide)).symm.trans h4)
  · exact absurd rfl h3
  · exact Bool.noConfusion ((hall 3 (by decide)).symm.trans h4)
  · exact Bool.noConfusion ((hall 6 (by decide)).symm.trans h4)
  · exact Bool.noConfusion ((hall 5 (by decide)).symm.trans h4)
  · exact Bool.noConfusion ((hall 6 (by decide)).symm.trans h4)
  · exact Bool.noConfusion ((hall 7 (by decide)).symm.trans h4)
  · exact absurd rfl h3
  · exact absurd rfl h2
  · exact h
  · omega
def mkD15 (g rb sb : Nat) (sv : Value) (X : Nat → Value) : Act :=
  { tmps := #[.pointer (some ⟨g, 0, none⟩), undef, .pointer (some ⟨rb, 0, none⟩), .pointer (some ⟨sb, 0, none⟩), .pointer (some ⟨g, 0, none⟩), sv, .pointer (some ⟨g, 0, none⟩), .bool true, .pointer (some ⟨g, 0, none⟩), .int .i64 5, .bool false, .bool false, undef, undef, undef, .bool false, .bool false, undef, undef, undef, undef, undef, undef, undef, undef, undef, undef, .bool false, .bool false, undef, undef, undef, undef, undef, undef, undef, undef, undef, undef, undef, .bool false, .bool false, undef, undef, undef, undef, undef, undef, undef, undef, undef, undef, undef, undef, undef, undef, .bool false, .bool false, undef, undef, undef, undef, undef, undef, undef, undef, undef, undef, .bool true, .bool true, X 70, X 71, X 72, X 73, X 74, X 75, X 76, undef, undef, undef, undef, undef, undef, undef, undef, undef, undef, undef, undef, undef, undef, undef], defers := [] }
def dsD15 (i : Nat) : Nat := [70, 71, 72, 73, 74, 75, 76].getD i (i + 100)
def coD15 (i : Nat) : Nat := [1, 5, 3, 4, 5, 7, 7].getD i (i + 100)
def RD15 (g sb z : Nat) (lv : Value) (PA : Value → World → Prop) : Nat → Value → World → Prop
  | 0, v, _ => v = .pointer (some ⟨sb, 4, none⟩)
  | 1, v, _ => v = lv
  | 2, v, _ => v = .pointer (some ⟨g, 0, none⟩)
  | 3, v, _ => PInt v
  | 4, v, u => PSl layI PPonce z v u
  | 5, v, u => PA v u
  | 6, v, _ => v = .pointer (some ⟨sb, 4, none⟩)
  | _, _, _ => True
theorem RD15_keep {g sb z : Nat} {lv : Value} {PA : Value → World → Prop} {u u' : World} {row : Option Nat} {q : Nat} {x : Value} (h : RD15 g sb z lv PA q x u) (k : u.grownBy u' row) (hg : ∀ j, row = some j → j < z) (hP : ∀ x, PA x u → PA x u') : RD15 g sb z lv PA q x u' := by
  rcases q with _ | _ | _ | _ | _ | _ | _ | q
  · exact h
  · exact h
  · exact h
  · exact h
  · exact PSl.keep (PPonce_keep hg) h k hg
  · exact hP x h
  · exact h
  · trivial
theorem RD15_past {g sb z : Nat} {lv : Value} {PA : Value → World → Prop} {u u' : World} {q : Nat} {x : Value} {L : Nat → Bool} (h1 : q < 7) (h2 : q ≠ 5) (h3 : coD15 q ≠ 5) (h4 : L (coD15 q) = false) (hall : ∀ k, k < 5 → L k = true) (h : RD15 g sb z lv PA q x u) : RD15 g sb z lv PA q x u' := by
  rcases q with _ | _ | _ | _ | _ | _ | _ | q
  · exact Bool.noConfusion ((hall 1 (by decide)).symm.trans h4)
  · exact absurd rfl h3
  · exact Bool.noConfusion ((hall 3 (by decide)).symm.trans h4)
  · exact Bool.noConfusion ((hall 4 (by decide)).symm.trans h4)
  · exact absurd rfl h3
  · exact absurd rfl h2
  · exact h
  · omega
end Go.Proofs.YtcofhmikdkkigaaGreatDoor
