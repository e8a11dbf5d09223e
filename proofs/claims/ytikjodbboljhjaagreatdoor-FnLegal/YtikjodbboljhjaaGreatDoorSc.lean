/-
  Scenes: the model, how one lies in memory.
-/
import Derived.Test.YtikjodbboljhjaaGreatDoorRowG
import Derived.Test.YtikjodbboljhjaaGreatDoorScInts
namespace Go.Proofs.YtikjodbboljhjaaGreatDoor
open Go.RowKit

/-- A lock's value: its third field is a slice. -/
structure Lv where
  o : Int
  wr : Int
  ro : Option Addr
  rn : Nat
  rc : Nat
/-- A lock, as it is meant. -/
structure Lk where
  o : Int
  wr : Int
  rd : List Int
structure Ch where
  o : Int
  cap : Int
  sent : Int
  got : Int
  cl : Bool
structure Ct where
  o : Int
  n : Int
structure Scn where
  g : Int
  ls : List Lk
  cs : List Ch
  gs : List Ct
  os : List Int

def layL : Lay Lv where
  ty := 47
  sz := 3
  cs l := [.int .i64 l.o, .int .i64 l.wr, .slice l.ro l.rn l.rc]
  pos := by omega
  len _ := rfl
  one x u hu := by
    simp only [List.mem_cons, List.not_mem_nil, or_false] at hu
    rcases hu with rfl | rfl | rfl <;> rfl
def layC : Lay Ch where
  ty := 82
  sz := 5
  cs l := [.int .i64 l.o, .int .i64 l.cap, .int .i64 l.sent, .int .i64 l.got, .bool l.cl]
  pos := by omega
  len _ := rfl
  one x u hu := by
    simp only [List.mem_cons, List.not_mem_nil, or_false] at hu
    rcases hu with rfl | rfl | rfl | rfl | rfl <;> rfl
def layN : Lay Ct where
  ty := 85
  sz := 2
  cs l := [.int .i64 l.o, .int .i64 l.n]
  pos := by omega
  len _ := rfl
  one x u hu := by
    simp only [List.mem_cons, List.not_mem_nil, or_false] at hu
    rcases hu with rfl | rfl <;> rfl

/-- The block of a slice is one of B's. -/
def InB (B : Nat → Prop) (ao : Option Addr) : Prop := ∀ b, blk ao = some b → B b
theorem InB.ne {B : Nat → Prop} {ao : Option Addr} {row : Option Nat} (h : InB B ao) (hr : ∀ j, row = some j → ¬ B j) : row = none ∨ blk ao ≠ row := by
  cases row with
  | none => exact .inl rfl
  | some j => exact .inr fun e => hr j rfl (h j e)

/-- The lock's value lv is the lock l. -/
structure LkR (B : Nat → Prop) (w : World) (lv : Lv) (l : Lk) : Prop where
  o : lv.o = l.o
  wr : lv.wr = l.wr
  rn : lv.rn = l.rd.length
  rd : Reads w lv.ro l.rd
  bl : InB B lv.ro
  rc : lv.ro = none → lv.rc = 0
  sz : l.rd.length ≤ 1048576
  io : I64 l.o
  iw : I64 l.wr
theorem LkR.keep {B : Nat → Prop} {w w' : World} {lv : Lv} {l : Lk} {row : Option Nat} (h : LkR B w lv l) (k : w.grownBy w' row) (hr : ∀ j, row = some j → ¬ B j) : LkR B w' lv l :=
  ⟨h.o, h.wr, h.rn, h.rd.keep k (h.bl.ne hr), h.bl, h.rc, h.sz, h.io, h.iw⟩
theorem LkR.fr {B : Nat → Prop} {w w' : World} {lv : Lv} {l : Lk} (h : LkR B w lv l) (k : Fr w w') : LkR B w' lv l := h.keep k (by simp)

/-- The locks' values are the locks. -/
structure LksR (B : Nat → Prop) (w : World) (lvs : List Lv) (ls : List Lk) : Prop where
  len : lvs.length = ls.length
  at_ : ∀ j (h1 : j < lvs.length) (h2 : j < ls.length), LkR B w lvs[j] ls[j]
theorem LksR.keep {B : Nat → Prop} {w w' : World} {lvs : List Lv} {ls : List Lk} {row : Option Nat} (h : LksR B w lvs ls) (k : w.grownBy w' row) (hr : ∀ j, row = some j → ¬ B j) : LksR B w' lvs ls :=
  ⟨h.len, fun j h1 h2 => (h.at_ j h1 h2).keep k hr⟩
theorem LksR.fr {B : Nat → Prop} {w w' : World} {lvs : List Lv} {ls : List Lk} (h : LksR B w lvs ls) (k : Fr w w') : LksR B w' lvs ls := h.keep k (by simp)
theorem LksR.nil (B : Nat → Prop) (w : World) : LksR B w [] [] := ⟨rfl, fun j h1 => absurd h1 (by simp)⟩
theorem LksR.snoc {B : Nat → Prop} {w : World} {lvs : List Lv} {ls : List Lk} {lv : Lv} {l : Lk} (h : LksR B w lvs ls) (hl : LkR B w lv l) : LksR B w (lvs ++ [lv]) (ls ++ [l]) := by
  have hlen := h.len
  refine ⟨by simp [hlen], fun j h1 h2 => ?_⟩
  by_cases e : j < lvs.length
  · rw [List.getElem_append_left e, List.getElem_append_left (by omega)]
    exact h.at_ j e (by omega)
  · have e2 : j = lvs.length := by simp at h1; omega
    subst e2
    have a1 : (lvs ++ [lv])[lvs.length]'h1 = lv := by simp
    have a2 : (ls ++ [l])[lvs.length]'h2 = l := by simp [hlen]
    rw [a1, a2]
    exact hl

/-- A scene's value. -/
structure Sv where
  g : Int
  lo : Option Addr
  ll : Nat
  lc : Nat
  co : Option Addr
  cl : Nat
  cc : Nat
  no : Option Addr
  nl : Nat
  nc : Nat
  oo : Option Addr
  ol : Nat
  oc : Nat

/-- The scene's value s is the scene m. -/
structure ScR (B : Nat → Prop) (w : World) (s : Sv) (m : Scn) : Prop where
  g : s.g = m.g
  ig : I64 m.g
  lks : ∃ lvs, ReadsG layL w s.lo lvs ∧ s.ll = lvs.length ∧ LksR B w lvs m.ls
  chs : ReadsG layC w s.co m.cs
  cl : s.cl = m.cs.length
  cts : ReadsG layN w s.no m.gs
  nl : s.nl = m.gs.length
  ons : Reads w s.oo m.os
  ol : s.ol = m.os.length
  bl : InB B s.lo
  bc : InB B s.co
  bn : InB B s.no
  bo : InB B s.oo
  zo : s.oo = none → s.oc = 0
  sl : m.ls.length ≤ 1048576
  sc : m.cs.length ≤ 1048576
  sn : m.gs.length ≤ 1048576
  so : m.os.length ≤ 1048576
  ic : ∀ c ∈ m.cs, I64 c.o ∧ I64 c.cap ∧ I64 c.sent ∧ I64 c.got
  inn : ∀ c ∈ m.gs, I64 c.o ∧ I64 c.n
theorem ScR.keep {B : Nat → Prop} {w w' : World} {s : Sv} {m : Scn} {row : Option Nat} (h : ScR B w s m) (k : w.grownBy w' row) (hr : ∀ j, row = some j → ¬ B j) : ScR B w' s m := by
  obtain ⟨lvs, h1, h2, h3⟩ := h.lks
  exact { h with lks := ⟨lvs, h1.keep k (h.bl.ne hr), h2, h3.keep k hr⟩, chs := h.chs.keep k (h.bc.ne hr), cts := h.cts.keep k (h.bn.ne hr), ons := h.ons.keep k (h.bo.ne hr) }
theorem ScR.fr {B : Nat → Prop} {w w' : World} {s : Sv} {m : Scn} (h : ScR B w s m) (k : Fr w w') : ScR B w' s m := h.keep k (by simp)

/-- The lock of an object; one that nobody has where there is none. -/
def lockOf (ls : List Lk) (o : Int) : Lk := (ls.find? fun l => l.o == o).getD ⟨o, -1, []⟩
def chanOf (cs : List Ch) (o : Int) : Ch := (cs.find? fun l => l.o == o).getD ⟨o, 0, 0, 0, false⟩
def isChan (cs : List Ch) (o : Int) : Bool := (cs.find? fun l => l.o == o).isSome
def countOf (gs : List Ct) (o : Int) : Int := ((gs.find? fun l => l.o == o).map Ct.n).getD 0

theorem find_at {α : Type} (p : α → Bool) (xs : List α) (k : Nat) (hk : k < xs.length) (h : ∀ j (hj : j < xs.length), j < k → p xs[j] = false) (hp : p xs[k] = true) : xs.find? p = some xs[k] := by
  induction xs generalizing k with
  | nil => simp at hk
  | cons x xs ih =>
    cases k with
    | zero => simp at hp ⊢; exact .inl hp
    | succ k =>
      have h0 : p x = false := h 0 (by simp) (by omega)
      rw [List.find?_cons, h0]
      simp only [List.getElem_cons_succ] at hp ⊢
      exact ih k (by simpa using hk) (fun j hj hjk => h (j + 1) (by simpa using hj) (by omega)) hp
theorem find_none {α : Type} (p : α → Bool) (xs : List α) (h : ∀ j (hj : j < xs.length), p xs[j] = false) : xs.find? p = none := by
  rw [List.find?_eq_none]
  intro x hx
  obtain ⟨j, hj, rfl⟩ := List.mem_iff_getElem.1 hx
  simp [h j hj]

/-- The cells of one lock, one channel, one count of a slice. -/
theorem lv_at {w : World} {ao : Option Addr} {lvs : List Lv} (h : ReadsG layL w ao lvs) (k : Nat) (hk : k < lvs.length) : ∃ b off, ao = some ⟨b, off, none⟩ ∧ w.cell? ⟨b, off + k * 3, none⟩ = some (.int .i64 lvs[k].o) ∧ w.cell? ⟨b, off + k * 3 + 1, none⟩ = some (.int .i64 lvs[k].wr) ∧ w.cell? ⟨b, off + k * 3 + 2, none⟩ = some (.slice lvs[k].ro lvs[k].rn lvs[k].rc) := by
  obtain ⟨b, off, e, hc⟩ := h.at_ k hk
  exact ⟨b, off, e, hc k hk 0 (by decide), hc k hk 1 (by decide), hc k hk 2 (by decide)⟩
theorem ch_at {w : World} {ao : Option Addr} {cs : List Ch} (h : ReadsG layC w ao cs) (k : Nat) (hk : k < cs.length) : ∃ b off, ao = some ⟨b, off, none⟩ ∧ w.cell? ⟨b, off + k * 5, none⟩ = some (.int .i64 cs[k].o) ∧ w.cell? ⟨b, off + k * 5 + 1, none⟩ = some (.int .i64 cs[k].cap) ∧ w.cell? ⟨b, off + k * 5 + 2, none⟩ = some (.int .i64 cs[k].sent) ∧ w.cell? ⟨b, off + k * 5 + 3, none⟩ = some (.int .i64 cs[k].got) ∧ w.cell? ⟨b, off + k * 5 + 4, none⟩ = some (.bool cs[k].cl) := by
  obtain ⟨b, off, e, hc⟩ := h.at_ k hk
  exact ⟨b, off, e, hc k hk 0 (by decide), hc k hk 1 (by decide), hc k hk 2 (by decide), hc k hk 3 (by decide), hc k hk 4 (by decide)⟩
theorem ct_at {w : World} {ao : Option Addr} {gs : List Ct} (h : ReadsG layN w ao gs) (k : Nat) (hk : k < gs.length) : ∃ b off, ao = some ⟨b, off, none⟩ ∧ w.cell? ⟨b, off + k * 2, none⟩ = some (.int .i64 gs[k].o) ∧ w.cell? ⟨b, off + k * 2 + 1, none⟩ = some (.int .i64 gs[k].n) := by
  obtain ⟨b, off, e, hc⟩ := h.at_ k hk
  exact ⟨b, off, e, hc k hk 0 (by decide), hc k hk 1 (by decide)⟩

/-- A scene's five cells, in a block of their own. -/
structure ScB (w : World) (b : Nat) (s : Sv) : Prop where
  c0 : w.cell? ⟨b, 0, none⟩ = some (.int .i64 s.g)
  c1 : w.cell? ⟨b, 1, none⟩ = some (.slice s.lo s.ll s.lc)
  c2 : w.cell? ⟨b, 2, none⟩ = some (.slice s.co s.cl s.cc)
  c3 : w.cell? ⟨b, 3, none⟩ = some (.slice s.no s.nl s.nc)
  c4 : w.cell? ⟨b, 4, none⟩ = some (.slice s.oo s.ol s.oc)
theorem ScB.keep {w w' : World} {b : Nat} {s : Sv} {row : Option Nat} (h : ScB w b s) (k : w.grownBy w' row) (hr : some b ≠ row) : ScB w' b s :=
  ⟨k.cell h.c0 hr, k.cell h.c1 hr, k.cell h.c2 hr, k.cell h.c3 hr, k.cell h.c4 hr⟩
theorem ScB.new (w : World) (s : Sv) : ScB (w.alloc (.cells #[.int .i64 s.g, .slice s.lo s.ll s.lc, .slice s.co s.cl s.cc, .slice s.no s.nl s.nc, .slice s.oo s.ol s.oc] 29)) w.heap.size s :=
  ⟨by simp [go_sem], by simp [go_sem], by simp [go_sem], by simp [go_sem], by simp [go_sem]⟩
end Go.Proofs.YtikjodbboljhjaaGreatDoor
