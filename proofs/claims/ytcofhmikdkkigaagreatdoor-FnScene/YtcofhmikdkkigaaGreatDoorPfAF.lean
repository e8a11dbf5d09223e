/-
  Pack AF: Sc, ScOf, ScOk, ScLk, ScRow.
-/
import Derived.Test.YtcofhmikdkkigaaGreatDoorPfAB
import Derived.Test.YtcofhmikdkkigaaGreatDoorPfAD
import Derived.Test.YtcofhmikdkkigaaGreatDoorPfAE
import Derived.BigQuiet
import Derived.Deep.QuietTactic
namespace Go.Proofs.YtcofhmikdkkigaaGreatDoor
open Go.RowKit

structure Lv where
  o : Int
  wr : Int
  ro : Option Addr
  rn : Nat
  rc : Nat
structure Lk where
  o : Int
  wr : Int
  rd : List Int
structure Ch where
  o : Int
  cap : Int
  sent : Int
  got : Int
  cl : Bool
structure Ct where
  o : Int
  n : Int
structure Scn where
  g : Int
  ls : List Lk
  cs : List Ch
  gs : List Ct
  os : List Int

def layL : Lay Lv where
  ty := 86
  sz := 3
  cs l := [.int .i64 l.o, .int .i64 l.wr, .slice l.ro l.rn l.rc]
  pos := by omega
  len _ := rfl
  one x u hu := by
    simp only [List.mem_cons, List.not_mem_nil, or_false] at hu
    rcases hu with rfl | rfl | rfl <;> rfl
def layC : Lay Ch where
  ty := 89
  sz := 5
  cs l := [.int .i64 l.o, .int .i64 l.cap, .int .i64 l.sent, .int .i64 l.got, .bool l.cl]
  pos := by omega
  len _ := rfl
  one x u hu := by
    simp only [List.mem_cons, List.not_mem_nil, or_false] at hu
    rcases hu with rfl | rfl | rfl | rfl | rfl <;> rfl
def layN : Lay Ct where
  ty := 92
  sz := 2
  cs l := [.int .i64 l.o, .int .i64 l.n]
  pos := by omega
  len _ := rfl
  one x u hu := by
    simp only [List.mem_cons, List.not_mem_nil, or_false] at hu
    rcases hu with rfl | rfl <;> rfl

def InB (B : Nat → Prop) (ao : Option Addr) : Prop := ∀ b, blk ao = some b → B b
theorem InB.ne {B : Nat → Prop} {ao : Option Addr} {row : Option Nat} (h : InB B ao) (hr : ∀ j, row = some j → ¬ B j) : row = none ∨ blk ao ≠ row := by
  cases row with
  | none => exact .inl rfl
  | some j => exact .inr fun e => hr j rfl (h j e)

structure LkR (B : Nat → Prop) (w : World) (lv : Lv) (l : Lk) : Prop where
  o : lv.o = l.o
  wr : lv.wr = l.wr
  rn : lv.rn = l.rd.length
  rd : Reads w lv.ro l.rd
  bl : InB B lv.ro
  rc : lv.ro = none → lv.rc = 0
  sz : l.rd.length ≤ 1048576
  io : I64 l.o
  iw : I64 l.wr
theorem LkR.keep {B : Nat → Prop} {w w' : World} {lv : Lv} {l : Lk} {row : Option Nat} (h : LkR B w lv l) (k : w.grownBy w' row) (hr : ∀ j, row = some j → ¬ B j) : LkR B w' lv l :=
  ⟨h.o, h.wr, h.rn, h.rd.keep k (h.bl.ne hr), h.bl, h.rc, h.sz, h.io, h.iw⟩
theorem LkR.fr {B : Nat → Prop} {w w' : World} {lv : Lv} {l : Lk} (h : LkR B w lv l) (k : Fr w w') : LkR B w' lv l := h.keep k (by simp)

structure LksR (B : Nat → Prop) (w : World) (lvs : List Lv) (ls : List Lk) : Prop where
  len : lvs.length = ls.length
  at_ : ∀ j (h1 : j < lvs.length) (h2 : j < ls.length), LkR B w lvs[j] ls[j]
theorem LksR.keep {B : Nat → Prop} {w w' : World} {lvs : List Lv} {ls : List Lk} {row : Option Nat} (h : LksR B w lvs ls) (k : w.grownBy w' row) (hr : ∀ j, row = some j → ¬ B j) : LksR B w' lvs ls :=
  ⟨h.len, fun j h1 h2 => (h.at_ j h1 h2).keep k hr⟩
theorem LksR.fr {B : Nat → Prop} {w w' : World} {lvs : List Lv} {ls : List Lk} (h : LksR B w lvs ls) (k : Fr w w') : LksR B w' lvs ls := h.keep k (by simp)
theorem LksR.nil (B : Nat → Prop) (w : World) : LksR B w [] [] := ⟨rfl, fun j h1 => absurd h1 (by simp)⟩
theorem LksR.snoc {B : Nat → Prop} {w : World} {lvs : List Lv} {ls : List Lk} {lv : Lv} {l : Lk} (h : LksR B w lvs ls) (hl : LkR B w lv l) : LksR B w (lvs ++ [lv]) (ls ++ [l]) := by
  have hlen := h.len
  refine ⟨by simp [hlen], fun j h1 h2 => ?_⟩
  by_cases e : j < lvs.length
  · rw [List.getElem_append_left e, List.getElem_append_left (by omega)]
    exact h.at_ j e (by omega)
  · have e2 : j = lvs.length := by simp at h1; omega
    subst e2
    have a1 : (lvs ++ [lv])[lvs.length]'h1 = lv := by simp
    have a2 : (ls ++ [l])[lvs.length]'h2 = l := by simp [hlen]
    rw [a1, a2]
    exact hl

structure Sv where
  g : Int
  lo : Option Addr
  ll : Nat
  lc : Nat
  co : Option Addr
  cl : Nat
  cc : Nat
  no : Option Addr
  nl : Nat
  nc : Nat
  oo : Option Addr
  ol : Nat
  oc : Nat

structure ScR (B : Nat → Prop) (w : World) (s : Sv) (m : Scn) : Prop where
  g : s.g = m.g
  ig : I64 m.g
  lks : ∃ lvs, ReadsG layL w s.lo lvs ∧ s.ll = lvs.length ∧ LksR B w lvs m.ls
  chs : ReadsG layC w s.co m.cs
  cl : s.cl = m.cs.length
  cts : ReadsG layN w s.no m.gs
  nl : s.nl = m.gs.length
  ons : Reads w s.oo m.os
  ol : s.ol = m.os.length
  bl : InB B s.lo
  bc : InB B s.co
  bn : InB B s.no
  bo : InB B s.oo
  zo : s.oo = none → s.oc = 0
  sl : m.ls.length ≤ 1048576
  sc : m.cs.length ≤ 1048576
  sn : m.gs.length ≤ 1048576
  so : m.os.length ≤ 1048576
  ic : ∀ c ∈ m.cs, I64 c.o ∧ I64 c.cap ∧ I64 c.sent ∧ I64 c.got
  inn : ∀ c ∈ m.gs, I64 c.o ∧ I64 c.n
theorem ScR.keep {B : Nat → Prop} {w w' : World} {s : Sv} {m : Scn} {row : Option Nat} (h : ScR B w s m) (k : w.grownBy w' row) (hr : ∀ j, row = some j → ¬ B j) : ScR B w' s m := by
  obtain ⟨lvs, h1, h2, h3⟩ := h.lks
  exact { h with lks := ⟨lvs, h1.keep k (h.bl.ne hr), h2, h3.keep k hr⟩, chs := h.chs.keep k (h.bc.ne hr), cts := h.cts.keep k (h.bn.ne hr), ons := h.ons.keep k (h.bo.ne hr) }
theorem ScR.fr {B : Nat → Prop} {w w' : World} {s : Sv} {m : Scn} (h : ScR B w s m) (k : Fr w w') : ScR B w' s m := h.keep k (by simp)

def lockOf (ls : List Lk) (o : Int) : Lk := (ls.find? fun l => l.o == o).getD ⟨o, -1, []⟩
def chanOf (cs : List Ch) (o : Int) : Ch := (cs.find? fun l => l.o == o).getD ⟨o, 0, 0, 0, false⟩
def isChan (cs : List Ch) (o : Int) : Bool := (cs.find? fun l => l.o == o).isSome
def countOf (gs : List Ct) (o : Int) : Int := ((gs.find? fun l => l.o == o).map Ct.n).getD 0

theorem find_at {α : Type} (p : α → Bool) (xs : List α) (k : Nat) (hk : k < xs.length) (h : ∀ j (hj : j < xs.length), j < k → p xs[j] = false) (hp : p xs[k] = true) : xs.find? p = some xs[k] := by
  induction xs generalizing k with
  | nil => simp at hk
  | cons x xs ih =>
    cases k with
    | zero => simp at hp ⊢; exact .inl hp
    | succ k =>
      have h0 : p x = false := h 0 (by simp) (by omega)
      rw [List.find?_cons, h0]
      simp only [List.getElem_cons_succ] at hp ⊢
      exact ih k (by simpa using hk) (fun j hj hjk => h (j + 1) (by simpa using hj) (by omega)) hp
theorem find_none {α : Type} (p : α → Bool) (xs : List α) (h : ∀ j (hj : j < xs.length), p xs[j] = false) : xs.find? p = none := by
  rw [List.find?_eq_none]
  intro x hx
  obtain ⟨j, hj, rfl⟩ := List.mem_iff_getElem.1 hx
  simp [h j hj]

theorem lv_at {w : World} {ao : Option Addr} {lvs : List Lv} (h : ReadsG layL w ao lvs) (k : Nat) (hk : k < lvs.length) : ∃ b off, ao = some ⟨b, off, none⟩ ∧ w.cell? ⟨b, off + k * 3, none⟩ = some (.int .i64 lvs[k].o) ∧ w.cell? ⟨b, off + k * 3 + 1, none⟩ = some (.int .i64 lvs[k].wr) ∧ w.cell? ⟨b, off + k * 3 + 2, none⟩ = some (.slice lvs[k].ro lvs[k].rn lvs[k].rc) := by
  obtain ⟨b, off, e, hc⟩ := h.at_ k hk
  exact ⟨b, off, e, hc k hk 0 (by decide), hc k hk 1 (by decide), hc k hk 2 (by decide)⟩
theorem ch_at {w : World} {ao : Option Addr} {cs : List Ch} (h : ReadsG layC w ao cs) (k : Nat) (hk : k < cs.length) : ∃ b off, ao = some ⟨b, off, none⟩ ∧ w.cell? ⟨b, off + k * 5, none⟩ = some (.int .i64 cs[k].o) ∧ w.cell? ⟨b, off + k * 5 + 1, none⟩ = some (.int .i64 cs[k].cap) ∧ w.cell? ⟨b, off + k * 5 + 2, none⟩ = some (.int .i64 cs[k].sent) ∧ w.cell? ⟨b, off + k * 5 + 3, none⟩ = some (.int .i64 cs[k].got) ∧ w.cell? ⟨b, off + k * 5 + 4, none⟩ = some (.bool cs[k].cl) := by
  obtain ⟨b, off, e, hc⟩ := h.at_ k hk
  exact ⟨b, off, e, hc k hk 0 (by decide), hc k hk 1 (by decide), hc k hk 2 (by decide), hc k hk 3 (by decide), hc k hk 4 (by decide)⟩
theorem ct_at {w : World} {ao : Option Addr} {gs : List Ct} (h : ReadsG layN w ao gs) (k : Nat) (hk : k < gs.length) : ∃ b off, ao = some ⟨b, off, none⟩ ∧ w.cell? ⟨b, off + k * 2, none⟩ = some (.int .i64 gs[k].o) ∧ w.cell? ⟨b, off + k * 2 + 1, none⟩ = some (.int .i64 gs[k].n) := by
  obtain ⟨b, off, e, hc⟩ := h.at_ k hk
  exact ⟨b, off, e, hc k hk 0 (by decide), hc k hk 1 (by decide)⟩

structure ScB (w : World) (b : Nat) (s : Sv) : Prop where
  c0 : w.cell? ⟨b, 0, none⟩ = some (.int .i64 s.g)
  c1 : w.cell? ⟨b, 1, none⟩ = some (.slice s.lo s.ll s.lc)
  c2 : w.cell? ⟨b, 2, none⟩ = some (.slice s.co s.cl s.cc)
  c3 : w.cell? ⟨b, 3, none⟩ = some (.slice s.no s.nl s.nc)
  c4 : w.cell? ⟨b, 4, none⟩ = some (.slice s.oo s.ol s.oc)
theorem ScB.keep {w w' : World} {b : Nat} {s : Sv} {row : Option Nat} (h : ScB w b s) (k : w.grownBy w' row) (hr : some b ≠ row) : ScB w' b s :=
  ⟨k.cell h.c0 hr, k.cell h.c1 hr, k.cell h.c2 hr, k.cell h.c3 hr, k.cell h.c4 hr⟩
theorem ScB.new (w : World) (s : Sv) : ScB (w.alloc (.cells #[.int .i64 s.g, .slice s.lo s.ll s.lc, .slice s.co s.cl s.cc, .slice s.no s.nl s.nc, .slice s.oo s.ol s.oc] 29)) w.heap.size s :=
  ⟨by simp [go_sem], by simp [go_sem], by simp [go_sem], by simp [go_sem], by simp [go_sem]⟩
end Go.Proofs.YtcofhmikdkkigaaGreatDoor
namespace Go.Proofs.YtcofhmikdkkigaaGreatDoor
open Go.RowKit

theorem count_yes (gs : List Ct) (o : Int) (k : Nat) (hk : k < gs.length) (h : ∀ j (hj : j < gs.length), j < k → (gs[j].o == o) = false) (he : (gs[k].o == o) = true) : countOf gs o = gs[k].n := by
  rw [countOf, find_at _ gs k hk h he]; rfl
theorem count_no (gs : List Ct) (o : Int) (h : ∀ j (hj : j < gs.length), (gs[j].o == o) = false) : countOf gs o = 0 := by
  rw [countOf, find_none _ gs h]; rfl
theorem upto_step {α : Type} (p : α → Bool) (xs : List α) (k : Nat) (h : ∀ j (hj : j < xs.length), j < k → p xs[j] = false) (hk : k < xs.length) (he : p xs[k] = false) : ∀ j (hj : j < xs.length), j < k + 1 → p xs[j] = false := by
  intro j hj hjk
  by_cases e : j = k
  · subst e; exact he
  · exact h j hj (by omega)

set_option maxHeartbeats 600000 in
theorem l4CountOf_any {B : Nat → Prop} (s : Sv) (m : Scn) (o : Int) (w : World) (h : ScR B w s m) :
    Calls Tryz.prog 55 #[.agg #[.int .i64 s.g, .slice s.lo s.ll s.lc, .slice s.co s.cl s.cc, .slice s.no s.nl s.nc, .slice s.oo s.ol s.oc], .int .i64 o] w fun e w' => e = .returned (.int .i64 (countOf m.gs o)) ∧ Fr w w' := by
  have hr := h.cts
  have hl := h.sn
  have hn := h.nl
  clear h
  obtain ⟨g, lo, ll, lc, co, cl, cc, no, nl, nc, oo, ol, oc⟩ := s
  simp only at hr hn ⊢
  subst hn
  obtain ⟨gs, hgs⟩ : ∃ gs, gs = m.gs := ⟨_, rfl⟩
  rw [← hgs] at hr hl ⊢
  clear hgs
  have c3 := (ScB.new w ⟨g, lo, ll, lc, co, cl, cc, no, gs.length, nc, oo, ol, oc⟩).c3
  simp only at c3
  have hr := hr.fr (Fr.alloc w (.cells #[.int .i64 g, .slice lo ll lc, .slice co cl cc, .slice no gs.length nc, .slice oo ol oc] 29))
  go_enter Tryz.func55, Tryz.ntmps55
  go_wp2
  go_loop [5] (fun i => ∃ k : Nat, k ≤ gs.length ∧ i = .int .i64 k ∧ Hid (∀ j (hj : j < gs.length), j < k → (gs[j].o == o) = false)) (fun i => gs.length - (intOf i).toNat)
  case atStart => exact ⟨0, Nat.zero_le _, rfl, fun j hj hk => by omega⟩
  case round =>
    obtain ⟨k, hk, rfl, HA⟩ := hrel
    by_cases hlt : k < gs.length
    · obtain ⟨b, off, rfl, d0, d1⟩ := ct_at hr k hlt
      cases hb : (gs[k].o == o)
      · have HS : Hid (∀ j (hj : j < gs.length), j < k + 1 → (gs[j].o == o) = false) := upto_step (fun c : Ct => c.o == o) gs k HA.out hlt hb
        go_wp2
        go_round
        case rel => exact ⟨k + 1, by omega, by go_num, HS⟩
        case measure => simp [intOf]; omega
      · have HE : Hid (countOf gs o = gs[k].n) := count_yes gs o k hlt HA.out hb
        go_wp2
        go_ret
        exact ⟨ret_int HE.out.symm, Fr.alloc _ _⟩
    · have HN : Hid (countOf gs o = 0) := count_no gs o (fun j hj => HA.out j hj (by omega))
      go_wp2
      go_ret
      exact ⟨ret_int HN.out.symm, Fr.alloc _ _⟩
theorem lock_yes (ls : List Lk) (o : Int) (k : Nat) (hk : k < ls.length) (h : ∀ j (hj : j < ls.length), j < k → (ls[j].o == o) = false) (he : (ls[k].o == o) = true) : lockOf ls o = ls[k] := by
  rw [lockOf, find_at _ ls k hk h he]; rfl
theorem lock_no (ls : List Lk) (o : Int) (h : ∀ j (hj : j < ls.length), (ls[j].o == o) = false) : lockOf ls o = ⟨o, -1, []⟩ := by
  rw [lockOf, find_none _ ls h]; rfl
theorem i64_m1 : I64 (-1) := ⟨by decide, by decide⟩
theorem lvB_new (w : World) (l : Lv) : (w.alloc (.cells #[.int .i64 l.o, .int .i64 l.wr, .slice l.ro l.rn l.rc] 86)).cell? ⟨w.heap.size, 0, none⟩ = some (.int .i64 l.o) ∧ (w.alloc (.cells #[.int .i64 l.o, .int .i64 l.wr, .slice l.ro l.rn l.rc] 86)).cell? ⟨w.heap.size, 1, none⟩ = some (.int .i64 l.wr) ∧ (w.alloc (.cells #[.int .i64 l.o, .int .i64 l.wr, .slice l.ro l.rn l.rc] 86)).cell? ⟨w.heap.size, 2, none⟩ = some (.slice l.ro l.rn l.rc) :=
  ⟨by simp [go_sem], by simp [go_sem], by simp [go_sem]⟩

set_option maxHeartbeats 600000 in
theorem l4LockOf_any {B : Nat → Prop} (s : Sv) (m : Scn) (o : Int) (w : World) (ho : I64 o) (h : ScR B w s m) :
    Calls Tryz.prog 112 #[.agg #[.int .i64 s.g, .slice s.lo s.ll s.lc, .slice s.co s.cl s.cc, .slice s.no s.nl s.nc, .slice s.oo s.ol s.oc], .int .i64 o] w fun e w' => ∃ lv : Lv, e = .returned (.agg #[.int .i64 lv.o, .int .i64 lv.wr, .slice lv.ro lv.rn lv.rc]) ∧ LkR B w' lv (lockOf m.ls o) ∧ Fr w w' := by
  obtain ⟨lvs, hr, hn, hL⟩ := h.lks
  have hl := h.sl
  clear h
  obtain ⟨g, lo, ll, lc, co, cl, cc, no, nl, nc, oo, ol, oc⟩ := s
  simp only at hr hn ⊢
  subst hn
  obtain ⟨ls, hls⟩ : ∃ ls, ls = m.ls := ⟨_, rfl⟩
  rw [← hls] at hL hl ⊢
  clear hls
  have c1 := (Fr.alloc (w.alloc (.cells #[.int .i64 g, .slice lo lvs.length lc, .slice co cl cc, .slice no nl nc, .slice oo ol oc] 29)) (.cells #[.int .i64 0, .int .i64 0, .slice none 0 0] 86)).cell (ScB.new w ⟨g, lo, lvs.length, lc, co, cl, cc, no, nl, nc, oo, ol, oc⟩).c1
  simp only at c1
  have f2 := (Fr.alloc w (.cells #[.int .i64 g, .slice lo lvs.length lc, .slice co cl cc, .slice no nl nc, .slice oo ol oc] 29)).trans (Fr.alloc _ (.cells #[.int .i64 0, .int .i64 0, .slice none 0 0] 86))
  have hr := hr.fr f2
  go_enter Tryz.func112, Tryz.ntmps112
  go_wp2
  go_loop [5] (fun i => ∃ k : Nat, k ≤ lvs.length ∧ i = .int .i64 k ∧ Hid (∀ j (hj : j < ls.length), j < k → (ls[j].o == o) = false)) (fun i => lvs.length - (intOf i).toNat)
  case atStart => exact ⟨0, Nat.zero_le _, rfl, fun j hj hk => by omega⟩
  case round =>
    obtain ⟨k, hk, rfl, HA⟩ := hrel
    by_cases hlt : k < lvs.length
    · obtain ⟨b, off, rfl, d0, d1, d2⟩ := lv_at hr k hlt
      have hk2 : k < ls.length := by have := hL.len; omega
      have hLk := hL.at_ k hlt hk2
      have ee := hLk.o
      obtain ⟨lv, hlv⟩ : ∃ lv, lv = lvs[k] := ⟨_, rfl⟩
      rw [← hlv] at d0 d1 d2 hLk ee
      clear hlv
      cases hb : (lv.o == o)
      · have HS : Hid (∀ j (hj : j < ls.length), j < k + 1 → (ls[j].o == o) = false) := upto_step (fun c : Lk => c.o == o) ls k HA.out hk2 (by rw [← ee]; exact hb)
        clear ee hLk
        go_wp2
        go_round
        case rel => exact ⟨k + 1, by omega, by go_num, HS⟩
        case measure => simp [intOf]; omega
      · have HE : Hid (lockOf ls o = ls[k]) := lock_yes ls o k hk2 HA.out (by rw [← ee]; exact hb)
        clear ee
        go_wp2
        refine bodyPost_ret (v := .agg #[.int .i64 lv.o, .int .i64 lv.wr, .slice lv.ro lv.rn lv.rc]) (by simp [results, Tryz.results112, go_sem]) rfl ⟨lv, rfl, ?_, (Fr.alloc _ _).trans (Fr.alloc _ _)⟩
        rw [HE.out]
        exact hLk.fr ((Fr.alloc _ _).trans (Fr.alloc _ _))
    · have HN : Hid (lockOf ls o = ⟨o, -1, []⟩) := lock_no ls o (fun j hj => HA.out j hj (by have := hL.len; omega))
      go_wp2
      refine bodyPost_ret (v := .agg #[.int .i64 o, .int .i64 (-1), .slice none 0 0]) (by simp [results, Tryz.results112, go_sem]) rfl ⟨⟨o, -1, none, 0, 0⟩, rfl, ?_, (Fr.alloc _ _).trans (Fr.alloc _ _)⟩
      rw [HN.out]
      exact ⟨rfl, rfl, rfl, Reads.nil _ _, fun b hb => by simp [blk] at hb, fun _ => rfl, by simp, ho, i64_m1⟩
theorem chan_yes (cs : List Ch) (o : Int) (k : Nat) (hk : k < cs.length) (h : ∀ j (hj : j < cs.length), j < k → (cs[j].o == o) = false) (he : (cs[k].o == o) = true) : chanOf cs o = cs[k] ∧ isChan cs o = true := by
  rw [chanOf, isChan, find_at _ cs k hk h he]; exact ⟨rfl, rfl⟩
theorem chan_no (cs : List Ch) (o : Int) (h : ∀ j (hj : j < cs.length), (cs[j].o == o) = false) : chanOf cs o = ⟨o, 0, 0, 0, false⟩ ∧ isChan cs o = false := by
  rw [chanOf, isChan, find_none _ cs h]; exact ⟨rfl, rfl⟩

set_option maxHeartbeats 600000 in
theorem l4ChanOf_any {B : Nat → Prop} (s : Sv) (m : Scn) (o : Int) (w : World) (h : ScR B w s m) :
    Calls Tryz.prog 113 #[.agg #[.int .i64 s.g, .slice s.lo s.ll s.lc, .slice s.co s.cl s.cc, .slice s.no s.nl s.nc, .slice s.oo s.ol s.oc], .int .i64 o] w fun e w' => e = .returned (.tuple #[.agg #[.int .i64 (chanOf m.cs o).o, .int .i64 (chanOf m.cs o).cap, .int .i64 (chanOf m.cs o).sent, .int .i64 (chanOf m.cs o).got, .bool (chanOf m.cs o).cl], .bool (isChan m.cs o)]) ∧ Fr w w' := by
  have hr := h.chs
  have hl := h.sc
  have hn := h.cl
  clear h
  obtain ⟨g, lo, ll, lc, co, cl, cc, no, nl, nc, oo, ol, oc⟩ := s
  simp only at hr hn ⊢
  subst hn
  obtain ⟨cs, hcs⟩ : ∃ cs, cs = m.cs := ⟨_, rfl⟩
  rw [← hcs] at hr hl ⊢
  clear hcs
  have c2 := (Fr.alloc (w.alloc (.cells #[.int .i64 g, .slice lo ll lc, .slice co cs.length cc, .slice no nl nc, .slice oo ol oc] 29)) (.cells #[.int .i64 0, .int .i64 0, .int .i64 0, .int .i64 0, .bool false] 89)).cell (ScB.new w ⟨g, lo, ll, lc, co, cs.length, cc, no, nl, nc, oo, ol, oc⟩).c2
  simp only at c2
  have f2 := (Fr.alloc w (.cells #[.int .i64 g, .slice lo ll lc, .slice co cs.length cc, .slice no nl nc, .slice oo ol oc] 29)).trans (Fr.alloc _ (.cells #[.int .i64 0, .int .i64 0, .int .i64 0, .int .i64 0, .bool false] 89))
  have hr := hr.fr f2
  go_enter Tryz.func113, Tryz.ntmps113
  go_wp2
  go_loop [6] (fun i => ∃ k : Nat, k ≤ cs.length ∧ i = .int .i64 k ∧ Hid (∀ j (hj : j < cs.length), j < k → (cs[j].o == o) = false)) (fun i => cs.length - (intOf i).toNat)
  case atStart => exact ⟨0, Nat.zero_le _, rfl, fun j hj hk => by omega⟩
  case round =>
    obtain ⟨k, hk, rfl, HA⟩ := hrel
    by_cases hlt : k < cs.length
    · obtain ⟨b, off, rfl, d0, d1, d2, d3, d4⟩ := ch_at hr k hlt
      have HZ : Hid (cs[k] = cs[k]) := rfl
      cases hb : (cs[k].o == o)
      · have HS : Hid (∀ j (hj : j < cs.length), j < k + 1 → (cs[j].o == o) = false) := upto_step (fun c : Ch => c.o == o) cs k HA.out hlt hb
        go_wp2
        go_round
        case rel => exact ⟨k + 1, by omega, by go_num, HS⟩
        case measure => simp [intOf]; omega
      · have HE : Hid (chanOf cs o = cs[k] ∧ isChan cs o = true) := chan_yes cs o k hlt HA.out hb
        obtain ⟨c, hc⟩ : ∃ c, c = cs[k] := ⟨_, rfl⟩
        rw [← hc] at d0 d1 d2 d3 d4 HE hb
        clear hc HZ
        go_wp2
        refine bodyPost_ret (v := .tuple #[.agg #[.int .i64 c.o, .int .i64 c.cap, .int .i64 c.sent, .int .i64 c.got, .bool c.cl], .bool true]) (by simp [results, Tryz.results113, go_sem]) rfl ⟨by rw [HE.out.1, HE.out.2], (Fr.alloc _ _).trans (Fr.alloc _ _)⟩
    · have HN : Hid (chanOf cs o = ⟨o, 0, 0, 0, false⟩ ∧ isChan cs o = false) := chan_no cs o (fun j hj => HA.out j hj (by omega))
      go_wp2
      refine bodyPost_ret (v := .tuple #[.agg #[.int .i64 o, .int .i64 0, .int .i64 0, .int .i64 0, .bool false], .bool false]) (by simp [results, Tryz.results113, go_sem]) rfl ⟨by rw [HN.out.1, HN.out.2], (Fr.alloc _ _).trans (Fr.alloc _ _)⟩
end Go.Proofs.YtcofhmikdkkigaaGreatDoor
namespace Go.Proofs.YtcofhmikdkkigaaGreatDoor
open Go.RowKit

def chB (c : Ch) : Bool := inB 0 15 c.o && (inB 0 8 c.cap && (inB 0 1000000 c.sent && (inB 0 c.sent c.got && decide (c.sent ≤ c.got + c.cap))))

theorem chB_new (w : World) (c : Ch) : (w.alloc (.cells #[.int .i64 c.o, .int .i64 c.cap, .int .i64 c.sent, .int .i64 c.got, .bool c.cl] 89)).cell? ⟨w.heap.size, 0, none⟩ = some (.int .i64 c.o) := by simp [go_sem]

set_option maxHeartbeats 800000 in
theorem l4Chan_any (c : Ch) (w : World) :
    Calls Tryz.prog 62 #[.agg #[.int .i64 c.o, .int .i64 c.cap, .int .i64 c.sent, .int .i64 c.got, .bool c.cl]] w fun e w' => e = .returned (.bool (chB c)) ∧ Fr w w' := by
  obtain ⟨o, cap, sent, got, cl⟩ := c
  simp only
  unfold chB
  simp only
  cases h1 : inB 0 15 o
  · go_enter Tryz.func62, Tryz.ntmps62
    go_wp2_with (first | (go_at_call 63; refine (l4Obj_any _ _).mono ?_; rintro e w' ⟨rfl, rfl⟩) | (go_at_call 60; refine (l1In_any _ _ _ _).mono ?_; rintro e w' ⟨rfl, rfl⟩))
    go_ret
    exact ⟨rfl, Fr.alloc _ _⟩
  cases h2 : inB 0 8 cap
  · go_enter Tryz.func62, Tryz.ntmps62
    go_wp2_with (first | (go_at_call 63; refine (l4Obj_any _ _).mono ?_; rintro e w' ⟨rfl, rfl⟩) | (go_at_call 60; refine (l1In_any _ _ _ _).mono ?_; rintro e w' ⟨rfl, rfl⟩))
    go_ret
    exact ⟨rfl, Fr.alloc _ _⟩
  have r2 := inB_true h2
  cases h3 : inB 0 1000000 sent
  · go_enter Tryz.func62, Tryz.ntmps62
    go_wp2_with (first | (go_at_call 63; refine (l4Obj_any _ _).mono ?_; rintro e w' ⟨rfl, rfl⟩) | (go_at_call 60; refine (l1In_any _ _ _ _).mono ?_; rintro e w' ⟨rfl, rfl⟩))
    go_ret
    exact ⟨rfl, Fr.alloc _ _⟩
  have r3 := inB_true h3
  cases h4 : inB 0 sent got
  · go_enter Tryz.func62, Tryz.ntmps62
    go_wp2_with (first | (go_at_call 63; refine (l4Obj_any _ _).mono ?_; rintro e w' ⟨rfl, rfl⟩) | (go_at_call 60; refine (l1In_any _ _ _ _).mono ?_; rintro e w' ⟨rfl, rfl⟩))
    go_ret
    exact ⟨rfl, Fr.alloc _ _⟩
  have r4 := inB_true h4
  go_enter Tryz.func62, Tryz.ntmps62
  go_wp2_with (first | (go_at_call 63; refine (l4Obj_any _ _).mono ?_; rintro e w' ⟨rfl, rfl⟩) | (go_at_call 60; refine (l1In_any _ _ _ _).mono ?_; rintro e w' ⟨rfl, rfl⟩))
  go_ret
  exact ⟨rfl, Fr.alloc _ _⟩
end Go.Proofs.YtcofhmikdkkigaaGreatDoor
namespace Go.Proofs.YtcofhmikdkkigaaGreatDoor
open Go.RowKit

def rdAt (g : Int) (xs : List Int) (j : Nat) : Bool := inB 0 (g - 1) (xs.getD j 0) && (decide (j = 0) || decide (xs.getD (j - 1) 0 < xs.getD j 0))
def rdB (g : Int) (xs : List Int) : Bool := (List.range xs.length).all (rdAt g xs)
theorem rdB_yes {g : Int} {xs : List Int} (h : ∀ j, j < xs.length → rdAt g xs j = true) : rdB g xs = true := by
  rw [rdB, List.all_eq_true]
  intro j hj
  exact h j (List.mem_range.1 hj)
theorem rdB_no {g : Int} {xs : List Int} {j : Nat} (hj : j < xs.length) (h : rdAt g xs j = false) : rdB g xs = false := by
  rw [rdB, Bool.eq_false_iff]
  intro e
  rw [List.all_eq_true] at e
  have := e j (List.mem_range.2 hj)
  rw [h] at this
  cases this
def lkB (g : Int) (l : Lk) : Bool := rdB g l.rd && (inB 0 15 l.o && (inB (-1) (g - 1) l.wr && !(decide (0 ≤ l.wr) == decide (0 < l.rd.length))))

set_option maxHeartbeats 1600000 in
theorem l4Lock_any {B : Nat → Prop} (g : Int) (lv : Lv) (l : Lk) (w : World) (g0 : 1 ≤ g) (g1 : g ≤ 16) (h : LkR B w lv l) :
    Calls Tryz.prog 61 #[.int .i64 g, .agg #[.int .i64 lv.o, .int .i64 lv.wr, .slice lv.ro lv.rn lv.rc]] w fun e w' => e = .returned (.bool (lkB g l)) ∧ Fr w w' := by
  have hr := h.rd
  have hsz := h.sz
  have e1 := h.o
  have e2 := h.wr
  have e3 := h.rn
  clear h
  obtain ⟨o, wt, xs⟩ := l
  obtain ⟨o', wt', ro, rn, rc⟩ := lv
  simp only at hr hsz e1 e2 e3 ⊢
  subst e1 e2 e3
  have hrr := hr.fr (Fr.alloc w (.cells #[.int .i64 o', .int .i64 wt', .slice ro xs.length rc] 86))
  have c2 := (lvB_new w ⟨o', wt', ro, xs.length, rc⟩).2.2
  simp only at c2
  unfold lkB
  simp only
  obtain ⟨W, hW⟩ : ∃ W, W = w.alloc (.cells #[.int .i64 o', .int .i64 wt', .slice ro xs.length rc] 86) := ⟨_, rfl⟩
  have c0 : W.cell? ⟨w.heap.size, 0, none⟩ = some (.int .i64 o') := by rw [hW]; exact (lvB_new w ⟨o', wt', ro, xs.length, rc⟩).1
  have c1 : W.cell? ⟨w.heap.size, 1, none⟩ = some (.int .i64 wt') := by rw [hW]; exact (lvB_new w ⟨o', wt', ro, xs.length, rc⟩).2.1
  have fW : Fr w W := by rw [hW]; exact Fr.alloc _ _
  rw [← hW] at c2 hrr
  clear hr
  go_enter Tryz.func61, Tryz.ntmps61
  go_wp2_with fail
  rw [← hW]
  obtain ⟨b0, hb0⟩ : ∃ b0, b0 = w.heap.size := ⟨_, rfl⟩
  rw [← hb0] at c0 c1 c2 ⊢
  clear hW hb0
  go_loopw [5] (fun i wr => ∃ k : Nat, k ≤ xs.length ∧ i = .int .i64 k ∧ Hid (∀ j, j < k → rdAt g xs j = true) ∧ wr.cell? ⟨b0, 0, none⟩ = some (.int .i64 o') ∧ wr.cell? ⟨b0, 1, none⟩ = some (.int .i64 wt') ∧ wr.cell? ⟨b0, 2, none⟩ = some (.slice ro xs.length rc) ∧ Reads wr ro xs ∧ Fr w wr) (fun i _ => xs.length - (intOf i).toNat)
  case atStart => exact ⟨0, Nat.zero_le _, rfl, fun j hj => by omega, c0, c1, c2, hrr, fW⟩
  case round =>
    clear c0 c1 c2 hrr fW
    obtain ⟨k, hk, rfl, HA, c0, c1, c2, hrr, fW⟩ := hrel
    by_cases hlt : k < xs.length
    · obtain ⟨b, off, rfl, hc⟩ := hrr.at_ k hlt
      have hck := hc k hlt
      obtain ⟨z, hz⟩ : ∃ z, z = xs.getD k 0 := ⟨_, rfl⟩
      rw [← hz] at hck
      have cI := fun w => l1In_any z 0 (IntKind.i64.wrap (g - 1)) w
      have cJ := fun w => l1In_any z 0 (g - 1) w
      have hwr : IntKind.i64.wrap (g - 1) = g - 1 := by rw [IntKind.wrap_i64]; omega
      cases h1 : inB 0 (g - 1) z
      · have h1' : inB 0 (IntKind.i64.wrap (g - 1)) z = false := by rw [hwr]; exact h1
        simp only [h1'] at cI
        simp only [h1] at cJ
        clear h1' hwr
        have HF : Hid (rdB g xs = false) := rdB_no hlt (by rw [rdAt, ← hz, h1, Bool.false_and])
        clear h1 hz hc
        go_wp2_with fail
        go_quiet ((go_at_call 60; first | with_reducible exact Calls.quiet_of_same (cI _) | with_reducible exact Calls.quiet_of_same (cJ _)))
        go_wp2_with fail
        go_ret
        exact ⟨ret_bool (by rw [HF.out]; rfl), fW.trans (Fr.drewN _ _)⟩
      · have h1' : inB 0 (IntKind.i64.wrap (g - 1)) z = true := by rw [hwr]; exact h1
        simp only [h1'] at cI
        simp only [h1] at cJ
        clear h1' hwr
        cases k with
        | zero =>
          have HT : Hid (rdAt g xs 0 = true) := by
            show rdAt g xs 0 = true
            rw [rdAt, ← hz, h1]; rfl
          clear h1 hz hc
          simp only [Nat.add_zero] at hck
          go_wp2_with fail
          have hd : decide ((0 : Int) < 0) = false := by decide
          go_quiet ((go_at_call 60; first | with_reducible exact Calls.quiet_of_same (cI _) | with_reducible exact Calls.quiet_of_same (cJ _)))
          go_wp2_with fail
          go_roundw
          case rel => exact ⟨1, by omega, by go_num, fun j hj => by rw [show j = 0 by omega]; exact HT.out, c0, c1, c2, hrr.fr (Fr.drewN _ _), fW.trans (Fr.drewN _ _)⟩
          case measure => simp [intOf]; omega
        | succ k =>
          have hcp := hc k (by omega)
          obtain ⟨y, hy⟩ : ∃ y, y = xs.getD k 0 := ⟨_, rfl⟩
          rw [← hy] at hcp
          have hwk : IntKind.i64.wrap (((k + 1 : Nat) : Int) - 1) = (k : Int) := by rw [IntKind.wrap_i64]; omega
          by_cases hle : z ≤ y
          · have HF : Hid (rdB g xs = false) := rdB_no hlt (by
              have : decide (y < z) = false := decide_eq_false (by omega)
              rw [rdAt, ← hz, h1, Nat.add_sub_cancel, ← hy, this]; simp)
            clear h1 hz hc hy
            go_wp2_with fail
            go_quiet ((go_at_call 60; first | with_reducible exact Calls.quiet_of_same (cI _) | with_reducible exact Calls.quiet_of_same (cJ _)))
            go_wp2_with fail
            go_ret
            exact ⟨ret_bool (by rw [HF.out]; rfl), fW.trans (Fr.drewN _ _)⟩
          · have HT : Hid (rdAt g xs (k + 1) = true) := by
              show rdAt g xs (k + 1) = true
              have : decide (y < z) = true := decide_eq_true (by omega)
              rw [rdAt, ← hz, h1, Nat.add_sub_cancel, ← hy, this]; simp
            clear h1 hz hc hy
            have hle' : y < z := by omega
            go_wp2_with fail
            go_quiet ((go_at_call 60; first | with_reducible exact Calls.quiet_of_same (cI _) | with_reducible exact Calls.quiet_of_same (cJ _)))
            go_wp2_with fail
            go_roundw
            case rel =>
              refine ⟨k + 2, by omega, by go_num, fun j hj => ?_, c0, c1, c2, hrr.fr (Fr.drewN _ _), fW.trans (Fr.drewN _ _)⟩
              by_cases e : j = k + 1
              · rw [e]; exact HT.out
              · exact HA.out j (by omega)
            case measure => simp [intOf]; omega
    · have HT : Hid (rdB g xs = true) := rdB_yes (fun j hj => HA.out j (by omega))
      clear HA
      have hwr : IntKind.i64.wrap (g - 1) = g - 1 := by rw [IntKind.wrap_i64]; omega
      cases h1 : inB 0 15 o'
      · go_wp2_with (first | (go_at_call 63; refine (l4Obj_any _ _).mono ?_; rintro e w' ⟨rfl, rfl⟩) | (go_at_call 60; refine (l1In_any _ _ _ _).mono ?_; rintro e w' ⟨rfl, rfl⟩))
        go_ret
        exact ⟨ret_bool (by rw [HT.out, h1]; rfl), fW⟩
      cases h2 : inB (-1) (g - 1) wt'
      · go_wp2_with (first | (go_at_call 63; refine (l4Obj_any _ _).mono ?_; rintro e w' ⟨rfl, rfl⟩) | (go_at_call 60; refine (l1In_any _ _ _ _).mono ?_; rintro e w' ⟨rfl, rfl⟩))
        go_ret
        exact ⟨ret_bool (by rw [HT.out, h1, h2]; rfl), fW⟩
      by_cases h3 : 0 ≤ wt'
      · by_cases h4 : 0 < xs.length
        · go_wp2_with (first | (go_at_call 63; refine (l4Obj_any _ _).mono ?_; rintro e w' ⟨rfl, rfl⟩) | (go_at_call 60; refine (l1In_any _ _ _ _).mono ?_; rintro e w' ⟨rfl, rfl⟩))
          go_ret
          exact ⟨ret_bool (by have d3 : decide (0 ≤ wt') = true := decide_eq_true (by omega); have d4 : decide (0 < xs.length) = true := decide_eq_true (by omega); simp only [HT.out, h1, h2, d3, d4]; rfl), fW⟩
        · go_wp2_with (first | (go_at_call 63; refine (l4Obj_any _ _).mono ?_; rintro e w' ⟨rfl, rfl⟩) | (go_at_call 60; refine (l1In_any _ _ _ _).mono ?_; rintro e w' ⟨rfl, rfl⟩))
          go_ret
          exact ⟨ret_bool (by have d3 : decide (0 ≤ wt') = true := decide_eq_true (by omega); have d4 : decide (0 < xs.length) = false := decide_eq_false (by omega); simp only [HT.out, h1, h2, d3, d4]; rfl), fW⟩
      · by_cases h4 : 0 < xs.length
        · go_wp2_with (first | (go_at_call 63; refine (l4Obj_any _ _).mono ?_; rintro e w' ⟨rfl, rfl⟩) | (go_at_call 60; refine (l1In_any _ _ _ _).mono ?_; rintro e w' ⟨rfl, rfl⟩))
          go_ret
          exact ⟨ret_bool (by have d3 : decide (0 ≤ wt') = false := decide_eq_false (by omega); have d4 : decide (0 < xs.length) = true := decide_eq_true (by omega); simp only [HT.out, h1, h2, d3, d4]; rfl), fW⟩
        · go_wp2_with (first | (go_at_call 63; refine (l4Obj_any _ _).mono ?_; rintro e w' ⟨rfl, rfl⟩) | (go_at_call 60; refine (l1In_any _ _ _ _).mono ?_; rintro e w' ⟨rfl, rfl⟩))
          go_ret
          exact ⟨ret_bool (by have d3 : decide (0 ≤ wt') = false := decide_eq_false (by omega); have d4 : decide (0 < xs.length) = false := decide_eq_false (by omega); simp only [HT.out, h1, h2, d3, d4]; rfl), fW⟩
end Go.Proofs.YtcofhmikdkkigaaGreatDoor
namespace Go.Proofs.YtcofhmikdkkigaaGreatDoor
open Go.RowKit

def rowAt {α : Type} (p : α → Bool) (o : α → Int) (xs : List α) (j : Nat) : Bool :=
  match xs[j]? with
  | none => false
  | some x => p x && (decide (j = 0) || (match xs[j - 1]? with | none => false | some y => decide (o y < o x)))
def rowB {α : Type} (p : α → Bool) (o : α → Int) (xs : List α) : Bool := (List.range xs.length).all (rowAt p o xs)
theorem rowB_yes {α : Type} {p : α → Bool} {o : α → Int} {xs : List α} (h : ∀ j, j < xs.length → rowAt p o xs j = true) : rowB p o xs = true := by
  rw [rowB, List.all_eq_true]
  intro j hj
  exact h j (List.mem_range.1 hj)
theorem rowB_no {α : Type} {p : α → Bool} {o : α → Int} {xs : List α} {j : Nat} (hj : j < xs.length) (h : rowAt p o xs j = false) : rowB p o xs = false := by
  rw [rowB, Bool.eq_false_iff]
  intro e
  rw [List.all_eq_true] at e
  have := e j (List.mem_range.2 hj)
  rw [h] at this
  cases this
theorem rowAt_bad {α : Type} {p : α → Bool} {o : α → Int} {xs : List α} {j : Nat} (hj : j < xs.length) (h : p xs[j] = false) : rowAt p o xs j = false := by
  simp [rowAt, List.getElem?_eq_getElem hj, h]
theorem rowAt_zero {α : Type} {p : α → Bool} {o : α → Int} {xs : List α} (hj : 0 < xs.length) (h : p xs[0] = true) : rowAt p o xs 0 = true := by
  simp [rowAt, List.getElem?_eq_getElem hj, h]
theorem rowAt_up {α : Type} {p : α → Bool} {o : α → Int} {xs : List α} {k : Nat} (hj : k + 1 < xs.length) (h : p xs[k + 1] = true) (hu : o xs[k] < o xs[k + 1]) : rowAt p o xs (k + 1) = true := by
  simp [rowAt, List.getElem?_eq_getElem hj, List.getElem?_eq_getElem (show k < xs.length by omega), h, hu]
theorem rowAt_down {α : Type} {p : α → Bool} {o : α → Int} {xs : List α} {k : Nat} (hj : k + 1 < xs.length) (hu : o xs[k + 1] ≤ o xs[k]) : rowAt p o xs (k + 1) = false := by
  have : ¬ o xs[k] < o xs[k + 1] := by omega
  simp [rowAt, List.getElem?_eq_getElem hj, List.getElem?_eq_getElem (show k < xs.length by omega), this]
theorem rowAt_next {α : Type} {p : α → Bool} {o : α → Int} {xs : List α} {k : Nat} (h : ∀ j, j < k → rowAt p o xs j = true) (hk : rowAt p o xs k = true) : ∀ j, j < k + 1 → rowAt p o xs j = true := by
  intro j hj
  by_cases e : j = k
  · rw [e]; exact hk
  · exact h j (by omega)

def ctB (c : Ct) : Bool := inB 0 15 c.o && inB 1 1000000 c.n
def scB (m : Scn) : Bool := inB 1 16 m.g && (rowB (lkB m.g) Lk.o m.ls && (rowB chB Ch.o m.cs && (rowB ctB Ct.o m.gs && rowB (inB 0 15) (fun x => x) m.os)))
end Go.Proofs.YtcofhmikdkkigaaGreatDoor
