/-
  The specification's small words on lists of numbers that scenes use: l4Obj, l4In, l4Without, l4With.
-/
import Derived.Test.YtikjodbboljhjaaGreatDoorPackAA
import Derived.Test.YtikjodbboljhjaaGreatDoorPackAB
import Derived.Maps.OwnSet
import Derived.BigQuiet
import Derived.Deep.QuietTactic
namespace Go.Proofs.YtikjodbboljhjaaGreatDoor
open Go.RowKit

theorem l4Obj_any (x : Int) (w : World) :
    Calls Tryz.prog 51 #[.int .i64 x] w fun e w' => e = .returned (.bool (inB 0 15 x)) ∧ w' = w := by
  go_enter Tryz.func51, Tryz.ntmps51
  go_wp2_with (go_at_call 48; refine (l1In_any _ _ _ _).mono ?_; rintro e w' ⟨rfl, rfl⟩)
  go_ret
  exact ⟨rfl, rfl⟩

/-- Is the number in the list? -/
def memB (xs : List Int) (x : Int) : Bool := xs.any (· == x)
theorem memB_yes {xs : List Int} {x : Int} {k : Nat} (hk : k < xs.length) (h : xs[k] = x) : memB xs x = true := by
  rw [memB, List.any_eq_true]
  exact ⟨xs[k], List.getElem_mem hk, by simp [h]⟩
theorem memB_no {xs : List Int} {x : Int} (h : ∀ j, j < xs.length → xs.getD j 0 ≠ x) : memB xs x = false := by
  rw [memB, List.any_eq_false]
  intro y hy
  obtain ⟨j, hj, rfl⟩ := List.mem_iff_getElem.1 hy
  have := h j hj
  rw [getD_at hj] at this
  simpa using this

set_option maxHeartbeats 400000 in
theorem l4In_any (ao : Option Addr) (n cap : Nat) (xs : List Int) (x : Int) (w : World) (hn : xs.length = n) (h : Reads w ao xs) :
    Calls Tryz.prog 46 #[.slice ao n cap, .int .i64 x] w fun e w' => e = .returned (.bool (memB xs x)) ∧ w' = w := by
  subst hn
  have hl := h.len
  go_enter Tryz.func46, Tryz.ntmps46
  go_wp2
  go_loop [5] (fun i => ∃ k : Nat, k ≤ xs.length ∧ i = .int .i64 k ∧ Hid (∀ j, j < k → xs.getD j 0 ≠ x)) (fun i => xs.length - (intOf i).toNat)
  case atStart => exact ⟨0, Nat.zero_le _, rfl, fun j hj => by omega⟩
  case round =>
    obtain ⟨k, hk, rfl, HA⟩ := hrel
    by_cases hlt : k < xs.length
    · obtain ⟨b, off, rfl, hc⟩ := h.at_ k hlt
      have hck := hc k hlt
      rw [getD_at hlt] at hck
      clear hc
      by_cases he : xs[k] = x
      · have hb : (xs[k] == x) = true := beq_iff_eq.2 he
        have HE : Hid (memB xs x = true) := memB_yes hlt he
        clear he
        go_wp2
        go_ret
        exact ⟨ret_bool HE.out.symm, rfl⟩
      · have hb : (xs[k] == x) = false := beq_eq_false_iff_ne.2 he
        have HE : Hid (xs[k] ≠ x) := he
        clear he
        go_wp2
        go_round
        case rel =>
          refine ⟨k + 1, by omega, by go_num, fun j hj => ?_⟩
          by_cases e : j = k
          · subst e; rw [getD_at hlt]; exact HE.out
          · exact HA.out j (by omega)
        case measure => simp [intOf]; omega
    · have HN : Hid (memB xs x = false) := memB_no (fun j hj => HA.out j (by omega))
      go_wp2
      go_ret
      exact ⟨ret_bool HN.out.symm, rfl⟩

/-- Without a number. -/
def outL (xs : List Int) (x : Int) : List Int := xs.filter fun y => !(y == x)
theorem outL_yes (xs : List Int) (x : Int) (k : Nat) (hk : k < xs.length) (h : (xs[k] == x) = false) : outL (xs.take (k + 1)) x = outL (xs.take k) x ++ [xs[k]] := by
  rw [outL, List.take_succ_eq_append_getElem hk, List.filter_append]
  simp [outL, h]
theorem outL_no (xs : List Int) (x : Int) (k : Nat) (hk : k < xs.length) (h : (xs[k] == x) = true) : outL (xs.take (k + 1)) x = outL (xs.take k) x := by
  rw [outL, List.take_succ_eq_append_getElem hk, List.filter_append]
  simp [outL, h]
theorem outL_len (xs : List Int) (x : Int) : (outL xs x).length ≤ xs.length := List.length_filter_le _ _

set_option maxHeartbeats 800000 in
theorem l4Without_any (ao : Option Addr) (n cap : Nat) (xs : List Int) (x : Int) (w : World) (hn : xs.length = n) (h : Reads w ao xs) (hl : xs.length ≤ 4294967000) :
    Calls Tryz.prog 133 #[.slice ao n cap, .int .i64 x] w fun e w' => ∃ v, e = .returned v ∧ OwnS w' w.heap.size v (outL xs x) ∧ Fr w w' := by
  subst hn
  go_enter Tryz.func133, Tryz.ntmps133
  go_wp2_with fail
  go_loopw [5, 6] (fun u i wr => ∃ k : Nat, k ≤ xs.length ∧ i = .int .i64 k ∧ OwnS wr w.heap.size u (outL (xs.take k) x) ∧ Fr w wr) (fun _ i _ => xs.length - (intOf i).toNat)
  case atStart => exact ⟨0, Nat.zero_le _, rfl, own_empty w _ (Nat.le_refl _), Fr.alloc w _⟩
  case round =>
    obtain ⟨k, hk, rfl, ho, hf⟩ := hrel
    have hs := hf.size
    by_cases hlt : k < xs.length
    · obtain ⟨b, off, rfl, hc⟩ := (h.fr hf).at_ k hlt
      have hck := hc k hlt
      rw [getD_at hlt] at hck
      have hI := h.bd _ (List.getElem_mem hlt)
      have hll := outL_len (xs.take k) x
      have hlk : (xs.take k).length ≤ k := by simp; omega
      cases hb : (xs[k] == x)
      · have HN : Hid (outL (xs.take (k + 1)) x = outL (xs.take k) x ++ [xs[k]]) := outL_yes xs x k hlt hb
        obtain ⟨z, hz⟩ : ∃ z, z = xs[k] := ⟨_, rfl⟩
        rw [← hz] at hck hb HN hI
        clear hz hc
        have hm := reads_one wr z hI
        go_wp2_with (at_builtin; refine appI _ rfl _ _ rfl w.heap.size _ _ [z] rfl (ho.fr (Fr.alloc _ _)) _ _ _ rfl rfl (by simp) hm (by simp; omega) (by simp; omega) ?_; intro v1 w4 hv1 hg1)
        go_roundw
        case rel => exact ⟨k + 1, by omega, by go_num, by rw [HN.out]; exact hv1, (hf.trans (Fr.alloc _ _)).then hg1 ho.blk⟩
        case measure => simp [intOf]; omega
      · have HN : Hid (outL (xs.take (k + 1)) x = outL (xs.take k) x) := outL_no xs x k hlt hb
        obtain ⟨z, hz⟩ : ∃ z, z = xs[k] := ⟨_, rfl⟩
        rw [← hz] at hck hb
        clear hz hc
        go_wp2_with fail
        go_roundw
        case rel => exact ⟨k + 1, by omega, by go_num, by rw [HN.out]; exact ho, hf⟩
        case measure => simp [intOf]; omega
    · have et : k = xs.length := by omega
      subst et
      rw [List.take_length] at ho
      go_wp2_with fail
      go_ret
      exact ⟨_, rfl, ho, hf⟩

/-- With one number more, in order: what is there behind each element, and is it in? -/
def inS (x : Int) (a : List Int × Bool) (y : Int) : List Int × Bool :=
  if !a.2 && decide (x < y) then (a.1 ++ [x] ++ [y], true) else (a.1 ++ [y], a.2)
def inP (xs : List Int) (x : Int) : List Int × Bool := xs.foldl (inS x) ([], false)
def withL (xs : List Int) (x : Int) : List Int := if (inP xs x).2 then (inP xs x).1 else (inP xs x).1 ++ [x]
theorem inP_step (xs : List Int) (x : Int) (k : Nat) (hk : k < xs.length) : inP (xs.take (k + 1)) x = inS x (inP (xs.take k) x) xs[k] := by
  rw [inP, List.take_succ_eq_append_getElem hk, List.foldl_append]
  rfl
theorem inS_len (x : Int) (a : List Int × Bool) (y : Int) : (inS x a y).1.length ≤ a.1.length + 2 := by
  unfold inS
  split <;> simp
theorem inP_len (xs : List Int) (x : Int) (k : Nat) (hk : k ≤ xs.length) : (inP (xs.take k) x).1.length ≤ 2 * k := by
  induction k with
  | zero => simp [inP]
  | succ k ih =>
    have := ih (by omega)
    have h2 := inS_len x (inP (xs.take k) x) (xs[k]'(by omega))
    rw [inP_step xs x k (by omega)]
    omega

theorem cell_at {w w1 w4 : World} {bl off k : Nat} {xs : List Int} {z : Int} (h : Reads w (some ⟨bl, off, none⟩) xs) (hk : k < xs.length) (f : Fr w w4) (hc : w1.cell? ⟨bl, off + k, none⟩ = some (.int .i64 z)) (f1 : Fr w w1) : w4.cell? ⟨bl, off + k, none⟩ = some (.int .i64 z) := by
  obtain ⟨b, o, e, hh⟩ := h.at_ k hk
  simp only [Option.some.injEq, Addr.mk.injEq, and_true] at e
  obtain ⟨rfl, rfl⟩ := e
  have h0 := hh k hk
  have := f1.cell h0
  rw [hc] at this
  rw [f.cell h0, this]

set_option maxRecDepth 20000 in
set_option maxHeartbeats 1000000 in
theorem l4With_any (ao : Option Addr) (n cap : Nat) (xs : List Int) (x : Int) (w : World) (hn : xs.length = n) (hx : I64 x) (h : Reads w ao xs) (hl : xs.length ≤ 2000000000) :
    Calls Tryz.prog 132 #[.slice ao n cap, .int .i64 x] w fun e w' => ∃ v, e = .returned v ∧ OwnS w' w.heap.size v (withL xs x) ∧ Fr w w' := by
  subst hn
  go_enter Tryz.func132, Tryz.ntmps132
  go_wp2_with fail
  go_loopw [5, 6, 7] (fun u q i wr => ∃ (k : Nat) (ys : List Int) (b : Bool), k ≤ xs.length ∧ i = .int .i64 k ∧ q = .bool b ∧ Hid (inP (xs.take k) x = (ys, b)) ∧ ys.length ≤ 2 * k ∧ OwnS wr w.heap.size u ys ∧ Fr w wr) (fun _ _ i _ => xs.length - (intOf i).toNat)
  case atStart => exact ⟨0, [], false, Nat.zero_le _, rfl, rfl, rfl, by simp, own_empty w _ (Nat.le_refl _), Fr.alloc w _⟩
  case round =>
    obtain ⟨k, ys, b, hk, rfl, rfl, HP, hyl, ho, hf⟩ := hrel
    have hs := hf.size
    by_cases hlt : k < xs.length
    · obtain ⟨bl, off, rfl, hc⟩ := (h.fr hf).at_ k hlt
      have hck := hc k hlt
      rw [getD_at hlt] at hck
      have hI := h.bd _ (List.getElem_mem hlt)
      have HS : Hid (inP (xs.take (k + 1)) x = inS x (ys, b) xs[k]) := by
        show inP (xs.take (k + 1)) x = inS x (ys, b) xs[k]
        rw [inP_step xs x k hlt, HP.out]
      obtain ⟨z, hz⟩ : ∃ z, z = xs[k] := ⟨_, rfl⟩
      rw [← hz] at hck HS hI
      clear hz hc HP
      have hm := reads_one wr z hI
      cases b
      · by_cases hxz : x < z
        · have HN : Hid (inP (xs.take (k + 1)) x = (ys ++ [x] ++ [z], true)) := by
            show inP (xs.take (k + 1)) x = (ys ++ [x] ++ [z], true)
            rw [HS.out]; simp [inS, hxz]
          clear HS
          have hm1 := reads_one wr x hx
          have hbk := ho.blk
          clear hm
          go_wp2_with (at_builtin; first | (refine appI _ rfl _ _ rfl w.heap.size _ _ [x] rfl (ho.fr (Fr.alloc _ _)) _ _ _ rfl rfl (by simp) hm1 (by simp; omega) (by simp; omega) ?_; intro v1 w4 hv1 hg1; have f4 := (hf.trans (Fr.alloc wr (.cells #[.int .i64 x] 2))).then hg1 hbk; have hck4 := cell_at h hlt f4 hck hf; have hm4 := reads_one w4 z hI; have s4 := f4.size; clear hg1 hm1 hck) | (refine appI _ rfl _ _ rfl w.heap.size _ _ [z] rfl (hv1.fr (Fr.alloc _ _)) _ _ _ rfl rfl (by simp) hm4 (by simp; omega) (by simp; omega) ?_; intro v5 w5 hv5 hg5))
          go_roundw
          case rel => exact ⟨k + 1, _, _, by omega, by go_num, rfl, HN, by simp; omega, hv5, (f4.trans (Fr.alloc _ _)).then hg5 hv1.blk⟩
          case measure => simp [intOf]; omega
        · have HN : Hid (inP (xs.take (k + 1)) x = (ys ++ [z], false)) := by
            show inP (xs.take (k + 1)) x = (ys ++ [z], false)
            rw [HS.out]; simp [inS, hxz]
          clear HS
          have hxz : z ≤ x := by omega
          go_wp2_with (at_builtin; refine appI _ rfl _ _ rfl w.heap.size _ _ [z] rfl (ho.fr (Fr.alloc _ _)) _ _ _ rfl rfl (by simp) hm (by simp; omega) (by simp; omega) ?_; intro v1 w4 hv1 hg1)
          go_roundw
          case rel => exact ⟨k + 1, _, _, by omega, by go_num, rfl, HN, by simp; omega, hv1, (hf.trans (Fr.alloc _ _)).then hg1 ho.blk⟩
          case measure => simp [intOf]; omega
      · have HN : Hid (inP (xs.take (k + 1)) x = (ys ++ [z], true)) := by
          show inP (xs.take (k + 1)) x = (ys ++ [z], true)
          rw [HS.out]; simp [inS]
        clear HS
        go_wp2_with (at_builtin; refine appI _ rfl _ _ rfl w.heap.size _ _ [z] rfl (ho.fr (Fr.alloc _ _)) _ _ _ rfl rfl (by simp) hm (by simp; omega) (by simp; omega) ?_; intro v1 w4 hv1 hg1)
        go_roundw
        case rel => exact ⟨k + 1, _, _, by omega, by go_num, rfl, HN, by simp; omega, hv1, (hf.trans (Fr.alloc _ _)).then hg1 ho.blk⟩
        case measure => simp [intOf]; omega
    · have et : k = xs.length := by omega
      subst et
      rw [List.take_length] at HP
      cases b
      · have HN : Hid (withL xs x = ys ++ [x]) := by
          show withL xs x = ys ++ [x]
          rw [withL, HP.out]; rfl
        have hm1 := reads_one wr x hx
        go_wp2_with (at_builtin; refine appI _ rfl _ _ rfl w.heap.size _ _ [x] rfl (ho.fr (Fr.alloc _ _)) _ _ _ rfl rfl (by simp) hm1 (by simp; omega) (by simp; omega) ?_; intro v1 w4 hv1 hg1)
        go_ret
        exact ⟨_, rfl, by rw [HN.out]; exact hv1, (hf.trans (Fr.alloc _ _)).then hg1 ho.blk⟩
      · have HN : Hid (withL xs x = ys) := by
          show withL xs x = ys
          rw [withL, HP.out]; rfl
        go_wp2_with fail
        go_ret
        exact ⟨_, rfl, by rw [HN.out]; exact ho, hf⟩
end Go.Proofs.YtikjodbboljhjaaGreatDoor
/-
  Scenes: the model, how one lies in memory.
-/
namespace Go.Proofs.YtikjodbboljhjaaGreatDoor
open Go.RowKit

/-- A lock's value: its third field is a slice. -/
structure Lv where
  o : Int
  wr : Int
  ro : Option Addr
  rn : Nat
  rc : Nat
/-- A lock, as it is meant. -/
structure Lk where
  o : Int
  wr : Int
  rd : List Int
structure Ch where
  o : Int
  cap : Int
  sent : Int
  got : Int
  cl : Bool
structure Ct where
  o : Int
  n : Int
structure Scn where
  g : Int
  ls : List Lk
  cs : List Ch
  gs : List Ct
  os : List Int

def layL : Lay Lv where
  ty := 47
  sz := 3
  cs l := [.int .i64 l.o, .int .i64 l.wr, .slice l.ro l.rn l.rc]
  pos := by omega
  len _ := rfl
  one x u hu := by
    simp only [List.mem_cons, List.not_mem_nil, or_false] at hu
    rcases hu with rfl | rfl | rfl <;> rfl
def layC : Lay Ch where
  ty := 82
  sz := 5
  cs l := [.int .i64 l.o, .int .i64 l.cap, .int .i64 l.sent, .int .i64 l.got, .bool l.cl]
  pos := by omega
  len _ := rfl
  one x u hu := by
    simp only [List.mem_cons, List.not_mem_nil, or_false] at hu
    rcases hu with rfl | rfl | rfl | rfl | rfl <;> rfl
def layN : Lay Ct where
  ty := 85
  sz := 2
  cs l := [.int .i64 l.o, .int .i64 l.n]
  pos := by omega
  len _ := rfl
  one x u hu := by
    simp only [List.mem_cons, List.not_mem_nil, or_false] at hu
    rcases hu with rfl | rfl <;> rfl

/-- The block of a slice is one of B's. -/
def InB (B : Nat → Prop) (ao : Option Addr) : Prop := ∀ b, blk ao = some b → B b
theorem InB.ne {B : Nat → Prop} {ao : Option Addr} {row : Option Nat} (h : InB B ao) (hr : ∀ j, row = some j → ¬ B j) : row = none ∨ blk ao ≠ row := by
  cases row with
  | none => exact .inl rfl
  | some j => exact .inr fun e => hr j rfl (h j e)

/-- The lock's value lv is the lock l. -/
structure LkR (B : Nat → Prop) (w : World) (lv : Lv) (l : Lk) : Prop where
  o : lv.o = l.o
  wr : lv.wr = l.wr
  rn : lv.rn = l.rd.length
  rd : Reads w lv.ro l.rd
  bl : InB B lv.ro
  rc : lv.ro = none → lv.rc = 0
  sz : l.rd.length ≤ 1048576
  io : I64 l.o
  iw : I64 l.wr
theorem LkR.keep {B : Nat → Prop} {w w' : World} {lv : Lv} {l : Lk} {row : Option Nat} (h : LkR B w lv l) (k : w.grownBy w' row) (hr : ∀ j, row = some j → ¬ B j) : LkR B w' lv l :=
  ⟨h.o, h.wr, h.rn, h.rd.keep k (h.bl.ne hr), h.bl, h.rc, h.sz, h.io, h.iw⟩
theorem LkR.fr {B : Nat → Prop} {w w' : World} {lv : Lv} {l : Lk} (h : LkR B w lv l) (k : Fr w w') : LkR B w' lv l := h.keep k (by simp)

/-- The locks' values are the locks. -/
structure LksR (B : Nat → Prop) (w : World) (lvs : List Lv) (ls : List Lk) : Prop where
  len : lvs.length = ls.length
  at_ : ∀ j (h1 : j < lvs.length) (h2 : j < ls.length), LkR B w lvs[j] ls[j]
theorem LksR.keep {B : Nat → Prop} {w w' : World} {lvs : List Lv} {ls : List Lk} {row : Option Nat} (h : LksR B w lvs ls) (k : w.grownBy w' row) (hr : ∀ j, row = some j → ¬ B j) : LksR B w' lvs ls :=
  ⟨h.len, fun j h1 h2 => (h.at_ j h1 h2).keep k hr⟩
theorem LksR.fr {B : Nat → Prop} {w w' : World} {lvs : List Lv} {ls : List Lk} (h : LksR B w lvs ls) (k : Fr w w') : LksR B w' lvs ls := h.keep k (by simp)
theorem LksR.nil (B : Nat → Prop) (w : World) : LksR B w [] [] := ⟨rfl, fun j h1 => absurd h1 (by simp)⟩
theorem LksR.snoc {B : Nat → Prop} {w : World} {lvs : List Lv} {ls : List Lk} {lv : Lv} {l : Lk} (h : LksR B w lvs ls) (hl : LkR B w lv l) : LksR B w (lvs ++ [lv]) (ls ++ [l]) := by
  have hlen := h.len
  refine ⟨by simp [hlen], fun j h1 h2 => ?_⟩
  by_cases e : j < lvs.length
  · rw [List.getElem_append_left e, List.getElem_append_left (by omega)]
    exact h.at_ j e (by omega)
  · have e2 : j = lvs.length := by simp at h1; omega
    subst e2
    have a1 : (lvs ++ [lv])[lvs.length]'h1 = lv := by simp
    have a2 : (ls ++ [l])[lvs.length]'h2 = l := by simp [hlen]
    rw [a1, a2]
    exact hl

/-- A scene's value. -/
structure Sv where
  g : Int
  lo : Option Addr
  ll : Nat
  lc : Nat
  co : Option Addr
  cl : Nat
  cc : Nat
  no : Option Addr
  nl : Nat
  nc : Nat
  oo : Option Addr
  ol : Nat
  oc : Nat

/-- The scene's value s is the scene m. -/
structure ScR (B : Nat → Prop) (w : World) (s : Sv) (m : Scn) : Prop where
  g : s.g = m.g
  ig : I64 m.g
  lks : ∃ lvs, ReadsG layL w s.lo lvs ∧ s.ll = lvs.length ∧ LksR B w lvs m.ls
  chs : ReadsG layC w s.co m.cs
  cl : s.cl = m.cs.length
  cts : ReadsG layN w s.no m.gs
  nl : s.nl = m.gs.length
  ons : Reads w s.oo m.os
  ol : s.ol = m.os.length
  bl : InB B s.lo
  bc : InB B s.co
  bn : InB B s.no
  bo : InB B s.oo
  zo : s.oo = none → s.oc = 0
  sl : m.ls.length ≤ 1048576
  sc : m.cs.length ≤ 1048576
  sn : m.gs.length ≤ 1048576
  so : m.os.length ≤ 1048576
  ic : ∀ c ∈ m.cs, I64 c.o ∧ I64 c.cap ∧ I64 c.sent ∧ I64 c.got
  inn : ∀ c ∈ m.gs, I64 c.o ∧ I64 c.n
theorem ScR.keep {B : Nat → Prop} {w w' : World} {s : Sv} {m : Scn} {row : Option Nat} (h : ScR B w s m) (k : w.grownBy w' row) (hr : ∀ j, row = some j → ¬ B j) : ScR B w' s m := by
  obtain ⟨lvs, h1, h2, h3⟩ := h.lks
  exact { h with lks := ⟨lvs, h1.keep k (h.bl.ne hr), h2, h3.keep k hr⟩, chs := h.chs.keep k (h.bc.ne hr), cts := h.cts.keep k (h.bn.ne hr), ons := h.ons.keep k (h.bo.ne hr) }
theorem ScR.fr {B : Nat → Prop} {w w' : World} {s : Sv} {m : Scn} (h : ScR B w s m) (k : Fr w w') : ScR B w' s m := h.keep k (by simp)

/-- The lock of an object; one that nobody has where there is none. -/
def lockOf (ls : List Lk) (o : Int) : Lk := (ls.find? fun l => l.o == o).getD ⟨o, -1, []⟩
def chanOf (cs : List Ch) (o : Int) : Ch := (cs.find? fun l => l.o == o).getD ⟨o, 0, 0, 0, false⟩
def isChan (cs : List Ch) (o : Int) : Bool := (cs.find? fun l => l.o == o).isSome
def countOf (gs : List Ct) (o : Int) : Int := ((gs.find? fun l => l.o == o).map Ct.n).getD 0

theorem find_at {α : Type} (p : α → Bool) (xs : List α) (k : Nat) (hk : k < xs.length) (h : ∀ j (hj : j < xs.length), j < k → p xs[j] = false) (hp : p xs[k] = true) : xs.find? p = some xs[k] := by
  induction xs generalizing k with
  | nil => simp at hk
  | cons x xs ih =>
    cases k with
    | zero => simp at hp ⊢; exact .inl hp
    | succ k =>
      have h0 : p x = false := h 0 (by simp) (by omega)
      rw [List.find?_cons, h0]
      simp only [List.getElem_cons_succ] at hp ⊢
      exact ih k (by simpa using hk) (fun j hj hjk => h (j + 1) (by simpa using hj) (by omega)) hp
theorem find_none {α : Type} (p : α → Bool) (xs : List α) (h : ∀ j (hj : j < xs.length), p xs[j] = false) : xs.find? p = none := by
  rw [List.find?_eq_none]
  intro x hx
  obtain ⟨j, hj, rfl⟩ := List.mem_iff_getElem.1 hx
  simp [h j hj]

/-- The cells of one lock, one channel, one count of a slice. -/
theorem lv_at {w : World} {ao : Option Addr} {lvs : List Lv} (h : ReadsG layL w ao lvs) (k : Nat) (hk : k < lvs.length) : ∃ b off, ao = some ⟨b, off, none⟩ ∧ w.cell? ⟨b, off + k * 3, none⟩ = some (.int .i64 lvs[k].o) ∧ w.cell? ⟨b, off + k * 3 + 1, none⟩ = some (.int .i64 lvs[k].wr) ∧ w.cell? ⟨b, off + k * 3 + 2, none⟩ = some (.slice lvs[k].ro lvs[k].rn lvs[k].rc) := by
  obtain ⟨b, off, e, hc⟩ := h.at_ k hk
  exact ⟨b, off, e, hc k hk 0 (by decide), hc k hk 1 (by decide), hc k hk 2 (by decide)⟩
theorem ch_at {w : World} {ao : Option Addr} {cs : List Ch} (h : ReadsG layC w ao cs) (k : Nat) (hk : k < cs.length) : ∃ b off, ao = some ⟨b, off, none⟩ ∧ w.cell? ⟨b, off + k * 5, none⟩ = some (.int .i64 cs[k].o) ∧ w.cell? ⟨b, off + k * 5 + 1, none⟩ = some (.int .i64 cs[k].cap) ∧ w.cell? ⟨b, off + k * 5 + 2, none⟩ = some (.int .i64 cs[k].sent) ∧ w.cell? ⟨b, off + k * 5 + 3, none⟩ = some (.int .i64 cs[k].got) ∧ w.cell? ⟨b, off + k * 5 + 4, none⟩ = some (.bool cs[k].cl) := by
  obtain ⟨b, off, e, hc⟩ := h.at_ k hk
  exact ⟨b, off, e, hc k hk 0 (by decide), hc k hk 1 (by decide), hc k hk 2 (by decide), hc k hk 3 (by decide), hc k hk 4 (by decide)⟩
theorem ct_at {w : World} {ao : Option Addr} {gs : List Ct} (h : ReadsG layN w ao gs) (k : Nat) (hk : k < gs.length) : ∃ b off, ao = some ⟨b, off, none⟩ ∧ w.cell? ⟨b, off + k * 2, none⟩ = some (.int .i64 gs[k].o) ∧ w.cell? ⟨b, off + k * 2 + 1, none⟩ = some (.int .i64 gs[k].n) := by
  obtain ⟨b, off, e, hc⟩ := h.at_ k hk
  exact ⟨b, off, e, hc k hk 0 (by decide), hc k hk 1 (by decide)⟩

/-- A scene's five cells, in a block of their own. -/
structure ScB (w : World) (b : Nat) (s : Sv) : Prop where
  c0 : w.cell? ⟨b, 0, none⟩ = some (.int .i64 s.g)
  c1 : w.cell? ⟨b, 1, none⟩ = some (.slice s.lo s.ll s.lc)
  c2 : w.cell? ⟨b, 2, none⟩ = some (.slice s.co s.cl s.cc)
  c3 : w.cell? ⟨b, 3, none⟩ = some (.slice s.no s.nl s.nc)
  c4 : w.cell? ⟨b, 4, none⟩ = some (.slice s.oo s.ol s.oc)
theorem ScB.keep {w w' : World} {b : Nat} {s : Sv} {row : Option Nat} (h : ScB w b s) (k : w.grownBy w' row) (hr : some b ≠ row) : ScB w' b s :=
  ⟨k.cell h.c0 hr, k.cell h.c1 hr, k.cell h.c2 hr, k.cell h.c3 hr, k.cell h.c4 hr⟩
theorem ScB.new (w : World) (s : Sv) : ScB (w.alloc (.cells #[.int .i64 s.g, .slice s.lo s.ll s.lc, .slice s.co s.cl s.cc, .slice s.no s.nl s.nc, .slice s.oo s.ol s.oc] 29)) w.heap.size s :=
  ⟨by simp [go_sem], by simp [go_sem], by simp [go_sem], by simp [go_sem], by simp [go_sem]⟩
end Go.Proofs.YtikjodbboljhjaaGreatDoor
/-
  Writes into one block.
-/
namespace Go.Proofs.YtikjodbboljhjaaGreatDoor
open Go.RowKit

theorem grown_trans {a b c : World} {row : Option Nat} (h : a.grownBy b row) (k : b.grownBy c row) : a.grownBy c row :=
  ⟨k.os.trans h.os, k.tape.trans h.tape, k.output.trans h.output, Nat.le_trans h.size k.size, fun i hi hne => (k.block i (Nat.lt_of_lt_of_le hi h.size) hne).trans (h.block i hi hne)⟩
theorem grown_draw (w : World) (n : Nat) (row : Option Nat) : w.grownBy (w.drewN n) row := ⟨rfl, rfl, rfl, Nat.le_refl _, fun _ _ _ => rfl⟩
theorem grown_set (w : World) (g o : Nat) (v : Value) : w.grownBy (w.setCell ⟨g, o, none⟩ v) (some g) :=
  ⟨rfl, rfl, rfl, by simp, fun k _ hk => heap_setCell_other w ⟨g, o, none⟩ k v (fun e => hk (by simp [e]))⟩

theorem Fr.wide {w w' : World} {row : Option Nat} (h : Fr w w') : w.grownBy w' row := ⟨h.os, h.tape, h.output, h.size, fun i hi _ => h.block i hi (by simp)⟩
end Go.Proofs.YtikjodbboljhjaaGreatDoor
/-
  A block that is a scene; the blocks that a scene may lie in.
-/
namespace Go.Proofs.YtikjodbboljhjaaGreatDoor
open Go.RowKit

/-- The blocks of B, and those that are new. -/
def Grew (B : Nat → Prop) (w w' : World) (b : Nat) : Prop := B b ∨ (w.heap.size ≤ b ∧ b < w'.heap.size)
theorem InB.mono {B B' : Nat → Prop} {ao : Option Addr} (h : InB B ao) (hB : ∀ b, B b → B' b) : InB B' ao := fun b e => hB b (h b e)
theorem LkR.mono {B B' : Nat → Prop} {w : World} {lv : Lv} {l : Lk} (h : LkR B w lv l) (hB : ∀ b, B b → B' b) : LkR B' w lv l :=
  ⟨h.o, h.wr, h.rn, h.rd, h.bl.mono hB, h.rc, h.sz, h.io, h.iw⟩
theorem LksR.mono {B B' : Nat → Prop} {w : World} {lvs : List Lv} {ls : List Lk} (h : LksR B w lvs ls) (hB : ∀ b, B b → B' b) : LksR B' w lvs ls :=
  ⟨h.len, fun j h1 h2 => (h.at_ j h1 h2).mono hB⟩
theorem ScR.mono {B B' : Nat → Prop} {w : World} {s : Sv} {m : Scn} (h : ScR B w s m) (hB : ∀ b, B b → B' b) : ScR B' w s m := by
  obtain ⟨lvs, h1, h2, h3⟩ := h.lks
  exact { h with lks := ⟨lvs, h1, h2, h3.mono hB⟩, bl := h.bl.mono hB, bc := h.bc.mono hB, bn := h.bn.mono hB, bo := h.bo.mono hB }
theorem Grew.old {B : Nat → Prop} {w w' : World} : ∀ b, B b → Grew B w w' b := fun _ h => .inl h
theorem Grew.trans {B : Nat → Prop} {w w1 w2 : World} (h : w.heap.size ≤ w1.heap.size) (h2 : w1.heap.size ≤ w2.heap.size) : ∀ b, Grew (Grew B w w1) w1 w2 b → Grew B w w2 b := by
  rintro b ((hb | ⟨h3, h4⟩) | ⟨h3, h4⟩)
  · exact .inl hb
  · exact .inr ⟨h3, by omega⟩
  · exact .inr ⟨by omega, h4⟩
theorem Grew.wide {B : Nat → Prop} {w w0 w1 w2 : World} (h : w0.heap.size ≤ w.heap.size) (h2 : w1.heap.size ≤ w2.heap.size) : ∀ b, Grew B w w1 b → Grew B w0 w2 b := by
  rintro b (hb | ⟨h3, h4⟩)
  · exact .inl hb
  · exact .inr ⟨by omega, by omega⟩

/-- A block that is a scene. -/
def ScK (w : World) (b : Nat) (s : Sv) : Prop := w.heap[b]? = some (.cells #[.int .i64 s.g, .slice s.lo s.ll s.lc, .slice s.co s.cl s.cc, .slice s.no s.nl s.nc, .slice s.oo s.ol s.oc] 29 (0, 0))
theorem ScK.lt {w : World} {b : Nat} {s : Sv} (h : ScK w b s) : b < w.heap.size := (Array.getElem?_eq_some_iff.1 h).1
theorem ScK.keep {w w' : World} {b : Nat} {s : Sv} {row : Option Nat} (h : ScK w b s) (k : w.grownBy w' row) (hr : row ≠ some b) : ScK w' b s := (k.block b h.lt (fun q => hr q.symm)).trans h
theorem ScK.fr {w w' : World} {b : Nat} {s : Sv} (h : ScK w b s) (k : Fr w w') : ScK w' b s := h.keep k (by simp)
theorem ScK.new (w : World) (s : Sv) : ScK (w.alloc (.cells #[.int .i64 s.g, .slice s.lo s.ll s.lc, .slice s.co s.cl s.cc, .slice s.no s.nl s.nc, .slice s.oo s.ol s.oc] 29)) w.heap.size s := heap_alloc_new w _
theorem ScK.at {w : World} {b : Nat} {s : Sv} (h : ScK w b s) : ScB w b s := by
  have h' : w.heap[b]? = some (.cells #[.int .i64 s.g, .slice s.lo s.ll s.lc, .slice s.co s.cl s.cc, .slice s.no s.nl s.nc, .slice s.oo s.ol s.oc] 29 (0, 0)) := h
  constructor <;> simp [World.cell?, h']
theorem ScK.free {w : World} {b : Nat} {s : Sv} (h : ScK w b s) (i : Nat) : w.frozen? ⟨b, i, none⟩ = false := frozen_of_row w b i _ _ h
theorem put5 (w : World) (r : Nat) (v0 v1 v2 v3 v4 : Value) :
    w.grownBy (((((w.setCell ⟨r, 0, none⟩ v0).setCell ⟨r, 1, none⟩ v1).setCell ⟨r, 2, none⟩ v2).setCell ⟨r, 3, none⟩ v3).setCell ⟨r, 4, none⟩ v4) (some r) :=
  grown_trans (grown_trans (grown_trans (grown_trans (grown_set _ r 0 _) (grown_set _ r 1 _)) (grown_set _ r 2 _)) (grown_set _ r 3 _)) (grown_set _ r 4 _)

/-- A block that is a lock; one that is a channel. -/
def LvK (w : World) (b : Nat) (l : Lv) : Prop := w.heap[b]? = some (.cells #[.int .i64 l.o, .int .i64 l.wr, .slice l.ro l.rn l.rc] 47 (0, 0))
theorem LvK.lt {w : World} {b : Nat} {l : Lv} (h : LvK w b l) : b < w.heap.size := (Array.getElem?_eq_some_iff.1 h).1
theorem LvK.keep {w w' : World} {b : Nat} {l : Lv} {row : Option Nat} (h : LvK w b l) (k : w.grownBy w' row) (hr : row ≠ some b) : LvK w' b l := (k.block b h.lt (fun q => hr q.symm)).trans h
theorem LvK.new (w : World) (l : Lv) : LvK (w.alloc (.cells #[.int .i64 l.o, .int .i64 l.wr, .slice l.ro l.rn l.rc] 47)) w.heap.size l := heap_alloc_new w _
theorem LvK.at {w : World} {b : Nat} {l : Lv} (h : LvK w b l) : w.cell? ⟨b, 0, none⟩ = some (.int .i64 l.o) ∧ w.cell? ⟨b, 1, none⟩ = some (.int .i64 l.wr) ∧ w.cell? ⟨b, 2, none⟩ = some (.slice l.ro l.rn l.rc) := by
  have h' : w.heap[b]? = some (.cells #[.int .i64 l.o, .int .i64 l.wr, .slice l.ro l.rn l.rc] 47 (0, 0)) := h
  refine ⟨?_, ?_, ?_⟩ <;> simp [World.cell?, h']
theorem LvK.free {w : World} {b : Nat} {l : Lv} (h : LvK w b l) (i : Nat) : w.frozen? ⟨b, i, none⟩ = false := frozen_of_row w b i _ _ h
theorem LvK.setW {w : World} {b : Nat} {l : Lv} (h : LvK w b l) (x : Int) : LvK (w.setCell ⟨b, 1, none⟩ (.int .i64 x)) b { l with wr := x } := by
  exact heap_setCell_same w b 1 _ _ (.int .i64 x) h
theorem LvK.setR {w : World} {b : Nat} {l : Lv} (h : LvK w b l) (ao : Option Addr) (n c : Nat) : LvK (w.setCell ⟨b, 2, none⟩ (.slice ao n c)) b { l with ro := ao, rn := n, rc := c } := by
  exact heap_setCell_same w b 2 _ _ (.slice ao n c) h
def ChK (w : World) (b : Nat) (c : Ch) : Prop := w.heap[b]? = some (.cells #[.int .i64 c.o, .int .i64 c.cap, .int .i64 c.sent, .int .i64 c.got, .bool c.cl] 82 (0, 0))
theorem ChK.lt {w : World} {b : Nat} {c : Ch} (h : ChK w b c) : b < w.heap.size := (Array.getElem?_eq_some_iff.1 h).1
theorem ChK.keep {w w' : World} {b : Nat} {c : Ch} {row : Option Nat} (h : ChK w b c) (k : w.grownBy w' row) (hr : row ≠ some b) : ChK w' b c := (k.block b h.lt (fun q => hr q.symm)).trans h
theorem ChK.new (w : World) (c : Ch) : ChK (w.alloc (.cells #[.int .i64 c.o, .int .i64 c.cap, .int .i64 c.sent, .int .i64 c.got, .bool c.cl] 82)) w.heap.size c := heap_alloc_new w _
theorem ChK.at {w : World} {b : Nat} {c : Ch} (h : ChK w b c) : w.cell? ⟨b, 0, none⟩ = some (.int .i64 c.o) ∧ w.cell? ⟨b, 1, none⟩ = some (.int .i64 c.cap) ∧ w.cell? ⟨b, 2, none⟩ = some (.int .i64 c.sent) ∧ w.cell? ⟨b, 3, none⟩ = some (.int .i64 c.got) ∧ w.cell? ⟨b, 4, none⟩ = some (.bool c.cl) := by
  have h' : w.heap[b]? = some (.cells #[.int .i64 c.o, .int .i64 c.cap, .int .i64 c.sent, .int .i64 c.got, .bool c.cl] 82 (0, 0)) := h
  refine ⟨?_, ?_, ?_, ?_, ?_⟩ <;> simp [World.cell?, h']
theorem ChK.free {w : World} {b : Nat} {c : Ch} (h : ChK w b c) (i : Nat) : w.frozen? ⟨b, i, none⟩ = false := frozen_of_row w b i _ _ h
theorem ChK.set1 {w : World} {b : Nat} {c : Ch} (h : ChK w b c) (x : Int) : ChK (w.setCell ⟨b, 1, none⟩ (.int .i64 x)) b { c with cap := x } := by
  exact heap_setCell_same w b 1 _ _ (.int .i64 x) h
theorem ChK.set2 {w : World} {b : Nat} {c : Ch} (h : ChK w b c) (x : Int) : ChK (w.setCell ⟨b, 2, none⟩ (.int .i64 x)) b { c with sent := x } := by
  exact heap_setCell_same w b 2 _ _ (.int .i64 x) h
theorem ChK.set3 {w : World} {b : Nat} {c : Ch} (h : ChK w b c) (x : Int) : ChK (w.setCell ⟨b, 3, none⟩ (.int .i64 x)) b { c with got := x } := by
  exact heap_setCell_same w b 3 _ _ (.int .i64 x) h
theorem ChK.set4 {w : World} {b : Nat} {c : Ch} (h : ChK w b c) (x : Bool) : ChK (w.setCell ⟨b, 4, none⟩ (.bool x)) b { c with cl := x } := by
  exact heap_setCell_same w b 4 _ _ (.bool x) h
theorem ScK.setG {w : World} {b : Nat} {s : Sv} (h : ScK w b s) (x : Int) : ScK (w.setCell ⟨b, 0, none⟩ (.int .i64 x)) b { s with g := x } := by
  exact heap_setCell_same w b 0 _ _ (.int .i64 x) h
theorem ScK.setO {w : World} {b : Nat} {s : Sv} (h : ScK w b s) (ao : Option Addr) (n c : Nat) : ScK (w.setCell ⟨b, 4, none⟩ (.slice ao n c)) b { s with oo := ao, ol := n, oc := c } := by
  exact heap_setCell_same w b 4 _ _ (.slice ao n c) h

end Go.Proofs.YtikjodbboljhjaaGreatDoor
/-
  Maps from numbers: a block that holds a function.
-/
namespace Go.Proofs.YtikjodbboljhjaaGreatDoor
open Go.RowKit

/-- An element's value reads as itself. -/
def asIs (v : Value) : Option (DataW Value × List MemPlace) := some (.held v, [])
theorem keyed64 : Maps.Keyed Tryz.prog 2 := Maps.int_keyed Tryz.underlying2
/-- Block b is a map of at most n entries that holds f. -/
def MapF (w : World) (b n : Nat) (f : Int → Option Value) : Prop :=
  ∃ D : DataW Value, w.ownsMap Tryz.prog 2 asIs b n D ∧ ∀ i z, D.atKey (.int .i64 i) z = ((f i).map DataW.held).getD z

theorem lit64 {i : Int} (h : I64 i) : (Lit.int .i64 i).wf = true := by
  obtain ⟨h1, h2⟩ := h
  simp [Lit.wf, IntKind.min, IntKind.max, IntKind.signed, IntKind.bits]
  omega
theorem MapF.made (w : World) : MapF (w.alloc (.map #[] 0)) w.heap.size 0 (fun _ => none) :=
  ⟨.map [], World.ownsMap_made w _ _ _, fun _ _ => rfl⟩
theorem MapF.keep {w w' : World} {b n : Nat} {f : Int → Option Value} {row : Option Nat} (h : MapF w b n f) (k : w.grownBy w' row) (hr : some b ≠ row) : MapF w' b n f := by
  obtain ⟨D, h1, h2⟩ := h
  exact ⟨D, h1.kept k hr, h2⟩
theorem MapF.fr {w w' : World} {b n : Nat} {f : Int → Option Value} (h : MapF w b n f) (k : Fr w w') : MapF w' b n f := h.keep k (by simp)
theorem MapF.lt {w : World} {b n : Nat} {f : Int → Option Value} (h : MapF w b n f) : b < w.heap.size := by
  obtain ⟨D, h1, _⟩ := h
  exact h1.lt
theorem mapF_has {f : Int → Option Value} {D : DataW Value} (h : ∀ i z, D.atKey (.int .i64 i) z = ((f i).map DataW.held).getD z) (i : Int) : Maps.has D (.int .i64 i) = (f i).isSome := by
  cases hf : f i with
  | none => exact Maps.has_false_of_atKey fun z => by rw [h i z, hf]; rfl
  | some v => exact Maps.has_true_of_atKey (y := .held v) fun z => by rw [h i z, hf]; rfl
/-- 'v, ok := m[i]'. -/
theorem MapF.look_ok {w : World} {b n : Nat} {f : Int → Option Value} (h : MapF w b n f) {t e : TypeId} (ht : Tryz.prog.underlying t = some (.map 2 e)) {z : Value} (hz : (zeroValue e).run Tryz.prog w = .ok z w) {i : Int} (hi : I64 i) :
    (Instr.lookup t (.map (some b)) (.int .i64 i) true).run Tryz.prog w = .ok (.tuple #[(f i).getD z, .bool (f i).isSome]) w := by
  obtain ⟨D, h1, h2⟩ := h
  obtain ⟨v, ps, hrun, hv⟩ := h1.look_ok keyed64 ht hz (zd := .held z) (zp := []) rfl (Maps.keyOf_int_mk Tryz.underlying2 (lit64 hi))
  rw [mapF_has h2] at hrun
  simp only [asIs, Option.some.injEq, Prod.mk.injEq] at hv
  have hv := hv.1
  rw [h2] at hv
  have : v = (f i).getD z := by
    cases hf : f i with
    | none => rw [hf] at hv; simpa using hv
    | some u => rw [hf] at hv; simpa using hv
  rw [hrun, this]
/-- 'm[i]'. -/
theorem MapF.look {w : World} {b n : Nat} {f : Int → Option Value} (h : MapF w b n f) {t e : TypeId} (ht : Tryz.prog.underlying t = some (.map 2 e)) {z : Value} (hz : (zeroValue e).run Tryz.prog w = .ok z w) {i : Int} (hi : I64 i) :
    (Instr.lookup t (.map (some b)) (.int .i64 i) false).run Tryz.prog w = .ok ((f i).getD z) w := by
  obtain ⟨D, h1, h2⟩ := h
  obtain ⟨v, ps, hrun, hv⟩ := h1.lookup keyed64 ht hz (zd := .held z) (zp := []) rfl (Maps.keyOf_int_mk Tryz.underlying2 (lit64 hi))
  simp only [asIs, Option.some.injEq, Prod.mk.injEq] at hv
  have hv := hv.1
  rw [h2] at hv
  have : v = (f i).getD z := by
    cases hf : f i with
    | none => rw [hf] at hv; simpa using hv
    | some u => rw [hf] at hv; simpa using hv
  rw [hrun, this]
/-- f with v at i. -/
def putM (f : Int → Option Value) (i : Int) (v : Value) : Int → Option Value := fun j => if j = i then some v else f j
/-- 'm[i] = v'. -/
theorem MapF.put {w : World} {b n : Nat} {f : Int → Option Value} (h : MapF w b n f) {t e : TypeId} (ht : Tryz.prog.underlying t = some (.map 2 e)) (hn : n < maxLen) {i : Int} (hi : I64 i) (v : Value) :
    ∃ w', (Instr.mapUpdate t (.map (some b)) (.int .i64 i) v).run Tryz.prog w = .ok () w' ∧ MapF w' b (n + 1) (putM f i v) ∧ w.grownBy w' (some b) := by
  obtain ⟨D, h1, h2⟩ := h
  obtain ⟨w', hrun, h3, h4⟩ := h1.update keyed64 ht hn (Maps.keyOf_int_mk Tryz.underlying2 (lit64 hi)) (val := v) (d := .held v) (ps := []) rfl
  refine ⟨w', hrun, ⟨_, h3, fun j z => ?_⟩, h4⟩
  unfold putM
  by_cases e : j = i
  · subst e
    rw [if_pos rfl, Maps.atKey_put_same h1.isMap (keyed64.key (Maps.keyOf_int_mk Tryz.underlying2 (lit64 hi)))]
    rfl
  · rw [if_neg e, Maps.atKey_put_other (by simpa using e), h2]
/-- 'm[i] = v' at the operation. -/
theorem wp_put {w : World} {ops : Array Oper} {rest : List Oper} {o : Oper} {a : Act} {Q : Exit → Act → World → Prop} (hg : o.guard = none) (m x u : Operand) (t : TypeId) (hop : o.op = Op.mapUpdate t m x u)
    {e : TypeId} (ht : Tryz.prog.underlying t = some (.map 2 e)) (b n : Nat) (f : Int → Option Value) (i : Int) (v : Value) (hm : a.eval m = .map (some b)) (hx : a.eval x = .int .i64 i) (hu : a.eval u = v) (h : MapF w b n f) (hn : n < maxLen) (hi : I64 i)
    (hK : ∀ w', MapF w' b (n + 1) (putM f i v) → w.grownBy w' (some b) → wpList Tryz.prog ops Q rest (a.put o.dst undef) w') : wpList Tryz.prog ops Q (o :: rest) a w := by
  refine wpList_plain hg fun K' hK' => ?_
  obtain ⟨w', hrun, r1, r2⟩ := h.put ht hn hi v
  unfold Oper.wp
  simp [execOp, hop, hm, hx, hu, hrun, Result.andThen]
  exact hK' _ _ (hK w' r1 r2)
end Go.Proofs.YtikjodbboljhjaaGreatDoor
/-
  Look-ups in a scene: l4CountOf, l4LockOf, l4ChanOf.
-/
namespace Go.Proofs.YtikjodbboljhjaaGreatDoor
open Go.RowKit

theorem count_yes (gs : List Ct) (o : Int) (k : Nat) (hk : k < gs.length) (h : ∀ j (hj : j < gs.length), j < k → (gs[j].o == o) = false) (he : (gs[k].o == o) = true) : countOf gs o = gs[k].n := by
  rw [countOf, find_at _ gs k hk h he]; rfl
theorem count_no (gs : List Ct) (o : Int) (h : ∀ j (hj : j < gs.length), (gs[j].o == o) = false) : countOf gs o = 0 := by
  rw [countOf, find_none _ gs h]; rfl
theorem upto_step {α : Type} (p : α → Bool) (xs : List α) (k : Nat) (h : ∀ j (hj : j < xs.length), j < k → p xs[j] = false) (hk : k < xs.length) (he : p xs[k] = false) : ∀ j (hj : j < xs.length), j < k + 1 → p xs[j] = false := by
  intro j hj hjk
  by_cases e : j = k
  · subst e; exact he
  · exact h j hj (by omega)

set_option maxHeartbeats 600000 in
theorem l4CountOf_any {B : Nat → Prop} (s : Sv) (m : Scn) (o : Int) (w : World) (h : ScR B w s m) :
    Calls Tryz.prog 43 #[.agg #[.int .i64 s.g, .slice s.lo s.ll s.lc, .slice s.co s.cl s.cc, .slice s.no s.nl s.nc, .slice s.oo s.ol s.oc], .int .i64 o] w fun e w' => e = .returned (.int .i64 (countOf m.gs o)) ∧ Fr w w' := by
  have hr := h.cts
  have hl := h.sn
  have hn := h.nl
  clear h
  obtain ⟨g, lo, ll, lc, co, cl, cc, no, nl, nc, oo, ol, oc⟩ := s
  simp only at hr hn ⊢
  subst hn
  obtain ⟨gs, hgs⟩ : ∃ gs, gs = m.gs := ⟨_, rfl⟩
  rw [← hgs] at hr hl ⊢
  clear hgs
  have c3 := (ScB.new w ⟨g, lo, ll, lc, co, cl, cc, no, gs.length, nc, oo, ol, oc⟩).c3
  simp only at c3
  have hr := hr.fr (Fr.alloc w (.cells #[.int .i64 g, .slice lo ll lc, .slice co cl cc, .slice no gs.length nc, .slice oo ol oc] 29))
  go_enter Tryz.func43, Tryz.ntmps43
  go_wp2
  go_loop [5] (fun i => ∃ k : Nat, k ≤ gs.length ∧ i = .int .i64 k ∧ Hid (∀ j (hj : j < gs.length), j < k → (gs[j].o == o) = false)) (fun i => gs.length - (intOf i).toNat)
  case atStart => exact ⟨0, Nat.zero_le _, rfl, fun j hj hk => by omega⟩
  case round =>
    obtain ⟨k, hk, rfl, HA⟩ := hrel
    by_cases hlt : k < gs.length
    · obtain ⟨b, off, rfl, d0, d1⟩ := ct_at hr k hlt
      cases hb : (gs[k].o == o)
      · have HS : Hid (∀ j (hj : j < gs.length), j < k + 1 → (gs[j].o == o) = false) := upto_step (fun c : Ct => c.o == o) gs k HA.out hlt hb
        go_wp2
        go_round
        case rel => exact ⟨k + 1, by omega, by go_num, HS⟩
        case measure => simp [intOf]; omega
      · have HE : Hid (countOf gs o = gs[k].n) := count_yes gs o k hlt HA.out hb
        go_wp2
        go_ret
        exact ⟨ret_int HE.out.symm, Fr.alloc _ _⟩
    · have HN : Hid (countOf gs o = 0) := count_no gs o (fun j hj => HA.out j hj (by omega))
      go_wp2
      go_ret
      exact ⟨ret_int HN.out.symm, Fr.alloc _ _⟩
theorem lock_yes (ls : List Lk) (o : Int) (k : Nat) (hk : k < ls.length) (h : ∀ j (hj : j < ls.length), j < k → (ls[j].o == o) = false) (he : (ls[k].o == o) = true) : lockOf ls o = ls[k] := by
  rw [lockOf, find_at _ ls k hk h he]; rfl
theorem lock_no (ls : List Lk) (o : Int) (h : ∀ j (hj : j < ls.length), (ls[j].o == o) = false) : lockOf ls o = ⟨o, -1, []⟩ := by
  rw [lockOf, find_none _ ls h]; rfl
theorem i64_m1 : I64 (-1) := ⟨by decide, by decide⟩
/-- A lock's three cells. -/
theorem lvB_new (w : World) (l : Lv) : (w.alloc (.cells #[.int .i64 l.o, .int .i64 l.wr, .slice l.ro l.rn l.rc] 47)).cell? ⟨w.heap.size, 0, none⟩ = some (.int .i64 l.o) ∧ (w.alloc (.cells #[.int .i64 l.o, .int .i64 l.wr, .slice l.ro l.rn l.rc] 47)).cell? ⟨w.heap.size, 1, none⟩ = some (.int .i64 l.wr) ∧ (w.alloc (.cells #[.int .i64 l.o, .int .i64 l.wr, .slice l.ro l.rn l.rc] 47)).cell? ⟨w.heap.size, 2, none⟩ = some (.slice l.ro l.rn l.rc) :=
  ⟨by simp [go_sem], by simp [go_sem], by simp [go_sem]⟩

set_option maxHeartbeats 600000 in
theorem l4LockOf_any {B : Nat → Prop} (s : Sv) (m : Scn) (o : Int) (w : World) (ho : I64 o) (h : ScR B w s m) :
    Calls Tryz.prog 109 #[.agg #[.int .i64 s.g, .slice s.lo s.ll s.lc, .slice s.co s.cl s.cc, .slice s.no s.nl s.nc, .slice s.oo s.ol s.oc], .int .i64 o] w fun e w' => ∃ lv : Lv, e = .returned (.agg #[.int .i64 lv.o, .int .i64 lv.wr, .slice lv.ro lv.rn lv.rc]) ∧ LkR B w' lv (lockOf m.ls o) ∧ Fr w w' := by
  obtain ⟨lvs, hr, hn, hL⟩ := h.lks
  have hl := h.sl
  clear h
  obtain ⟨g, lo, ll, lc, co, cl, cc, no, nl, nc, oo, ol, oc⟩ := s
  simp only at hr hn ⊢
  subst hn
  obtain ⟨ls, hls⟩ : ∃ ls, ls = m.ls := ⟨_, rfl⟩
  rw [← hls] at hL hl ⊢
  clear hls
  have c1 := (Fr.alloc (w.alloc (.cells #[.int .i64 g, .slice lo lvs.length lc, .slice co cl cc, .slice no nl nc, .slice oo ol oc] 29)) (.cells #[.int .i64 0, .int .i64 0, .slice none 0 0] 47)).cell (ScB.new w ⟨g, lo, lvs.length, lc, co, cl, cc, no, nl, nc, oo, ol, oc⟩).c1
  simp only at c1
  have f2 := (Fr.alloc w (.cells #[.int .i64 g, .slice lo lvs.length lc, .slice co cl cc, .slice no nl nc, .slice oo ol oc] 29)).trans (Fr.alloc _ (.cells #[.int .i64 0, .int .i64 0, .slice none 0 0] 47))
  have hr := hr.fr f2
  go_enter Tryz.func109, Tryz.ntmps109
  go_wp2
  go_loop [5] (fun i => ∃ k : Nat, k ≤ lvs.length ∧ i = .int .i64 k ∧ Hid (∀ j (hj : j < ls.length), j < k → (ls[j].o == o) = false)) (fun i => lvs.length - (intOf i).toNat)
  case atStart => exact ⟨0, Nat.zero_le _, rfl, fun j hj hk => by omega⟩
  case round =>
    obtain ⟨k, hk, rfl, HA⟩ := hrel
    by_cases hlt : k < lvs.length
    · obtain ⟨b, off, rfl, d0, d1, d2⟩ := lv_at hr k hlt
      have hk2 : k < ls.length := by have := hL.len; omega
      have hLk := hL.at_ k hlt hk2
      have ee := hLk.o
      obtain ⟨lv, hlv⟩ : ∃ lv, lv = lvs[k] := ⟨_, rfl⟩
      rw [← hlv] at d0 d1 d2 hLk ee
      clear hlv
      cases hb : (lv.o == o)
      · have HS : Hid (∀ j (hj : j < ls.length), j < k + 1 → (ls[j].o == o) = false) := upto_step (fun c : Lk => c.o == o) ls k HA.out hk2 (by rw [← ee]; exact hb)
        clear ee hLk
        go_wp2
        go_round
        case rel => exact ⟨k + 1, by omega, by go_num, HS⟩
        case measure => simp [intOf]; omega
      · have HE : Hid (lockOf ls o = ls[k]) := lock_yes ls o k hk2 HA.out (by rw [← ee]; exact hb)
        clear ee
        go_wp2
        refine bodyPost_ret (v := .agg #[.int .i64 lv.o, .int .i64 lv.wr, .slice lv.ro lv.rn lv.rc]) (by simp [results, Tryz.results109, go_sem]) rfl ⟨lv, rfl, ?_, (Fr.alloc _ _).trans (Fr.alloc _ _)⟩
        rw [HE.out]
        exact hLk.fr ((Fr.alloc _ _).trans (Fr.alloc _ _))
    · have HN : Hid (lockOf ls o = ⟨o, -1, []⟩) := lock_no ls o (fun j hj => HA.out j hj (by have := hL.len; omega))
      go_wp2
      refine bodyPost_ret (v := .agg #[.int .i64 o, .int .i64 (-1), .slice none 0 0]) (by simp [results, Tryz.results109, go_sem]) rfl ⟨⟨o, -1, none, 0, 0⟩, rfl, ?_, (Fr.alloc _ _).trans (Fr.alloc _ _)⟩
      rw [HN.out]
      exact ⟨rfl, rfl, rfl, Reads.nil _ _, fun b hb => by simp [blk] at hb, fun _ => rfl, by simp, ho, i64_m1⟩
theorem chan_yes (cs : List Ch) (o : Int) (k : Nat) (hk : k < cs.length) (h : ∀ j (hj : j < cs.length), j < k → (cs[j].o == o) = false) (he : (cs[k].o == o) = true) : chanOf cs o = cs[k] ∧ isChan cs o = true := by
  rw [chanOf, isChan, find_at _ cs k hk h he]; exact ⟨rfl, rfl⟩
theorem chan_no (cs : List Ch) (o : Int) (h : ∀ j (hj : j < cs.length), (cs[j].o == o) = false) : chanOf cs o = ⟨o, 0, 0, 0, false⟩ ∧ isChan cs o = false := by
  rw [chanOf, isChan, find_none _ cs h]; exact ⟨rfl, rfl⟩

set_option maxHeartbeats 600000 in
theorem l4ChanOf_any {B : Nat → Prop} (s : Sv) (m : Scn) (o : Int) (w : World) (h : ScR B w s m) :
    Calls Tryz.prog 110 #[.agg #[.int .i64 s.g, .slice s.lo s.ll s.lc, .slice s.co s.cl s.cc, .slice s.no s.nl s.nc, .slice s.oo s.ol s.oc], .int .i64 o] w fun e w' => e = .returned (.tuple #[.agg #[.int .i64 (chanOf m.cs o).o, .int .i64 (chanOf m.cs o).cap, .int .i64 (chanOf m.cs o).sent, .int .i64 (chanOf m.cs o).got, .bool (chanOf m.cs o).cl], .bool (isChan m.cs o)]) ∧ Fr w w' := by
  have hr := h.chs
  have hl := h.sc
  have hn := h.cl
  clear h
  obtain ⟨g, lo, ll, lc, co, cl, cc, no, nl, nc, oo, ol, oc⟩ := s
  simp only at hr hn ⊢
  subst hn
  obtain ⟨cs, hcs⟩ : ∃ cs, cs = m.cs := ⟨_, rfl⟩
  rw [← hcs] at hr hl ⊢
  clear hcs
  have c2 := (Fr.alloc (w.alloc (.cells #[.int .i64 g, .slice lo ll lc, .slice co cs.length cc, .slice no nl nc, .slice oo ol oc] 29)) (.cells #[.int .i64 0, .int .i64 0, .int .i64 0, .int .i64 0, .bool false] 82)).cell (ScB.new w ⟨g, lo, ll, lc, co, cs.length, cc, no, nl, nc, oo, ol, oc⟩).c2
  simp only at c2
  have f2 := (Fr.alloc w (.cells #[.int .i64 g, .slice lo ll lc, .slice co cs.length cc, .slice no nl nc, .slice oo ol oc] 29)).trans (Fr.alloc _ (.cells #[.int .i64 0, .int .i64 0, .int .i64 0, .int .i64 0, .bool false] 82))
  have hr := hr.fr f2
  go_enter Tryz.func110, Tryz.ntmps110
  go_wp2
  go_loop [6] (fun i => ∃ k : Nat, k ≤ cs.length ∧ i = .int .i64 k ∧ Hid (∀ j (hj : j < cs.length), j < k → (cs[j].o == o) = false)) (fun i => cs.length - (intOf i).toNat)
  case atStart => exact ⟨0, Nat.zero_le _, rfl, fun j hj hk => by omega⟩
  case round =>
    obtain ⟨k, hk, rfl, HA⟩ := hrel
    by_cases hlt : k < cs.length
    · obtain ⟨b, off, rfl, d0, d1, d2, d3, d4⟩ := ch_at hr k hlt
      have HZ : Hid (cs[k] = cs[k]) := rfl
      cases hb : (cs[k].o == o)
      · have HS : Hid (∀ j (hj : j < cs.length), j < k + 1 → (cs[j].o == o) = false) := upto_step (fun c : Ch => c.o == o) cs k HA.out hlt hb
        go_wp2
        go_round
        case rel => exact ⟨k + 1, by omega, by go_num, HS⟩
        case measure => simp [intOf]; omega
      · have HE : Hid (chanOf cs o = cs[k] ∧ isChan cs o = true) := chan_yes cs o k hlt HA.out hb
        obtain ⟨c, hc⟩ : ∃ c, c = cs[k] := ⟨_, rfl⟩
        rw [← hc] at d0 d1 d2 d3 d4 HE hb
        clear hc HZ
        go_wp2
        refine bodyPost_ret (v := .tuple #[.agg #[.int .i64 c.o, .int .i64 c.cap, .int .i64 c.sent, .int .i64 c.got, .bool c.cl], .bool true]) (by simp [results, Tryz.results110, go_sem]) rfl ⟨by rw [HE.out.1, HE.out.2], (Fr.alloc _ _).trans (Fr.alloc _ _)⟩
    · have HN : Hid (chanOf cs o = ⟨o, 0, 0, 0, false⟩ ∧ isChan cs o = false) := chan_no cs o (fun j hj => HA.out j hj (by omega))
      go_wp2
      refine bodyPost_ret (v := .tuple #[.agg #[.int .i64 o, .int .i64 0, .int .i64 0, .int .i64 0, .bool false], .bool false]) (by simp [results, Tryz.results110, go_sem]) rfl ⟨by rw [HN.out.1, HN.out.2], (Fr.alloc _ _).trans (Fr.alloc _ _)⟩
end Go.Proofs.YtikjodbboljhjaaGreatDoor
/-
  Is a channel right, is a lock right: l4Chan, l4Lock.
-/
namespace Go.Proofs.YtikjodbboljhjaaGreatDoor
open Go.RowKit

def chB (c : Ch) : Bool := inB 0 15 c.o && (inB 0 8 c.cap && (inB 0 1000000 c.sent && (inB 0 c.sent c.got && decide (c.sent ≤ c.got + c.cap))))

theorem chB_new (w : World) (c : Ch) : (w.alloc (.cells #[.int .i64 c.o, .int .i64 c.cap, .int .i64 c.sent, .int .i64 c.got, .bool c.cl] 82)).cell? ⟨w.heap.size, 0, none⟩ = some (.int .i64 c.o) := by simp [go_sem]

set_option maxHeartbeats 800000 in
theorem l4Chan_any (c : Ch) (w : World) :
    Calls Tryz.prog 50 #[.agg #[.int .i64 c.o, .int .i64 c.cap, .int .i64 c.sent, .int .i64 c.got, .bool c.cl]] w fun e w' => e = .returned (.bool (chB c)) ∧ Fr w w' := by
  obtain ⟨o, cap, sent, got, cl⟩ := c
  simp only
  unfold chB
  simp only
  cases h1 : inB 0 15 o
  · go_enter Tryz.func50, Tryz.ntmps50
    go_wp2_with (first | (go_at_call 51; refine (l4Obj_any _ _).mono ?_; rintro e w' ⟨rfl, rfl⟩) | (go_at_call 48; refine (l1In_any _ _ _ _).mono ?_; rintro e w' ⟨rfl, rfl⟩))
    go_ret
    exact ⟨rfl, Fr.alloc _ _⟩
  cases h2 : inB 0 8 cap
  · go_enter Tryz.func50, Tryz.ntmps50
    go_wp2_with (first | (go_at_call 51; refine (l4Obj_any _ _).mono ?_; rintro e w' ⟨rfl, rfl⟩) | (go_at_call 48; refine (l1In_any _ _ _ _).mono ?_; rintro e w' ⟨rfl, rfl⟩))
    go_ret
    exact ⟨rfl, Fr.alloc _ _⟩
  have r2 := inB_true h2
  cases h3 : inB 0 1000000 sent
  · go_enter Tryz.func50, Tryz.ntmps50
    go_wp2_with (first | (go_at_call 51; refine (l4Obj_any _ _).mono ?_; rintro e w' ⟨rfl, rfl⟩) | (go_at_call 48; refine (l1In_any _ _ _ _).mono ?_; rintro e w' ⟨rfl, rfl⟩))
    go_ret
    exact ⟨rfl, Fr.alloc _ _⟩
  have r3 := inB_true h3
  cases h4 : inB 0 sent got
  · go_enter Tryz.func50, Tryz.ntmps50
    go_wp2_with (first | (go_at_call 51; refine (l4Obj_any _ _).mono ?_; rintro e w' ⟨rfl, rfl⟩) | (go_at_call 48; refine (l1In_any _ _ _ _).mono ?_; rintro e w' ⟨rfl, rfl⟩))
    go_ret
    exact ⟨rfl, Fr.alloc _ _⟩
  have r4 := inB_true h4
  go_enter Tryz.func50, Tryz.ntmps50
  go_wp2_with (first | (go_at_call 51; refine (l4Obj_any _ _).mono ?_; rintro e w' ⟨rfl, rfl⟩) | (go_at_call 48; refine (l1In_any _ _ _ _).mono ?_; rintro e w' ⟨rfl, rfl⟩))
  go_ret
  exact ⟨rfl, Fr.alloc _ _⟩
end Go.Proofs.YtikjodbboljhjaaGreatDoor
/-
  Is a lock right: l4Lock.
-/
namespace Go.Proofs.YtikjodbboljhjaaGreatDoor
open Go.RowKit

/-- Is the reader at the place j a goroutine that there is, and more than the one ahead of it? -/
def rdAt (g : Int) (xs : List Int) (j : Nat) : Bool := inB 0 (g - 1) (xs.getD j 0) && (decide (j = 0) || decide (xs.getD (j - 1) 0 < xs.getD j 0))
def rdB (g : Int) (xs : List Int) : Bool := (List.range xs.length).all (rdAt g xs)
theorem rdB_yes {g : Int} {xs : List Int} (h : ∀ j, j < xs.length → rdAt g xs j = true) : rdB g xs = true := by
  rw [rdB, List.all_eq_true]
  intro j hj
  exact h j (List.mem_range.1 hj)
theorem rdB_no {g : Int} {xs : List Int} {j : Nat} (hj : j < xs.length) (h : rdAt g xs j = false) : rdB g xs = false := by
  rw [rdB, Bool.eq_false_iff]
  intro e
  rw [List.all_eq_true] at e
  have := e j (List.mem_range.2 hj)
  rw [h] at this
  cases this
def lkB (g : Int) (l : Lk) : Bool := rdB g l.rd && (inB 0 15 l.o && (inB (-1) (g - 1) l.wr && !(decide (0 ≤ l.wr) == decide (0 < l.rd.length))))

set_option maxHeartbeats 1600000 in
theorem l4Lock_any {B : Nat → Prop} (g : Int) (lv : Lv) (l : Lk) (w : World) (g0 : 1 ≤ g) (g1 : g ≤ 16) (h : LkR B w lv l) :
    Calls Tryz.prog 49 #[.int .i64 g, .agg #[.int .i64 lv.o, .int .i64 lv.wr, .slice lv.ro lv.rn lv.rc]] w fun e w' => e = .returned (.bool (lkB g l)) ∧ Fr w w' := by
  have hr := h.rd
  have hsz := h.sz
  have e1 := h.o
  have e2 := h.wr
  have e3 := h.rn
  clear h
  obtain ⟨o, wt, xs⟩ := l
  obtain ⟨o', wt', ro, rn, rc⟩ := lv
  simp only at hr hsz e1 e2 e3 ⊢
  subst e1 e2 e3
  have hrr := hr.fr (Fr.alloc w (.cells #[.int .i64 o', .int .i64 wt', .slice ro xs.length rc] 47))
  have c2 := (lvB_new w ⟨o', wt', ro, xs.length, rc⟩).2.2
  simp only at c2
  unfold lkB
  simp only
  obtain ⟨W, hW⟩ : ∃ W, W = w.alloc (.cells #[.int .i64 o', .int .i64 wt', .slice ro xs.length rc] 47) := ⟨_, rfl⟩
  have c0 : W.cell? ⟨w.heap.size, 0, none⟩ = some (.int .i64 o') := by rw [hW]; exact (lvB_new w ⟨o', wt', ro, xs.length, rc⟩).1
  have c1 : W.cell? ⟨w.heap.size, 1, none⟩ = some (.int .i64 wt') := by rw [hW]; exact (lvB_new w ⟨o', wt', ro, xs.length, rc⟩).2.1
  have fW : Fr w W := by rw [hW]; exact Fr.alloc _ _
  rw [← hW] at c2 hrr
  clear hr
  go_enter Tryz.func49, Tryz.ntmps49
  go_wp2_with fail
  rw [← hW]
  obtain ⟨b0, hb0⟩ : ∃ b0, b0 = w.heap.size := ⟨_, rfl⟩
  rw [← hb0] at c0 c1 c2 ⊢
  clear hW hb0
  go_loopw [5] (fun i wr => ∃ k : Nat, k ≤ xs.length ∧ i = .int .i64 k ∧ Hid (∀ j, j < k → rdAt g xs j = true) ∧ wr.cell? ⟨b0, 0, none⟩ = some (.int .i64 o') ∧ wr.cell? ⟨b0, 1, none⟩ = some (.int .i64 wt') ∧ wr.cell? ⟨b0, 2, none⟩ = some (.slice ro xs.length rc) ∧ Reads wr ro xs ∧ Fr w wr) (fun i _ => xs.length - (intOf i).toNat)
  case atStart => exact ⟨0, Nat.zero_le _, rfl, fun j hj => by omega, c0, c1, c2, hrr, fW⟩
  case round =>
    clear c0 c1 c2 hrr fW
    obtain ⟨k, hk, rfl, HA, c0, c1, c2, hrr, fW⟩ := hrel
    by_cases hlt : k < xs.length
    · obtain ⟨b, off, rfl, hc⟩ := hrr.at_ k hlt
      have hck := hc k hlt
      obtain ⟨z, hz⟩ : ∃ z, z = xs.getD k 0 := ⟨_, rfl⟩
      rw [← hz] at hck
      have cI := fun w => l1In_any z 0 (IntKind.i64.wrap (g - 1)) w
      have cJ := fun w => l1In_any z 0 (g - 1) w
      have hwr : IntKind.i64.wrap (g - 1) = g - 1 := by rw [IntKind.wrap_i64]; omega
      cases h1 : inB 0 (g - 1) z
      · have h1' : inB 0 (IntKind.i64.wrap (g - 1)) z = false := by rw [hwr]; exact h1
        simp only [h1'] at cI
        simp only [h1] at cJ
        clear h1' hwr
        have HF : Hid (rdB g xs = false) := rdB_no hlt (by rw [rdAt, ← hz, h1, Bool.false_and])
        clear h1 hz hc
        go_wp2_with fail
        go_quiet ((go_at_call 48; first | with_reducible exact Calls.quiet_of_same (cI _) | with_reducible exact Calls.quiet_of_same (cJ _)))
        go_wp2_with fail
        go_ret
        exact ⟨ret_bool (by rw [HF.out]; rfl), fW.trans (Fr.drewN _ _)⟩
      · have h1' : inB 0 (IntKind.i64.wrap (g - 1)) z = true := by rw [hwr]; exact h1
        simp only [h1'] at cI
        simp only [h1] at cJ
        clear h1' hwr
        cases k with
        | zero =>
          have HT : Hid (rdAt g xs 0 = true) := by
            show rdAt g xs 0 = true
            rw [rdAt, ← hz, h1]; rfl
          clear h1 hz hc
          simp only [Nat.add_zero] at hck
          go_wp2_with fail
          have hd : decide ((0 : Int) < 0) = false := by decide
          go_quiet ((go_at_call 48; first | with_reducible exact Calls.quiet_of_same (cI _) | with_reducible exact Calls.quiet_of_same (cJ _)))
          go_wp2_with fail
          go_roundw
          case rel => exact ⟨1, by omega, by go_num, fun j hj => by rw [show j = 0 by omega]; exact HT.out, c0, c1, c2, hrr.fr (Fr.drewN _ _), fW.trans (Fr.drewN _ _)⟩
          case measure => simp [intOf]; omega
        | succ k =>
          have hcp := hc k (by omega)
          obtain ⟨y, hy⟩ : ∃ y, y = xs.getD k 0 := ⟨_, rfl⟩
          rw [← hy] at hcp
          have hwk : IntKind.i64.wrap (((k + 1 : Nat) : Int) - 1) = (k : Int) := by rw [IntKind.wrap_i64]; omega
          by_cases hle : z ≤ y
          · have HF : Hid (rdB g xs = false) := rdB_no hlt (by
              have : decide (y < z) = false := decide_eq_false (by omega)
              rw [rdAt, ← hz, h1, Nat.add_sub_cancel, ← hy, this]; simp)
            clear h1 hz hc hy
            go_wp2_with fail
            go_quiet ((go_at_call 48; first | with_reducible exact Calls.quiet_of_same (cI _) | with_reducible exact Calls.quiet_of_same (cJ _)))
            go_wp2_with fail
            go_ret
            exact ⟨ret_bool (by rw [HF.out]; rfl), fW.trans (Fr.drewN _ _)⟩
          · have HT : Hid (rdAt g xs (k + 1) = true) := by
              show rdAt g xs (k + 1) = true
              have : decide (y < z) = true := decide_eq_true (by omega)
              rw [rdAt, ← hz, h1, Nat.add_sub_cancel, ← hy, this]; simp
            clear h1 hz hc hy
            have hle' : y < z := by omega
            go_wp2_with fail
            go_quiet ((go_at_call 48; first | with_reducible exact Calls.quiet_of_same (cI _) | with_reducible exact Calls.quiet_of_same (cJ _)))
            go_wp2_with fail
            go_roundw
            case rel =>
              refine ⟨k + 2, by omega, by go_num, fun j hj => ?_, c0, c1, c2, hrr.fr (Fr.drewN _ _), fW.trans (Fr.drewN _ _)⟩
              by_cases e : j = k + 1
              · rw [e]; exact HT.out
              · exact HA.out j (by omega)
            case measure => simp [intOf]; omega
    · have HT : Hid (rdB g xs = true) := rdB_yes (fun j hj => HA.out j (by omega))
      clear HA
      have hwr : IntKind.i64.wrap (g - 1) = g - 1 := by rw [IntKind.wrap_i64]; omega
      cases h1 : inB 0 15 o'
      · go_wp2_with (first | (go_at_call 51; refine (l4Obj_any _ _).mono ?_; rintro e w' ⟨rfl, rfl⟩) | (go_at_call 48; refine (l1In_any _ _ _ _).mono ?_; rintro e w' ⟨rfl, rfl⟩))
        go_ret
        exact ⟨ret_bool (by rw [HT.out, h1]; rfl), fW⟩
      cases h2 : inB (-1) (g - 1) wt'
      · go_wp2_with (first | (go_at_call 51; refine (l4Obj_any _ _).mono ?_; rintro e w' ⟨rfl, rfl⟩) | (go_at_call 48; refine (l1In_any _ _ _ _).mono ?_; rintro e w' ⟨rfl, rfl⟩))
        go_ret
        exact ⟨ret_bool (by rw [HT.out, h1, h2]; rfl), fW⟩
      by_cases h3 : 0 ≤ wt'
      · by_cases h4 : 0 < xs.length
        · go_wp2_with (first | (go_at_call 51; refine (l4Obj_any _ _).mono ?_; rintro e w' ⟨rfl, rfl⟩) | (go_at_call 48; refine (l1In_any _ _ _ _).mono ?_; rintro e w' ⟨rfl, rfl⟩))
          go_ret
          exact ⟨ret_bool (by have d3 : decide (0 ≤ wt') = true := decide_eq_true (by omega); have d4 : decide (0 < xs.length) = true := decide_eq_true (by omega); simp only [HT.out, h1, h2, d3, d4]; rfl), fW⟩
        · go_wp2_with (first | (go_at_call 51; refine (l4Obj_any _ _).mono ?_; rintro e w' ⟨rfl, rfl⟩) | (go_at_call 48; refine (l1In_any _ _ _ _).mono ?_; rintro e w' ⟨rfl, rfl⟩))
          go_ret
          exact ⟨ret_bool (by have d3 : decide (0 ≤ wt') = true := decide_eq_true (by omega); have d4 : decide (0 < xs.length) = false := decide_eq_false (by omega); simp only [HT.out, h1, h2, d3, d4]; rfl), fW⟩
      · by_cases h4 : 0 < xs.length
        · go_wp2_with (first | (go_at_call 51; refine (l4Obj_any _ _).mono ?_; rintro e w' ⟨rfl, rfl⟩) | (go_at_call 48; refine (l1In_any _ _ _ _).mono ?_; rintro e w' ⟨rfl, rfl⟩))
          go_ret
          exact ⟨ret_bool (by have d3 : decide (0 ≤ wt') = false := decide_eq_false (by omega); have d4 : decide (0 < xs.length) = true := decide_eq_true (by omega); simp only [HT.out, h1, h2, d3, d4]; rfl), fW⟩
        · go_wp2_with (first | (go_at_call 51; refine (l4Obj_any _ _).mono ?_; rintro e w' ⟨rfl, rfl⟩) | (go_at_call 48; refine (l1In_any _ _ _ _).mono ?_; rintro e w' ⟨rfl, rfl⟩))
          go_ret
          exact ⟨ret_bool (by have d3 : decide (0 ≤ wt') = false := decide_eq_false (by omega); have d4 : decide (0 < xs.length) = false := decide_eq_false (by omega); simp only [HT.out, h1, h2, d3, d4]; rfl), fW⟩
end Go.Proofs.YtikjodbboljhjaaGreatDoor
