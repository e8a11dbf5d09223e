/-
  Pack BH: ByteSet, Sieve, Sieve2, SieveM.
-/
import Derived.Test.YtcofhmikdkkigaaGreatDoorPrBF
import Derived.Laws.BitsAllLaws
import Derived.Test.YtcofhmikdkkigaaGreatDoorPrAN
import Derived.Test.YtcofhmikdkkigaaGreatDoorPrAD
import Derived.Test.YtcofhmikdkkigaaGreatDoorPrAA
namespace Go.Proofs.YtcofhmikdkkigaaGreatDoor
open Go.RowKit

theorem setOf_lt (f : Nat → Bool) (n : Nat) : setOf f n < 2 ^ n := by
  apply Nat.lt_pow_two_of_testBit
  intro i hi
  rw [setOf_bit, decide_eq_false (by omega), Bool.false_and]
theorem setOf_lt8 (f : Nat → Bool) {n : Nat} (h : n ≤ 8) : setOf f n < 256 := by
  have h1 := setOf_lt f n
  have h2 : 2 ^ n ≤ 2 ^ 8 := Nat.pow_le_pow_right (by omega) h
  omega
theorem setOf_or (f g : Nat → Bool) (n : Nat) : setOf f n ||| setOf g n = setOf (fun i => f i || g i) n := by
  apply Nat.eq_of_testBit_eq
  intro i
  rw [Nat.testBit_or, setOf_bit, setOf_bit, setOf_bit, Bool.and_or_distrib_left]
theorem setOf_less (f g : Nat → Bool) {n : Nat} (h : n ≤ 8) : setOf f n &&& (255 - setOf g n) = setOf (fun i => f i && !g i) n := by
  apply Nat.eq_of_testBit_eq
  intro i
  have hg := setOf_lt8 g h
  have e : 255 - setOf g n = 2 ^ 8 - (setOf g n + 1) := by omega
  rw [Nat.testBit_and, e, Nat.testBit_two_pow_sub_succ hg, setOf_bit, setOf_bit, setOf_bit]
  by_cases hi : i < n
  · rw [decide_eq_true hi, decide_eq_true (show i < 8 by omega)]
    simp
  · rw [decide_eq_false hi]
    simp
theorem setOf_zero (f : Nat → Bool) (n : Nat) : setOf f n = 0 ↔ (List.range n).any f = false := by
  constructor
  · intro h
    rw [List.any_eq_false]
    intro i hi
    have := setOf_bit f n i
    rw [h, Nat.zero_testBit, decide_eq_true (List.mem_range.1 hi), Bool.true_and] at this
    rw [← this]
    simp
  · intro h
    apply Nat.eq_of_testBit_eq
    intro i
    rw [setOf_bit, Nat.zero_testBit]
    rw [List.any_eq_false] at h
    by_cases hi : i < n
    · have := h i (List.mem_range.2 hi)
      rw [decide_eq_true hi, Bool.true_and]
      simpa using this
    · rw [decide_eq_false hi, Bool.false_and]
theorem or_bit {f : Nat → Bool} {q : Nat} (hq : q < 8) (hf : f q = true) : bits .or .u8 ((setOf f q : Nat) : Int) ((2 : Int) ^ q % 256) = ((setOf f (q + 1) : Nat) : Int) := by
  have h1 := setOf_lt8 f (show q ≤ 8 by omega)
  have h2 : 2 ^ q < 256 := Nat.pow_lt_pow_of_lt (show 1 < 2 by omega) hq
  have e : (2 : Int) ^ q % 256 = ((2 ^ q : Nat) : Int) := by
    have e : ((2 : Int) ^ q) = ((2 ^ q : Nat) : Int) := by simp
    obtain ⟨P, hP⟩ : ∃ P, P = 2 ^ q := ⟨_, rfl⟩
    rw [e]
    rw [← hP] at h2 ⊢
    omega
  rw [e, u8_or_nat _ _ h1 h2]
  have : setOf f (q + 1) = setOf f q ||| 2 ^ q := if_pos hf
  rw [this]

set_option maxRecDepth 20000 in
set_option maxHeartbeats 4000000 in
theorem shared_any (a e : Ev) (w : World) (hs : Shapes w) (ha : 1 ≤ a.s ∧ a.s ≤ 8) (hal : 0 ≤ a.l ∧ a.l ≤ 65535) :
    Calls Tryz.prog 174 #[.agg #[.int .i64 a.k, .int .i64 a.g, .int .i64 a.o, .int .i64 a.w, .int .i64 a.l, .int .i64 a.s, .int .i64 a.f, .int .i64 a.t], .agg #[.int .i64 e.k, .int .i64 e.g, .int .i64 e.o, .int .i64 e.w, .int .i64 e.l, .int .i64 e.s, .int .i64 e.f, .int .i64 e.t]] w fun y w' => y = .returned (.int .u8 ((setOf (fun n => covB e (a.l + n)) a.s.toNat : Nat) : Int)) ∧ Fr w w' := by
  have f1 := Fr.alloc w (.cells #[.int .i64 a.k, .int .i64 a.g, .int .i64 a.o, .int .i64 a.w, .int .i64 a.l, .int .i64 a.s, .int .i64 a.f, .int .i64 a.t] 31)
  have f2 := Fr.alloc (w.alloc (.cells #[.int .i64 a.k, .int .i64 a.g, .int .i64 a.o, .int .i64 a.w, .int .i64 a.l, .int .i64 a.s, .int .i64 a.f, .int .i64 a.t] 31)) (.cells #[.int .i64 e.k, .int .i64 e.g, .int .i64 e.o, .int .i64 e.w, .int .i64 e.l, .int .i64 e.s, .int .i64 e.f, .int .i64 e.t] 31)
  have kA := (EvAt.new w a 31).fr f2
  have kE := EvAt.new (w.alloc (.cells #[.int .i64 a.k, .int .i64 a.g, .int .i64 a.o, .int .i64 a.w, .int .i64 a.l, .int .i64 a.s, .int .i64 a.f, .int .i64 a.t] 31)) e 31
  simp only [World.size_alloc] at kE
  have fW := f1.trans f2
  have HSU : Hid (∀ q, setOf (fun n : Nat => covB e (a.l + n)) (q + 1) = if covB e (a.l + q) = true then setOf (fun n : Nat => covB e (a.l + n)) q ||| 2 ^ q else setOf (fun n : Nat => covB e (a.l + n)) q) := fun q => rfl
  have HOR : Hid (∀ q : Nat, q < 8 → covB e (a.l + q) = true → bits .or .u8 ((setOf (fun n : Nat => covB e (a.l + n)) q : Nat) : Int) ((2 : Int) ^ q % 256) = ((setOf (fun n : Nat => covB e (a.l + n)) (q + 1) : Nat) : Int)) := fun q h1 h2 => or_bit h1 h2
  have H0 : Hid (setOf (fun n : Nat => covB e (a.l + n)) 0 = 0) := rfl
  have cC := fun x u (f : Fr w u) => implCov_any e x u (hs.fr f)
  obtain ⟨Z, hZ⟩ : ∃ Z : Nat → Nat, ∀ q, setOf (fun n : Nat => covB e (a.l + n)) q = Z q := ⟨_, fun _ => rfl⟩
  simp only [hZ] at HSU HOR H0 ⊢
  obtain ⟨cv, hcv⟩ : ∃ f : Int → Bool, ∀ x, covB e x = f x := ⟨_, fun _ => rfl⟩
  simp only [hcv] at HSU HOR cC
  clear hZ hcv f1 f2 hs
  obtain ⟨k, g, o, wi, l, sz, f, t⟩ := a
  obtain ⟨k', g', o', wi', l', sz', f', t'⟩ := e
  simp only at fW kA kE cC HSU HOR ha hal ⊢
  obtain ⟨S, rfl⟩ : ∃ S : Nat, sz = S := ⟨sz.toNat, by omega⟩
  rw [Int.toNat_natCast]
  go_enter Tryz.func174, Tryz.ntmps174
  go_wp2_with fail
  obtain ⟨W, hW⟩ : ∃ W, W = (w.alloc (.cells #[.int .i64 k, .int .i64 g, .int .i64 o, .int .i64 wi, .int .i64 l, .int .i64 S, .int .i64 f, .int .i64 t] 31)).alloc (.cells #[.int .i64 k', .int .i64 g', .int .i64 o', .int .i64 wi', .int .i64 l', .int .i64 sz', .int .i64 f', .int .i64 t'] 31) := ⟨_, rfl⟩
  rw [← hW] at kA kE fW ⊢
  clear hW
  obtain ⟨A, hA⟩ : ∃ A, A = w.heap.size := ⟨_, rfl⟩
  rw [← hA] at kA kE ⊢
  clear hA
  have HQ : Hid (∀ u, Fr W u → EvAt u A ⟨k, g, o, wi, l, S, f, t⟩ ∧ EvAt u (A + 1) ⟨k', g', o', wi', l', sz', f', t'⟩) := fun u fu => ⟨kA.fr fu, kE.fr fu⟩
  clear kA kE
  go_loopw [5, 9] (fun v i wr => ∃ q : Nat, q ≤ S ∧ i = .int .i64 q ∧ v = .int .u8 (Z q : Nat) ∧ Fr W wr) (fun _ i _ => S - (intOf i).toNat)
  case atStart => exact ⟨0, Nat.zero_le _, rfl, by rw [H0.out]; exact rfl, Fr.refl _⟩
  case round =>
    obtain ⟨q, hq, rfl, rfl, hF⟩ := hrel
    by_cases hlt : q < S
    · have hqi : (q : Int) < S := by omega
      have hw1 : IntKind.i64.wrap (l + (q : Int)) = l + q := by rw [IntKind.wrap_i64]; omega
      have HT : Hid (Z (q + 1) = if cv (l + q) = true then Z q ||| 2 ^ q else Z q) := HSU.out q
      have c1 := cC (l + q) wr (fW.trans hF)
      have ho : Hid (cv (l + q) = true → bits .or .u8 ((Z q : Nat) : Int) ((2 : Int) ^ q % 256) = ((Z (q + 1) : Nat) : Int)) := HOR.out q (by omega)
      obtain ⟨V, hV⟩ : ∃ V, V = cv (l + q) := ⟨_, rfl⟩
      rw [← hV] at HT ho
      simp only [← hV] at c1
      clear hV
      obtain ⟨⟨a0, a1, a2, a3, a4, a5, a6, a7⟩, b0, b1, b2, b3, b4, b5, b6, b7⟩ := HQ.out wr hF
      simp only at a0 a1 a2 a3 a4 a5 a6 a7 b0 b1 b2 b3 b4 b5 b6 b7
      cases V
      · have HT : Hid (Z (q + 1) = Z q) := by rw [HT.out]; exact if_neg (by simp)
        go_wp2_with fail
        refine c1.mono ?_
        rintro y u1 ⟨rfl, g1⟩
        go_wp2_with fail
        go_roundw
        case rel => exact ⟨q + 1, by omega, by go_num, by rw [HT.out], hF.trans g1⟩
        case measure => simp [intOf] <;> omega
      · have ho : Hid (bits .or .u8 ((Z q : Nat) : Int) ((2 : Int) ^ q % 256) = ((Z (q + 1) : Nat) : Int)) := ho.out rfl
        go_wp2_with fail
        refine c1.mono ?_
        rintro y u1 ⟨rfl, g1⟩
        go_wp2_with fail
        go_roundw
        case rel => exact ⟨q + 1, by omega, by go_num, by rw [← ho.out]; exact trivial, hF.trans g1⟩
        case measure => simp [intOf] <;> omega
    · have e : q = S := by omega
      subst e
      go_wp2_with fail
      go_ret
      exact ⟨rfl, fW.trans hF⟩
end Go.Proofs.YtcofhmikdkkigaaGreatDoor
namespace Go.Proofs.YtcofhmikdkkigaaGreatDoor
open Go.RowKit

set_option maxHeartbeats 1000000 in
theorem race_any (i L : Int) (e : Ev) (w : World) :
    Calls Tryz.prog 132 #[.int .i64 i, .agg #[.int .i64 e.k, .int .i64 e.g, .int .i64 e.o, .int .i64 e.w, .int .i64 e.l, .int .i64 e.s, .int .i64 e.f, .int .i64 e.t], .int .u8 L] w fun y w' => y = .returned (.int .u8 L) ∧ Fr w w' := by
  obtain ⟨k, g, o, wi, l, sz, f, t⟩ := e
  simp only
  go_enter Tryz.func132, Tryz.ntmps132
  go_wp2_with fail
  go_ret
  exact ⟨rfl, Fr.alloc _ _⟩

structure Sv8 (tb wb rb : Nat) (lo : Option Addr) (m lc : Nat) (Wn : Nat) (Rn : Nat → Nat) (w : World) : Prop where
  tv : w.heap[tb]? = some (.cells #[.slice lo m lc] 44 (0, 0))
  wv : w.heap[wb]? = some (.cells #[.int .u8 (Wn : Int)] 164 (0, 0))
  rr : RowAt w rb 165
  rc : ∀ q, q < 16 → w.cell? ⟨rb, q, none⟩ = some (.int .u8 (Rn q : Int))
  n1 : tb ≠ wb
  n2 : tb ≠ rb
  n3 : wb ≠ rb
theorem blk_keep {w w' : World} {b : Nat} {o : Obj} {row : Option Nat} (h : w.heap[b]? = some o) (k : w.grownBy w' row) (hne : row ≠ some b) : w'.heap[b]? = some o :=
  (k.block b (Array.getElem?_eq_some_iff.1 h).1 (fun q => hne q.symm)).trans h
theorem rowKeep8 {w w' : World} {g : Nat} {T : TypeId} {row : Option Nat} (h : RowAt w g T) (k : w.grownBy w' row) (hne : row ≠ some g) : RowAt w' g T := by
  obtain ⟨cur, hc⟩ := h
  exact ⟨cur, blk_keep hc k hne⟩
theorem rowLt8 {w : World} {g : Nat} {T : TypeId} (h : RowAt w g T) : g < w.heap.size := by
  obtain ⟨cur, hc⟩ := h
  exact (Array.getElem?_eq_some_iff.1 hc).1
theorem Sv8.keep {tb wb rb m lc Wn : Nat} {lo : Option Addr} {Rn : Nat → Nat} {w w' : World} {row : Option Nat} (h : Sv8 tb wb rb lo m lc Wn Rn w) (k : w.grownBy w' row) (h1 : row ≠ some tb) (h2 : row ≠ some wb) (h3 : row ≠ some rb) : Sv8 tb wb rb lo m lc Wn Rn w' :=
  ⟨blk_keep h.tv k h1, blk_keep h.wv k h2, rowKeep8 h.rr k h3, fun q hq => k.cell (h.rc q hq) (fun e => h3 e.symm), h.n1, h.n2, h.n3⟩
theorem Sv8.fr {tb wb rb m lc Wn : Nat} {lo : Option Addr} {Rn : Nat → Nat} {w w' : World} (h : Sv8 tb wb rb lo m lc Wn Rn w) (k : Fr w w') : Sv8 tb wb rb lo m lc Wn Rn w' := h.keep k (by simp) (by simp) (by simp)
theorem Sv8.setW {tb wb rb m lc Wn : Nat} {lo : Option Addr} {Rn : Nat → Nat} {w : World} (h : Sv8 tb wb rb lo m lc Wn Rn w) (x : Nat) : Sv8 tb wb rb lo m lc x Rn (w.setCell ⟨wb, 0, none⟩ (.int .u8 (x : Int))) := by
  have k := grown_set w wb 0 (.int .u8 (x : Int))
  exact ⟨blk_keep h.tv k (fun e => h.n1 (Option.some.inj e).symm), heap_setCell_same w wb 0 _ _ _ h.wv, rowKeep8 h.rr k (fun e => h.n3 (Option.some.inj e)), fun q hq => k.cell (h.rc q hq) (fun e => h.n3 (Option.some.inj e).symm), h.n1, h.n2, h.n3⟩
theorem Sv8.setR {tb wb rb m lc Wn : Nat} {lo : Option Addr} {Rn : Nat → Nat} {w : World} (h : Sv8 tb wb rb lo m lc Wn Rn w) (G x : Nat) (hG : G < 16) : Sv8 tb wb rb lo m lc Wn (fun q => if q = G then x else Rn q) (w.setCell ⟨rb, G, none⟩ (.int .u8 (x : Int))) := by
  have k := grown_set w rb G (.int .u8 (x : Int))
  refine ⟨blk_keep h.tv k (fun e => h.n2 (Option.some.inj e).symm), blk_keep h.wv k (fun e => h.n3 (Option.some.inj e).symm), h.rr.set _ _, fun q hq => ?_, h.n1, h.n2, h.n3⟩
  have hc := h.rc q hq
  by_cases e : q = G
  · subst e
    rw [if_pos rfl]
    simp [go_sem, hc]
  · rw [if_neg e]
    have : ¬ (G = q) := fun z => e z.symm
    have ho := World.cell?_setCell_other (w := w) (a := ⟨rb, G, none⟩) (b := ⟨rb, q, none⟩) (v := .int .u8 (x : Int)) (fun z => this (by cases z; rfl))
    exact ho.trans hc

def wrN (e : Ev) (Wn L : Nat) : Nat := if e.k = 21 then Wn ||| L else Wn
def rdN8 (e : Ev) (seen : Bool) (Rn : Nat → Nat) (L : Nat) : Nat → Nat := if e.k = 20 ∧ seen = true then fun q => if q = e.g.toNat then Rn q ||| L else Rn q else Rn
def lfN (e : Ev) (seen : Bool) (Wn : Nat) (Rn : Nat → Nat) (L : Nat) : Nat :=
  if seen = true then (if e.k = 20 then (L &&& (255 - Wn)) &&& (255 - Rn e.g.toNat) else L &&& (255 - Wn)) else 0
theorem and_lt256 {a : Nat} (b : Nat) (h : a < 256) : a &&& b < 256 := Nat.lt_of_le_of_lt Nat.and_le_left h

set_option maxRecDepth 20000 in
set_option maxHeartbeats 4000000 in
theorem short_core (tb wb rb : Nat) (lo : Option Addr) (m lc : Nat) (Wn : Nat) (Rn : Nat → Nat) (lk : List Bool) (p L : Nat) (e : Ev) (seen : Bool) (w : World)
    (hS : Sv8 tb wb rb lo m lc Wn Rn w) (hm : lk.length = m) (hm2 : m ≤ 16777216) (hL : ReadsG layBo w lo lk) (hseen : seen = lk.getD p false) (_hp : p ≤ 300) (hL8 : L < 256) (hW8 : Wn < 256) (hR8 : ∀ q, Rn q < 256) (hg : e.k = 20 → 0 ≤ e.g ∧ e.g ≤ 15) :
    Calls Tryz.prog 133 #[.int .i64 (p : Int), .agg #[.int .i64 e.k, .int .i64 e.g, .int .i64 e.o, .int .i64 e.w, .int .i64 e.l, .int .i64 e.s, .int .i64 e.f, .int .i64 e.t], .int .u8 (L : Int), .pointer (some ⟨tb, 0, none⟩), .pointer (some ⟨wb, 0, none⟩), .pointer (some ⟨rb, 0, none⟩)] w
      fun y w' => y = .returned (.int .u8 ((lfN e seen Wn Rn L : Nat) : Int)) ∧ Sv8 tb wb rb lo m lc (wrN e Wn L) (rdN8 e seen Rn L) w' ∧ FrS (fun b => b = wb ∨ b = rb) w w' := by
  have f1 := Fr.alloc w (.cells #[.int .i64 e.k, .int .i64 e.g, .int .i64 e.o, .int .i64 e.w, .int .i64 e.l, .int .i64 e.s, .int .i64 e.f, .int .i64 e.t] 31)
  have kE := EvAt.new w e 31
  have hS1 := hS.fr f1
  have hL1 := hL.fr f1
  have hlt := (Array.getElem?_eq_some_iff.1 hS.wv).1
  have hltr := rowLt8 hS.rr
  have w1 := wrN e Wn L
  have a1 : bits .andNot .u8 (L : Int) (Wn : Int) = ((L &&& (255 - Wn) : Nat) : Int) := u8_andNot_nat L Wn hL8 hW8
  have a2 : bits .or .u8 (Wn : Int) (L : Int) = ((Wn ||| L : Nat) : Int) := u8_or_nat Wn L hW8 hL8
  have a3 := fun G => u8_andNot_nat (L &&& (255 - Wn)) (Rn G) (and_lt256 _ hL8) (hR8 G)
  have a4 := fun G => u8_or_nat (Rn G) L (hR8 G) hL8
  have hne1 : ¬ (w.heap.size = tb) := by have := (Array.getElem?_eq_some_iff.1 hS.tv).1; omega
  have hne2 : ¬ (w.heap.size = wb) := by omega
  have hne3 : ¬ (w.heap.size = rb) := by omega
  have n1 := hS.n1
  have n2 := hS.n2
  have n3 := hS.n3
  have fS : FrS (fun b => b = wb ∨ b = rb) w (w.alloc (.cells #[.int .i64 e.k, .int .i64 e.g, .int .i64 e.o, .int .i64 e.w, .int .i64 e.l, .int .i64 e.s, .int .i64 e.f, .int .i64 e.t] 31)) := ⟨f1.os, f1.tape, f1.output, f1.size, fun b hb _ => f1.block b hb (by simp)⟩
  have hthru : ∀ b v, (b = wb ∨ b = rb) → ∀ W, FrS (fun b => b = wb ∨ b = rb) w W → ∀ o, FrS (fun b => b = wb ∨ b = rb) w (W.setCell ⟨b, o, none⟩ v) := fun b v hb W F o => by
    have k := grown_set W b o v
    exact ⟨k.os.trans F.os, k.tape.trans F.tape, k.output.trans F.output, Nat.le_trans F.size k.size, fun i hi hn => (k.block i (Nat.lt_of_lt_of_le hi F.size) (fun q => hn (by cases q; exact hb))).trans (F.block i hi hn)⟩
  have hal : ∀ W E, FrS (fun b => b = wb ∨ b = rb) w W → FrS (fun b => b = wb ∨ b = rb) w (W.alloc E) := fun W E F => by
    have k := Fr.alloc W E
    exact ⟨k.os.trans F.os, k.tape.trans F.tape, k.output.trans F.output, Nat.le_trans F.size k.size, fun i hi hn => (k.block i (Nat.lt_of_lt_of_le hi F.size) (by simp)).trans (F.block i hi hn)⟩
  have hsee : (p < m ∧ ∃ b off, lo = some ⟨b, off, none⟩ ∧ (w.alloc (.cells #[.int .i64 e.k, .int .i64 e.g, .int .i64 e.o, .int .i64 e.w, .int .i64 e.l, .int .i64 e.s, .int .i64 e.f, .int .i64 e.t] 31)).cell? ⟨b, off + p, none⟩ = some (.bool seen)) ∨ (¬ (p < m) ∧ seen = false) := by
    by_cases hpm : p < m
    · left
      obtain ⟨b, off, e1, hc⟩ := bo_cell hL1 (k := p) (by omega)
      rw [← hseen] at hc
      exact ⟨hpm, b, off, e1, hc⟩
    · right
      refine ⟨hpm, ?_⟩
      rw [hseen, List.getD_eq_getElem?_getD, List.getElem?_eq_none (by omega)]
      rfl
  have tv1 : (w.alloc (.cells #[.int .i64 e.k, .int .i64 e.g, .int .i64 e.o, .int .i64 e.w, .int .i64 e.l, .int .i64 e.s, .int .i64 e.f, .int .i64 e.t] 31)).cell? ⟨tb, 0, none⟩ = some (.slice lo m lc) := cell_of_row _ _ 0 _ _ _ hS1.tv
  have wv1 : (w.alloc (.cells #[.int .i64 e.k, .int .i64 e.g, .int .i64 e.o, .int .i64 e.w, .int .i64 e.l, .int .i64 e.s, .int .i64 e.f, .int .i64 e.t] 31)).cell? ⟨wb, 0, none⟩ = some (.int .u8 (Wn : Int)) := cell_of_row _ _ 0 _ _ _ hS1.wv
  have wf1 : (w.alloc (.cells #[.int .i64 e.k, .int .i64 e.g, .int .i64 e.o, .int .i64 e.w, .int .i64 e.l, .int .i64 e.s, .int .i64 e.f, .int .i64 e.t] 31)).frozen? ⟨wb, 0, none⟩ = false := frozen_of_row _ wb 0 _ _ hS1.wv
  have rf1 := fun q => hS1.rr.free q
  have rc1 := hS1.rc
  clear hseen hL hL1 f1
  have hmI : (m : Int) ≤ 16777216 := by omega
  obtain ⟨k, g, o, wi, l, sz, f, t⟩ := e
  simp only at kE hg hS1 fS hsee tv1 wv1 wf1 rf1 rc1
  obtain ⟨W, hW⟩ : ∃ W, W = w.alloc (.cells #[.int .i64 k, .int .i64 g, .int .i64 o, .int .i64 wi, .int .i64 l, .int .i64 sz, .int .i64 f, .int .i64 t] 31) := ⟨_, rfl⟩
  have hcase : k = 21 ∨ k = 20 ∨ (k ≠ 21 ∧ k ≠ 20) := by omega
  obtain ⟨y0, y1, y2, y3, y4, y5, y6, y7⟩ := kE
  simp only at y0 y1 y2 y3 y4 y5 y6 y7
  rcases hcase with rfl | rfl | ⟨hk1, hk2⟩
  · clear hg a3 a4 rc1 rf1
    rcases hsee with ⟨hpm, b, off, rfl, hc⟩ | ⟨hpm, rfl⟩
    · have hpi : (p : Int) < (m : Int) := by omega
      have hdp : decide ((p : Int) < (m : Int)) = true := decide_eq_true hpi
      cases seen
      · go_enter Tryz.func133, Tryz.ntmps133
        go_wp2_with fail
        go_ret
        refine ⟨by simp [lfN], ?_, hal _ _ (hthru wb _ (.inl rfl) _ (FrS.refl _ w) 0)⟩
        have hz := (hS.setW (Wn ||| L)).fr (Fr.alloc _ (.cells #[.int .i64 21, .int .i64 g, .int .i64 o, .int .i64 wi, .int .i64 l, .int .i64 sz, .int .i64 f, .int .i64 t] 31))
        have e1 : wrN ⟨21, g, o, wi, l, sz, f, t⟩ Wn L = Wn ||| L := by simp [wrN]
        have e2 : rdN8 ⟨21, g, o, wi, l, sz, f, t⟩ false Rn L = Rn := by simp [rdN8]
        rw [e1, e2]
        exact hz
      · go_enter Tryz.func133, Tryz.ntmps133
        go_wp2_with fail
        go_ret
        refine ⟨by simp [lfN], ?_, hal _ _ (hthru wb _ (.inl rfl) _ (FrS.refl _ w) 0)⟩
        have hz := (hS.setW (Wn ||| L)).fr (Fr.alloc _ (.cells #[.int .i64 21, .int .i64 g, .int .i64 o, .int .i64 wi, .int .i64 l, .int .i64 sz, .int .i64 f, .int .i64 t] 31))
        have e1 : wrN ⟨21, g, o, wi, l, sz, f, t⟩ Wn L = Wn ||| L := by simp [wrN]
        have e2 : rdN8 ⟨21, g, o, wi, l, sz, f, t⟩ true Rn L = Rn := by simp [rdN8]
        rw [e1, e2]
        exact hz
    · have hpi : ¬ (p : Int) < (m : Int) := by omega
      have hdp : decide ((p : Int) < (m : Int)) = false := decide_eq_false hpi
      go_enter Tryz.func133, Tryz.ntmps133
      go_wp2_with fail
      go_ret
      refine ⟨by simp [lfN], ?_, hal _ _ (hthru wb _ (.inl rfl) _ (FrS.refl _ w) 0)⟩
      have hz := (hS.setW (Wn ||| L)).fr (Fr.alloc _ (.cells #[.int .i64 21, .int .i64 g, .int .i64 o, .int .i64 wi, .int .i64 l, .int .i64 sz, .int .i64 f, .int .i64 t] 31))
      have e1 : wrN ⟨21, g, o, wi, l, sz, f, t⟩ Wn L = Wn ||| L := by simp [wrN]
      have e2 : rdN8 ⟨21, g, o, wi, l, sz, f, t⟩ false Rn L = Rn := by simp [rdN8]
      rw [e1, e2]
      exact hz
  · obtain ⟨hg0, hg1⟩ := hg rfl
    obtain ⟨G, rfl⟩ : ∃ G : Nat, g = (G : Int) := ⟨g.toNat, by omega⟩
    have hG : G < 16 := by omega
    have rc1 := rc1 G hG
    have rf1 := rf1 G
    have a3 := a3 G
    have a4 := a4 G
    clear hg0 hg1
    rcases hsee with ⟨hpm, b, off, rfl, hc⟩ | ⟨hpm, rfl⟩
    · have hpi : (p : Int) < (m : Int) := by omega
      have hdp : decide ((p : Int) < (m : Int)) = true := decide_eq_true hpi
      cases seen
      · go_enter Tryz.func133, Tryz.ntmps133
        go_wp2_with fail
        go_ret
        exact ⟨by simp [lfN], by simpa [wrN, rdN8] using hS1, fS⟩
      · go_enter Tryz.func133, Tryz.ntmps133
        go_wp2_with fail
        go_ret
        refine ⟨by simp [lfN], ?_, hal _ _ (hthru rb _ (.inr rfl) _ (FrS.refl _ w) G)⟩
        have hz := (hS.setR G (Rn G ||| L) hG).fr (Fr.alloc _ (.cells #[.int .i64 20, .int .i64 (G : Int), .int .i64 o, .int .i64 wi, .int .i64 l, .int .i64 sz, .int .i64 f, .int .i64 t] 31))
        have e1 : wrN ⟨20, (G : Int), o, wi, l, sz, f, t⟩ Wn L = Wn := by simp [wrN]
        have e2 : rdN8 ⟨20, (G : Int), o, wi, l, sz, f, t⟩ true Rn L = fun q => if q = G then Rn G ||| L else Rn q := by
          funext q
          simp only [rdN8, and_self, if_true, Int.toNat_natCast]
          by_cases e : q = G
          · subst e; rfl
          · rw [if_neg e, if_neg e]
        rw [e1, e2]
        exact hz
    · have hpi : ¬ (p : Int) < (m : Int) := by omega
      have hdp : decide ((p : Int) < (m : Int)) = false := decide_eq_false hpi
      go_enter Tryz.func133, Tryz.ntmps133
      go_wp2_with fail
      go_ret
      exact ⟨by simp [lfN], by simpa [wrN, rdN8] using hS1, fS⟩
  · have hb1 : (k == 21) = false := by simpa using hk1
    have hb2 : (k == 20) = false := by simpa using hk2
    clear hg a3 a4 rc1 rf1
    rcases hsee with ⟨hpm, b, off, rfl, hc⟩ | ⟨hpm, rfl⟩
    · have hpi : (p : Int) < (m : Int) := by omega
      have hdp : decide ((p : Int) < (m : Int)) = true := decide_eq_true hpi
      cases seen
      · go_enter Tryz.func133, Tryz.ntmps133
        go_wp2_with fail
        go_ret
        exact ⟨by simp [lfN], by simpa [wrN, rdN8, hk1, hk2] using hS1, fS⟩
      · go_enter Tryz.func133, Tryz.ntmps133
        go_wp2_with fail
        go_ret
        exact ⟨by simp [lfN, hk2], by simpa [wrN, rdN8, hk1, hk2] using hS1, fS⟩
    · have hpi : ¬ (p : Int) < (m : Int) := by omega
      have hdp : decide ((p : Int) < (m : Int)) = false := decide_eq_false hpi
      go_enter Tryz.func133, Tryz.ntmps133
      go_wp2_with fail
      go_ret
      exact ⟨by simp [lfN], by simpa [wrN, rdN8, hk1, hk2] using hS1, fS⟩
end Go.Proofs.YtcofhmikdkkigaaGreatDoor
namespace Go.Proofs.YtcofhmikdkkigaaGreatDoor
open Go.RowKit

set_option maxHeartbeats 1000000 in
theorem shortSieve_any (lo : Option Addr) (m lc : Nat) (w : World) :
    Calls Tryz.prog 77 #[.slice lo m lc] w fun x w' => ∃ tb wb rb, x = .returned (.func (.func 133) #[] #[.pointer (some ⟨tb, 0, none⟩), .pointer (some ⟨wb, 0, none⟩), .pointer (some ⟨rb, 0, none⟩)]) ∧ Sv8 tb wb rb lo m lc 0 (fun _ => 0) w' ∧ w.heap.size ≤ tb ∧ tb < w'.heap.size ∧ w.heap.size ≤ wb ∧ wb < w'.heap.size ∧ w.heap.size ≤ rb ∧ rb < w'.heap.size ∧ Fr w w' := by
  have k1 := heap_alloc_new w (.cells #[.slice lo m lc] 44)
  have f2 := Fr.alloc (w.alloc (.cells #[.slice lo m lc] 44)) (.cells #[.int .u8 0] 164)
  have k2 := heap_alloc_new (w.alloc (.cells #[.slice lo m lc] 44)) (.cells #[.int .u8 0] 164)
  have f3 := Fr.alloc ((w.alloc (.cells #[.slice lo m lc] 44)).alloc (.cells #[.int .u8 0] 164)) (.cells #[.int .u8 0, .int .u8 0, .int .u8 0, .int .u8 0, .int .u8 0, .int .u8 0, .int .u8 0, .int .u8 0, .int .u8 0, .int .u8 0, .int .u8 0, .int .u8 0, .int .u8 0, .int .u8 0, .int .u8 0, .int .u8 0] 165)
  have k3 := heap_alloc_new ((w.alloc (.cells #[.slice lo m lc] 44)).alloc (.cells #[.int .u8 0] 164)) (.cells #[.int .u8 0, .int .u8 0, .int .u8 0, .int .u8 0, .int .u8 0, .int .u8 0, .int .u8 0, .int .u8 0, .int .u8 0, .int .u8 0, .int .u8 0, .int .u8 0, .int .u8 0, .int .u8 0, .int .u8 0, .int .u8 0] 165)
  simp only [World.size_alloc] at k2 k3
  have k1 := blk_keep (blk_keep k1 f2 (by simp)) f3 (by simp)
  have k2 := blk_keep k2 f3 (by simp)
  go_enter Tryz.func77, Tryz.ntmps77
  go_wp2_with fail
  go_ret
  refine ⟨w.heap.size, w.heap.size + 1, w.heap.size + 1 + 1, rfl, ⟨k1, k2, ⟨_, k3⟩, fun q hq => ?_, by omega, by omega, by omega⟩, by omega, by simp; omega, by omega, by simp, by omega, by simp, ((Fr.alloc _ _).trans f2).trans f3⟩
  rw [cell_of_row _ _ _ _ _ _ k3]
  have : q = 0 ∨ q = 1 ∨ q = 2 ∨ q = 3 ∨ q = 4 ∨ q = 5 ∨ q = 6 ∨ q = 7 ∨ q = 8 ∨ q = 9 ∨ q = 10 ∨ q = 11 ∨ q = 12 ∨ q = 13 ∨ q = 14 ∨ q = 15 := by omega
  rcases this with rfl | rfl | rfl | rfl | rfl | rfl | rfl | rfl | rfl | rfl | rfl | rfl | rfl | rfl | rfl | rfl <;> rfl
end Go.Proofs.YtcofhmikdkkigaaGreatDoor
namespace Go.Proofs.YtcofhmikdkkigaaGreatDoor
open Go.RowKit

theorem setOf_congr {f g : Nat → Bool} {n : Nat} (h : ∀ i, i < n → f i = g i) : setOf f n = setOf g n := by
  apply Nat.eq_of_testBit_eq
  intro i
  rw [setOf_bit, setOf_bit]
  by_cases hi : i < n
  · rw [h i hi]
  · rw [decide_eq_false hi]
    rfl

def szJ (es : List Ev) (j : Nat) : Nat := (evA es j).s.toNat
def lasN (es : List Ev) (j p : Nat) : Nat := setOf (fun n => shB es j p n && !gonP es j (p + 1) n) (szJ es j)
def gonN (es : List Ev) (j p : Nat) : Nat := setOf (gonP es j p) (szJ es j)
def wriN (es : List Ev) (j p : Nat) : Nat := setOf (wriP es j p) (szJ es j)
def reaN (es : List Ev) (lk : List Bool) (j p : Nat) : Nat → Nat := fun q => setOf (reaP es lk j p (q : Int)) (szJ es j)
def lefN (es : List Ev) (lk : List Bool) (near : Bool) (j p : Nat) : Nat := setOf (leftB es lk near j p) (szJ es j)

theorem gonN_top (es : List Ev) (j : Nat) : gonN es j j = 0 := by
  unfold gonN
  rw [setOf_zero, List.any_eq_false]
  intro i _
  rw [gonP_top]
  simp
theorem wriN_top (es : List Ev) (j : Nat) : wriN es j j = 0 := by
  unfold wriN
  rw [setOf_zero, List.any_eq_false]
  intro i _
  rw [wriP_top]
  simp
theorem reaN_top (es : List Ev) (lk : List Bool) (j q : Nat) : reaN es lk j j q = 0 := by
  unfold reaN
  rw [setOf_zero, List.any_eq_false]
  intro i _
  rw [reaP_top]
  simp
theorem gonN_fresh {es : List Ev} {j p : Nat} (h : p < j) (hk : (evA es p).k = 22) : gonN es j p = gonN es j (p + 1) ||| setOf (shB es j p) (szJ es j) := by
  unfold gonN
  rw [setOf_or]
  refine setOf_congr fun n _ => ?_
  rw [gonP_step h, hk]
  simp [Bool.or_comm]
theorem gonN_other {es : List Ev} {j p : Nat} (h : p < j) (hk : (evA es p).k ≠ 22) : gonN es j p = gonN es j (p + 1) := by
  unfold gonN
  refine setOf_congr fun n _ => ?_
  have : ((evA es p).k == 22) = false := by simpa using hk
  rw [gonP_step h, this]
  simp
theorem wriN_fresh {es : List Ev} {j p : Nat} (h : p < j) (hk : (evA es p).k = 22) : wriN es j p = wriN es j (p + 1) := by
  unfold wriN
  refine setOf_congr fun n _ => ?_
  rw [wriP_step h, hk]
  simp
theorem reaN_fresh {es : List Ev} {lk : List Bool} {j p : Nat} (h : p < j) (hk : (evA es p).k = 22) : reaN es lk j p = reaN es lk j (p + 1) := by
  funext q
  unfold reaN
  refine setOf_congr fun n _ => ?_
  rw [reaP_step h, hk]
  simp
theorem lasN_less {es : List Ev} {j p : Nat} (h8 : szJ es j ≤ 8) : setOf (shB es j p) (szJ es j) &&& (255 - gonN es j (p + 1)) = lasN es j p := by
  unfold gonN lasN
  rw [setOf_less _ _ h8]
theorem wrN_step {es : List Ev} {j p : Nat} (h : p < j) : wrN (evA es p) (wriN es j (p + 1)) (lasN es j p) = wriN es j p := by
  unfold wrN
  by_cases hk : (evA es p).k = 21
  · rw [if_pos hk]
    unfold wriN lasN
    rw [setOf_or]
    refine setOf_congr fun n _ => ?_
    rw [wriP_step h, hk]
    simp [Bool.or_comm]
  · rw [if_neg hk]
    unfold wriN
    refine setOf_congr fun n _ => ?_
    have : ((evA es p).k == 21) = false := by simpa using hk
    rw [wriP_step h, this]
    simp
theorem rdN_step {es : List Ev} {lk : List Bool} {j p : Nat} (h : p < j) (hg : (evA es p).k = 20 → 0 ≤ (evA es p).g) : rdN8 (evA es p) (lk.getD p false) (reaN es lk j (p + 1)) (lasN es j p) = reaN es lk j p := by
  funext q
  unfold rdN8
  by_cases hk : (evA es p).k = 20 ∧ lk.getD p false = true
  · rw [if_pos hk]
    have h0 := hg hk.1
    show (if q = (evA es p).g.toNat then reaN es lk j (p + 1) q ||| lasN es j p else reaN es lk j (p + 1) q) = _
    by_cases hq : q = (evA es p).g.toNat
    · rw [if_pos hq]
      unfold reaN lasN
      rw [setOf_or]
      refine setOf_congr fun n _ => ?_
      have e : ((evA es p).g == (q : Int)) = true := by rw [beq_iff_eq]; omega
      rw [reaP_step h, hk.1, hk.2, e]
      simp [Bool.or_comm]
    · rw [if_neg hq]
      unfold reaN
      refine setOf_congr fun n _ => ?_
      have e : ((evA es p).g == (q : Int)) = false := by rw [beq_eq_false_iff_ne]; omega
      rw [reaP_step h, e]
      simp
  · rw [if_neg hk]
    unfold reaN
    refine setOf_congr fun n _ => ?_
    have e : ((evA es p).k == 20 && (evA es p).g == (q : Int) && lk.getD p false) = false := by
      rw [Bool.eq_false_iff]
      intro z
      simp only [Bool.and_eq_true, beq_iff_eq] at z
      exact hk ⟨z.1.1, z.2⟩
    rw [reaP_step h, e]
    simp
theorem lfN_left {es : List Ev} {lk : List Bool} {j p : Nat} (h8 : szJ es j ≤ 8) (hg : (evA es p).k = 20 → 0 ≤ (evA es p).g) : lfN (evA es p) (lk.getD p false) (wriN es j (p + 1)) (reaN es lk j (p + 1)) (lasN es j p) = if lk.getD p false = true then lefN es lk true j p else 0 := by
  unfold lfN
  by_cases hs : lk.getD p false = true
  · rw [if_pos hs, if_pos hs]
    by_cases hk : (evA es p).k = 20
    · rw [if_pos hk]
      have h0 := hg hk
      unfold lasN wriN reaN lefN
      rw [setOf_less _ _ h8, setOf_less _ _ h8]
      refine setOf_congr fun n _ => ?_
      have e : (((evA es p).g.toNat : Nat) : Int) = (evA es p).g := by omega
      unfold leftB
      rw [e, hk]
      simp [Bool.and_assoc]
    · rw [if_neg hk]
      unfold lasN wriN lefN
      rw [setOf_less _ _ h8]
      refine setOf_congr fun n _ => ?_
      have : ((evA es p).k == 20) = false := by simpa using hk
      unfold leftB
      rw [this]
      simp [Bool.and_assoc]
  · rw [if_neg hs, if_neg hs]
theorem lef_all {es : List Ev} {lk : List Bool} {j p : Nat} : lefN es lk false j p = lasN es j p := by
  unfold lefN lasN
  refine setOf_congr fun n _ => ?_
  simp [leftB]

theorem pair_left {es : List Ev} {lk : List Bool} {near : Bool} {j p : Nat} (hc : claB (evA es p) (evA es j) = true) :
    pairB es lk near j p = (decide ((if near = true ∧ lk.getD p false = false then 0 else lefN es lk near j p) ≠ 0) && !(befN (eE es) j).testBit p) := by
  have hb : bytB es lk near j p = decide (lefN es lk near j p ≠ 0) := by
    rw [byt_left hc]
    unfold lefN
    have h := setOf_zero (leftB es lk near j p) (szJ es j)
    by_cases z : setOf (leftB es lk near j p) (szJ es j) = 0
    · have := h.1 z
      rw [z]
      simp only [szJ] at this
      rw [this]
      simp
    · have : ¬ ((List.range (szJ es j)).any (leftB es lk near j p) = false) := fun q => z (h.2 q)
      rw [decide_eq_true z]
      simp only [szJ] at this
      simpa using this
  unfold pairB
  rw [hc, hb]
  cases near
  · simp [Bool.and_comm]
  · cases hl : lk.getD p false
    · simp
    · simp [Bool.and_comm]
theorem pair_not {es : List Ev} {lk : List Bool} {near : Bool} {j p : Nat} (hc : claB (evA es p) (evA es j) = false) : pairB es lk near j p = false := by
  unfold pairB
  rw [hc]
  simp
theorem pair_fresh {es : List Ev} {lk : List Bool} {near : Bool} {j p : Nat} (hk : (evA es p).k = 22) : pairB es lk near j p = false := by
  refine pair_not ?_
  rw [Bool.eq_false_iff]
  intro h
  simp only [claB, accB, Bool.and_eq_true] at h
  have := h.1.1.1.1.1
  simp [hk] at this

noncomputable def dnP (es : List Ev) (lk : List Bool) (near : Bool) (j p : Nat) : List (Int × Int) := ((List.range j).filter fun i => decide (p ≤ i) && pairB es lk near j i).reverse.map fun i : Nat => ((i : Int), (j : Int))
theorem dnP_top (es : List Ev) (lk : List Bool) (near : Bool) (j : Nat) : dnP es lk near j j = [] := by
  unfold dnP
  have : ((List.range j).filter fun i => decide (j ≤ i) && pairB es lk near j i) = [] := by
    rw [List.filter_eq_nil_iff]
    intro i hi
    have := List.mem_range.1 hi
    rw [decide_eq_false (by omega)]
    simp
  rw [this]
  rfl
theorem range_split {j p : Nat} (h : p < j) : List.range j = List.range' 0 p ++ p :: List.range' (p + 1) (j - p - 1) := by
  rw [List.range_eq_range']
  have e : j = p + (1 + (j - p - 1)) := by omega
  conv => lhs; rw [e]
  rw [← List.range'_append_1, Nat.zero_add]
  congr 1
  rw [Nat.add_comm 1, List.range'_succ]
theorem dnP_step {es : List Ev} {lk : List Bool} {near : Bool} {j p : Nat} (h : p < j) : dnP es lk near j p = dnP es lk near j (p + 1) ++ (if pairB es lk near j p = true then [((p : Int), (j : Int))] else []) := by
  unfold dnP
  have e1 : ((List.range' 0 p).filter fun i => decide (p ≤ i) && pairB es lk near j i) = [] := by
    rw [List.filter_eq_nil_iff]
    intro i hi
    have := List.mem_range'_1.1 hi
    rw [decide_eq_false (by omega)]
    simp
  have e2 : ((List.range' 0 p).filter fun i => decide (p + 1 ≤ i) && pairB es lk near j i) = [] := by
    rw [List.filter_eq_nil_iff]
    intro i hi
    have := List.mem_range'_1.1 hi
    rw [decide_eq_false (by omega)]
    simp
  have e3 : ((List.range' (p + 1) (j - p - 1)).filter fun i => decide (p ≤ i) && pairB es lk near j i) = ((List.range' (p + 1) (j - p - 1)).filter fun i => decide (p + 1 ≤ i) && pairB es lk near j i) := by
    refine List.filter_congr fun i hi => ?_
    have := List.mem_range'_1.1 hi
    rw [decide_eq_true (show p ≤ i by omega), decide_eq_true (show p + 1 ≤ i by omega)]
  rw [range_split h, List.filter_append, List.filter_append, e1, e2, List.filter_cons, List.filter_cons, e3]
  have d1 : decide (p ≤ p) = true := by simp
  have d2 : decide (p + 1 ≤ p) = false := by simp
  rw [d1, d2]
  cases hb : pairB es lk near j p <;> simp
theorem dnP_zero (es : List Ev) (lk : List Bool) (near : Bool) (j : Nat) : (dnP es lk near j 0).reverse = pairsJ es lk near j := by
  unfold dnP pairsJ
  rw [← List.map_reverse, List.reverse_reverse]
  simp
theorem dnP_len (es : List Ev) (lk : List Bool) (near : Bool) (j p : Nat) : (dnP es lk near j p).length ≤ j := by
  unfold dnP
  rw [List.length_map, List.length_reverse]
  have := List.length_filter_le (fun i => decide (p ≤ i) && pairB es lk near j i) (List.range j)
  simpa using this
end Go.Proofs.YtcofhmikdkkigaaGreatDoor
