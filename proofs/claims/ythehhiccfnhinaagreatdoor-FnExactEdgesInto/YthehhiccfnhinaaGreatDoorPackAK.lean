/-
  A board that is a scene: what its maps hold, and that the program's ten questions make the specification's code.
-/
import Derived.Test.YthehhiccfnhinaaGreatDoorPackAF
import Derived.Test.YthehhiccfnhinaaGreatDoorPackAH
import Derived.Test.YthehhiccfnhinaaGreatDoorPackAI
import Derived.Test.YthehhiccfnhinaaGreatDoorPackAJ
import Derived.Test.YthehhiccfnhinaaGreatDoorPackAC
namespace Go.Proofs.YthehhiccfnhinaaGreatDoor
open Go.RowKit

/-- The lock's value that a map holds is the lock that is meant. -/
def LkAt (B : Nat → Prop) (w : World) (v : Option Value) (l : Option Lk) : Prop :=
  (l = none ∧ v = none) ∨ ∃ lk lv, l = some lk ∧ v = some (valL lv) ∧ LkR B w lv lk
theorem LkAt.keep {B : Nat → Prop} {w w' : World} {v : Option Value} {l : Option Lk} {row : Option Nat} (h : LkAt B w v l) (k : w.grownBy w' row) (hr : ∀ j, row = some j → ¬ B j) : LkAt B w' v l := by
  rcases h with h | ⟨lk, lv, h1, h2, h3⟩
  · exact .inl h
  · exact .inr ⟨lk, lv, h1, h2, h3.keep k hr⟩
theorem LkAt.mono {B B' : Nat → Prop} {w : World} {v : Option Value} {l : Option Lk} (h : LkAt B w v l) (hB : ∀ b, B b → B' b) : LkAt B' w v l := by
  rcases h with h | ⟨lk, lv, h1, h2, h3⟩
  · exact .inl h
  · exact .inr ⟨lk, lv, h1, h2, h3.mono hB⟩

/-- Block b is a board, and it is the scene m; its maps have at most n entries each. -/
structure BoardM (B : Nat → Prop) (w : World) (b b1 b2 b3 b4 n : Nat) (m : Scn) : Prop where
  c0 : w.cell? ⟨b, 0, none⟩ = some (.int .i64 m.g)
  c1 : w.cell? ⟨b, 1, none⟩ = some (.map (some b1))
  c2 : w.cell? ⟨b, 2, none⟩ = some (.map (some b2))
  c3 : w.cell? ⟨b, 3, none⟩ = some (.map (some b3))
  c4 : w.cell? ⟨b, 4, none⟩ = some (.map (some b4))
  m1 : ∃ fl, MapF w b1 n fl ∧ ∀ o, LkAt B w (fl o) (m.ls.find? fun l => l.o == o)
  m2 : MapF w b2 n fun o => (m.cs.find? fun c => c.o == o).map valC
  m3 : MapF w b3 n fun o => (m.gs.find? fun c => c.o == o).map valN
  m4 : MapF w b4 n fun o => (m.os.find? fun x => x == o).map valI
theorem MapF.mono {w : World} {b n n' : Nat} {f : Int → Option Value} (h : MapF w b n f) (hn : n ≤ n') : MapF w b n' f := by
  obtain ⟨D, h1, h2⟩ := h
  exact ⟨D, h1.mono hn, h2⟩
theorem BoardM.fr {B : Nat → Prop} {w w' : World} {b b1 b2 b3 b4 n : Nat} {m : Scn} (h : BoardM B w b b1 b2 b3 b4 n m) (k : Fr w w') : BoardM B w' b b1 b2 b3 b4 n m := by
  obtain ⟨fl, q1, q2⟩ := h.m1
  exact ⟨k.cell h.c0, k.cell h.c1, k.cell h.c2, k.cell h.c3, k.cell h.c4, ⟨fl, q1.fr k, fun o => (q2 o).keep k (by simp)⟩, h.m2.fr k, h.m3.fr k, h.m4.fr k⟩

theorem LksR.tail {B : Nat → Prop} {w : World} {lv : Lv} {l : Lk} {lvs : List Lv} {ls : List Lk} (h : LksR B w (lv :: lvs) (l :: ls)) : LkR B w lv l ∧ LksR B w lvs ls :=
  ⟨h.at_ 0 (by simp) (by simp), by have := h.len; simp at this; exact this, fun j h1 h2 => by have := h.at_ (j + 1) (by simp; omega) (by simp; omega); simpa using this⟩
theorem lk_find {B : Nat → Prop} {w : World} (o : Int) : ∀ (lvs : List Lv) (ls : List Lk), LksR B w lvs ls → LkAt B w ((lvs.find? fun l => l.o == o).map valL) (ls.find? fun l => l.o == o)
  | [], [], _ => .inl ⟨rfl, rfl⟩
  | [], _ :: _, h => by have := h.len; simp at this
  | _ :: _, [], h => by have := h.len; simp at this
  | lv :: lvs, l :: ls, h => by
    obtain ⟨h1, h2⟩ := h.tail
    have ih := lk_find o lvs ls h2
    rw [List.find?_cons, List.find?_cons, ← h1.o]
    cases hb : (lv.o == o)
    · exact ih
    · exact .inr ⟨l, lv, rfl, rfl, h1⟩
theorem lk_os {B : Nat → Prop} {w : World} : ∀ (lvs : List Lv) (ls : List Lk), LksR B w lvs ls → lvs.map Lv.o = ls.map Lk.o
  | [], [], _ => rfl
  | [], _ :: _, h => by have := h.len; simp at this
  | _ :: _, [], h => by have := h.len; simp at this
  | lv :: lvs, l :: ls, h => by
    obtain ⟨h1, h2⟩ := h.tail
    rw [List.map_cons, List.map_cons, h1.o, lk_os lvs ls h2]
theorem pair_map {α : Type} {num : α → Int} {xs : List α} (h : (xs.map num).Pairwise (· < ·)) : xs.Pairwise (fun a b => num a < num b) := List.pairwise_map.1 h
/-- What rises in a right scene. -/
theorem sc_rise {m : Scn} (h : scB m = true) : (m.ls.map Lk.o).Pairwise (· < ·) ∧ (m.cs.map Ch.o).Pairwise (· < ·) ∧ (m.gs.map Ct.o).Pairwise (· < ·) ∧ m.os.Pairwise (· < ·) := by
  obtain ⟨-, h1, h2, h3, h4⟩ := scB_parts h
  refine ⟨((rowB_iff _ _ _).1 h1).2, ((rowB_iff _ _ _).1 h2).2, ((rowB_iff _ _ _).1 h3).2, ?_⟩
  have := ((rowB_iff _ _ _).1 h4).2
  simpa using this

theorem boardM_of {B : Nat → Prop} {w : World} {b b1 b2 b3 b4 : Nat} {m : Scn} {lvs : List Lv} (hm : scB m = true) (hL : LksR B w lvs m.ls) (h1 : m.ls.length ≤ 1048576) (h2 : m.cs.length ≤ 1048576) (h3 : m.gs.length ≤ 1048576) (h4 : m.os.length ≤ 1048576)
    (h : Board w b m.g b1 b2 b3 b4 lvs.length m.cs.length m.gs.length m.os.length (numF Lv.o valL lvs) (numF Ch.o valC m.cs) (numF Ct.o valN m.gs) (numF id valI m.os)) : BoardM B w b b1 b2 b3 b4 1048576 m := by
  obtain ⟨r1, r2, r3, r4⟩ := sc_rise hm
  rw [← lk_os _ _ hL] at r1
  have e1 : numF Lv.o valL lvs = fun o => (lvs.find? fun l => l.o == o).map valL := funext fun o => numF_up _ _ _ o (pair_map r1)
  have e2 : numF Ch.o valC m.cs = fun o => (m.cs.find? fun l => l.o == o).map valC := funext fun o => numF_up _ _ _ o (pair_map r2)
  have e3 : numF Ct.o valN m.gs = fun o => (m.gs.find? fun l => l.o == o).map valN := funext fun o => numF_up _ _ _ o (pair_map r3)
  have e4 : numF id valI m.os = fun o => (m.os.find? fun l => l == o).map valI := funext fun o => numF_up _ _ _ o r4
  have q1 := h.m1
  have q2 := h.m2
  have q3 := h.m3
  have q4 := h.m4
  rw [e1] at q1
  rw [e2] at q2
  rw [e3] at q3
  rw [e4] at q4
  have hl := hL.len
  exact ⟨h.c0, h.c1, h.c2, h.c3, h.c4, ⟨_, q1.mono (by omega), fun o => lk_find o lvs m.ls hL⟩, q2.mono h2, q3.mono h3, q4.mono h4⟩

/-- What the maps answer. -/
def chanZ (m : Scn) (o : Int) : Ch := (m.cs.find? fun c => c.o == o).getD ⟨0, 0, 0, 0, false⟩
def countZ (m : Scn) (o : Int) : Ct := (m.gs.find? fun c => c.o == o).getD ⟨0, 0⟩
def lockZ (m : Scn) (o : Int) : Lk := (m.ls.find? fun c => c.o == o).getD ⟨0, 0, []⟩
def hasL (m : Scn) (o : Int) : Bool := (m.ls.find? fun c => c.o == o).isSome
def hasN (m : Scn) (o : Int) : Bool := (m.gs.find? fun c => c.o == o).isSome
def hasO (m : Scn) (o : Int) : Bool := (m.os.find? fun c => c == o).isSome

theorem zeroL (u : World) : (zeroValue 82).run Tryz.prog u = .ok (.agg #[.int .i64 0, .int .i64 0, .slice none 0 0]) u := by kernel_rfl
theorem zeroC (u : World) : (zeroValue 85).run Tryz.prog u = .ok (.agg #[.int .i64 0, .int .i64 0, .int .i64 0, .int .i64 0, .bool false]) u := by kernel_rfl
theorem zeroN (u : World) : (zeroValue 88).run Tryz.prog u = .ok (.agg #[.int .i64 0, .int .i64 0]) u := by kernel_rfl
theorem zeroI (u : World) : (zeroValue 2).run Tryz.prog u = .ok (.int .i64 0) u := by kernel_rfl

theorem BoardM.lookC {B : Nat → Prop} {w : World} {b b1 b2 b3 b4 n : Nat} {m : Scn} (h : BoardM B w b b1 b2 b3 b4 n m) {o : Int} (ho : I64 o) : ∀ u, Fr w u → (Instr.lookup 144 (.map (some b2)) (.int .i64 o) false).run Tryz.prog u = .ok (.agg #[.int .i64 (chanZ m o).o, .int .i64 (chanZ m o).cap, .int .i64 (chanZ m o).sent, .int .i64 (chanZ m o).got, .bool (chanZ m o).cl]) u := by
  intro u f
  rw [(h.m2.fr f).look Tryz.underlying144 (zeroC u) ho]
  unfold chanZ
  cases m.cs.find? (fun c => c.o == o) <;> rfl
theorem BoardM.lookC2 {B : Nat → Prop} {w : World} {b b1 b2 b3 b4 n : Nat} {m : Scn} (h : BoardM B w b b1 b2 b3 b4 n m) {o : Int} (ho : I64 o) : ∀ u, Fr w u → (Instr.lookup 144 (.map (some b2)) (.int .i64 o) true).run Tryz.prog u = .ok (.tuple #[.agg #[.int .i64 (chanZ m o).o, .int .i64 (chanZ m o).cap, .int .i64 (chanZ m o).sent, .int .i64 (chanZ m o).got, .bool (chanZ m o).cl], .bool (isChan m.cs o)]) u := by
  intro u f
  rw [(h.m2.fr f).look_ok Tryz.underlying144 (zeroC u) ho]
  unfold chanZ isChan
  cases m.cs.find? (fun c => c.o == o) <;> rfl
theorem BoardM.lookN2 {B : Nat → Prop} {w : World} {b b1 b2 b3 b4 n : Nat} {m : Scn} (h : BoardM B w b b1 b2 b3 b4 n m) {o : Int} (ho : I64 o) : ∀ u, Fr w u → (Instr.lookup 147 (.map (some b3)) (.int .i64 o) true).run Tryz.prog u = .ok (.tuple #[.agg #[.int .i64 (countZ m o).o, .int .i64 (countZ m o).n], .bool (hasN m o)]) u := by
  intro u f
  rw [(h.m3.fr f).look_ok Tryz.underlying147 (zeroN u) ho]
  unfold countZ hasN
  cases m.gs.find? (fun c => c.o == o) <;> rfl
theorem BoardM.lookN {B : Nat → Prop} {w : World} {b b1 b2 b3 b4 n : Nat} {m : Scn} (h : BoardM B w b b1 b2 b3 b4 n m) {o : Int} (ho : I64 o) : ∀ u, Fr w u → (Instr.lookup 147 (.map (some b3)) (.int .i64 o) false).run Tryz.prog u = .ok (.agg #[.int .i64 (countZ m o).o, .int .i64 (countZ m o).n]) u := by
  intro u f
  rw [(h.m3.fr f).look Tryz.underlying147 (zeroN u) ho]
  unfold countZ
  cases m.gs.find? (fun c => c.o == o) <;> rfl
theorem BoardM.lookO {B : Nat → Prop} {w : World} {b b1 b2 b3 b4 n : Nat} {m : Scn} (h : BoardM B w b b1 b2 b3 b4 n m) {o : Int} (ho : I64 o) : ∃ z : Int, ∀ u, Fr w u → (Instr.lookup 150 (.map (some b4)) (.int .i64 o) true).run Tryz.prog u = .ok (.tuple #[.int .i64 z, .bool (hasO m o)]) u := by
  refine ⟨(m.os.find? fun c => c == o).getD 0, fun u f => ?_⟩
  rw [(h.m4.fr f).look_ok Tryz.underlying150 (zeroI u) ho]
  unfold hasO
  cases m.os.find? (fun c => c == o) <;> rfl
/-- A lock: its value, whichever it is, reads as the lock that is meant. -/
theorem BoardM.lookL {B : Nat → Prop} {w : World} {b b1 b2 b3 b4 n : Nat} {m : Scn} (h : BoardM B w b b1 b2 b3 b4 n m) {o : Int} (ho : I64 o) : ∃ (lo : Int) (ro : Option Addr) (rn rc : Nat), (lockZ m o).rd.length = rn ∧ rn ≤ 1048576 ∧ Reads w ro (lockZ m o).rd ∧ (InB B ro ∧ (ro = none → rc = 0)) ∧
    (∀ u, Fr w u → (Instr.lookup 141 (.map (some b1)) (.int .i64 o) true).run Tryz.prog u = .ok (.tuple #[.agg #[.int .i64 lo, .int .i64 (lockZ m o).wr, .slice ro rn rc], .bool (hasL m o)]) u) ∧
    (∀ u, Fr w u → (Instr.lookup 141 (.map (some b1)) (.int .i64 o) false).run Tryz.prog u = .ok (.agg #[.int .i64 lo, .int .i64 (lockZ m o).wr, .slice ro rn rc]) u) := by
  obtain ⟨fl, q1, q2⟩ := h.m1
  rcases q2 o with ⟨h1, h2⟩ | ⟨lk, lv, h1, h2, h3⟩
  · refine ⟨0, none, 0, 0, by simp [lockZ, h1], by omega, by rw [lockZ, h1]; exact Reads.nil _ _, ⟨inB_none _, fun _ => rfl⟩, fun u f => ?_, fun u f => ?_⟩
    · rw [(q1.fr f).look_ok Tryz.underlying141 (zeroL u) ho, h2]
      simp [lockZ, hasL, h1]
    · rw [(q1.fr f).look Tryz.underlying141 (zeroL u) ho, h2]
      simp [lockZ, h1]
  · refine ⟨lv.o, lv.ro, lv.rn, lv.rc, by simp [lockZ, h1, h3.rn], by have := h3.rn; have := h3.sz; omega, by rw [lockZ, h1]; exact h3.rd, ⟨h3.bl, h3.rc⟩, fun u f => ?_, fun u f => ?_⟩
    · rw [(q1.fr f).look_ok Tryz.underlying141 (zeroL u) ho, h2]
      simp [lockZ, hasL, h1, valL, h3.wr]
    · rw [(q1.fr f).look Tryz.underlying141 (zeroL u) ho, h2]
      simp [lockZ, h1, valL, h3.wr]
end Go.Proofs.YthehhiccfnhinaaGreatDoor
/-
  codeFor: the program's code of an event on a board.
-/
namespace Go.Proofs.YthehhiccfnhinaaGreatDoor
open Go.RowKit

def codeC (B0 B1 B2 B3 B4 B5 B6 B7 B8 B9 : Bool) : Int := if B0 = false then 1 else if B1 = true then 2 else if B2 = true then 3 else if B3 = true then 4 else if B4 = true then 5 else if B5 = true then 6 else if B6 = true then 7 else if B7 = true then 8 else if B8 = true then 9 else if B9 = true then 10 else 0

set_option maxHeartbeats 2000000 in
theorem codeFor_any (b : Nat) (e : Ev) (w : World) (B0 B1 B2 B3 B4 B5 B6 B7 B8 B9 : Bool)
    (q0 : ∀ u, Fr w u → Calls Tryz.prog 126 #[.agg #[.int .i64 e.k, .int .i64 e.g, .int .i64 e.o, .int .i64 e.w, .int .i64 e.l, .int .i64 e.s, .int .i64 e.f, .int .i64 e.t]] u fun x w' => x = .returned (.bool B0) ∧ Fr u w')
    (q1 : Hid (B0 = true → ∀ u, Fr w u → Calls Tryz.prog 127 #[.pointer (some ⟨b, 0, none⟩), .agg #[.int .i64 e.k, .int .i64 e.g, .int .i64 e.o, .int .i64 e.w, .int .i64 e.l, .int .i64 e.s, .int .i64 e.f, .int .i64 e.t]] u fun x w' => x = .returned (.bool B1) ∧ Fr u w'))
    (q2 : Hid (B0 = true → ∀ u, Fr w u → Calls Tryz.prog 128 #[.pointer (some ⟨b, 0, none⟩), .agg #[.int .i64 e.k, .int .i64 e.g, .int .i64 e.o, .int .i64 e.w, .int .i64 e.l, .int .i64 e.s, .int .i64 e.f, .int .i64 e.t]] u fun x w' => x = .returned (.bool B2) ∧ Fr u w'))
    (q3 : Hid (B0 = true → ∀ u, Fr w u → Calls Tryz.prog 129 #[.pointer (some ⟨b, 0, none⟩), .agg #[.int .i64 e.k, .int .i64 e.g, .int .i64 e.o, .int .i64 e.w, .int .i64 e.l, .int .i64 e.s, .int .i64 e.f, .int .i64 e.t]] u fun x w' => x = .returned (.bool B3) ∧ Fr u w'))
    (q4 : Hid (B0 = true → ∀ u, Fr w u → Calls Tryz.prog 130 #[.pointer (some ⟨b, 0, none⟩), .agg #[.int .i64 e.k, .int .i64 e.g, .int .i64 e.o, .int .i64 e.w, .int .i64 e.l, .int .i64 e.s, .int .i64 e.f, .int .i64 e.t]] u fun x w' => x = .returned (.bool B4) ∧ Fr u w'))
    (q5 : Hid (B0 = true → ∀ u, Fr w u → Calls Tryz.prog 131 #[.pointer (some ⟨b, 0, none⟩), .agg #[.int .i64 e.k, .int .i64 e.g, .int .i64 e.o, .int .i64 e.w, .int .i64 e.l, .int .i64 e.s, .int .i64 e.f, .int .i64 e.t]] u fun x w' => x = .returned (.bool B5) ∧ Fr u w'))
    (q6 : Hid (B0 = true → ∀ u, Fr w u → Calls Tryz.prog 132 #[.pointer (some ⟨b, 0, none⟩), .agg #[.int .i64 e.k, .int .i64 e.g, .int .i64 e.o, .int .i64 e.w, .int .i64 e.l, .int .i64 e.s, .int .i64 e.f, .int .i64 e.t]] u fun x w' => x = .returned (.bool B6) ∧ Fr u w'))
    (q7 : Hid (B0 = true → ∀ u, Fr w u → Calls Tryz.prog 133 #[.pointer (some ⟨b, 0, none⟩), .agg #[.int .i64 e.k, .int .i64 e.g, .int .i64 e.o, .int .i64 e.w, .int .i64 e.l, .int .i64 e.s, .int .i64 e.f, .int .i64 e.t]] u fun x w' => x = .returned (.bool B7) ∧ Fr u w'))
    (q8 : Hid (B0 = true → ∀ u, Fr w u → Calls Tryz.prog 134 #[.pointer (some ⟨b, 0, none⟩), .agg #[.int .i64 e.k, .int .i64 e.g, .int .i64 e.o, .int .i64 e.w, .int .i64 e.l, .int .i64 e.s, .int .i64 e.f, .int .i64 e.t]] u fun x w' => x = .returned (.bool B8) ∧ Fr u w'))
    (q9 : Hid (B0 = true → ∀ u, Fr w u → Calls Tryz.prog 135 #[.pointer (some ⟨b, 0, none⟩), .agg #[.int .i64 e.k, .int .i64 e.g, .int .i64 e.o, .int .i64 e.w, .int .i64 e.l, .int .i64 e.s, .int .i64 e.f, .int .i64 e.t]] u fun x w' => x = .returned (.bool B9) ∧ Fr u w')) :
    Calls Tryz.prog 58 #[.pointer (some ⟨b, 0, none⟩), .agg #[.int .i64 e.k, .int .i64 e.g, .int .i64 e.o, .int .i64 e.w, .int .i64 e.l, .int .i64 e.s, .int .i64 e.f, .int .i64 e.t]] w fun x w' => x = .returned (.int .i64 (codeC B0 B1 B2 B3 B4 B5 B6 B7 B8 B9)) ∧ Fr w w' := by
  have fW := Fr.alloc w (.cells #[.int .i64 e.k, .int .i64 e.g, .int .i64 e.o, .int .i64 e.w, .int .i64 e.l, .int .i64 e.s, .int .i64 e.f, .int .i64 e.t] 31)
  have kE := EvAt.new w e 31
  obtain ⟨k, gr, o, wi, l, sz, f, t⟩ := e
  simp only at fW kE q0 ⊢
  go_enter Tryz.func58, Tryz.ntmps58
  go_wp2_with fail
  obtain ⟨W, hW⟩ : ∃ W, W = w.alloc (.cells #[.int .i64 k, .int .i64 gr, .int .i64 o, .int .i64 wi, .int .i64 l, .int .i64 sz, .int .i64 f, .int .i64 t] 31) := ⟨_, rfl⟩
  rw [← hW] at fW kE ⊢
  clear hW
  have HE : Hid (∀ u, Fr W u → EvAt u w.heap.size ⟨k, gr, o, wi, l, sz, f, t⟩) := fun u f => kE.fr f
  clear kE
  refine (q0 W fW).mono ?_
  rintro x u0 ⟨rfl, f0⟩
  clear q0
  cases B0
  · go_wp2_with fail
    go_ret
    exact ⟨rfl, fW.trans f0⟩
  have g0 := f0
  clear f0
  have r1 := q1.out (by trivial)
  obtain ⟨c0, c1, c2, c3, c4, c5, c6, c7⟩ := HE.out _ g0
  simp only at c0 c1 c2 c3 c4 c5 c6 c7
  go_wp2_with fail
  refine (r1 u0 (fW.trans g0)).mono ?_
  rintro e u1 ⟨rfl, f1⟩
  clear q1 r1 c0 c1 c2 c3 c4 c5 c6 c7
  have g1 := g0.trans f1
  clear f1 g0
  cases B1
  case true =>
    go_wp2_with fail
    go_ret
    exact ⟨rfl, fW.trans g1⟩
  have r2 := q2.out (by trivial)
  obtain ⟨c0, c1, c2, c3, c4, c5, c6, c7⟩ := HE.out _ g1
  simp only at c0 c1 c2 c3 c4 c5 c6 c7
  go_wp2_with fail
  refine (r2 u1 (fW.trans g1)).mono ?_
  rintro e u2 ⟨rfl, f2⟩
  clear q2 r2 c0 c1 c2 c3 c4 c5 c6 c7
  have g2 := g1.trans f2
  clear f2 g1
  cases B2
  case true =>
    go_wp2_with fail
    go_ret
    exact ⟨rfl, fW.trans g2⟩
  have r3 := q3.out (by trivial)
  obtain ⟨c0, c1, c2, c3, c4, c5, c6, c7⟩ := HE.out _ g2
  simp only at c0 c1 c2 c3 c4 c5 c6 c7
  go_wp2_with fail
  refine (r3 u2 (fW.trans g2)).mono ?_
  rintro e u3 ⟨rfl, f3⟩
  clear q3 r3 c0 c1 c2 c3 c4 c5 c6 c7
  have g3 := g2.trans f3
  clear f3 g2
  cases B3
  case true =>
    go_wp2_with fail
    go_ret
    exact ⟨rfl, fW.trans g3⟩
  have r4 := q4.out (by trivial)
  obtain ⟨c0, c1, c2, c3, c4, c5, c6, c7⟩ := HE.out _ g3
  simp only at c0 c1 c2 c3 c4 c5 c6 c7
  go_wp2_with fail
  refine (r4 u3 (fW.trans g3)).mono ?_
  rintro e u4 ⟨rfl, f4⟩
  clear q4 r4 c0 c1 c2 c3 c4 c5 c6 c7
  have g4 := g3.trans f4
  clear f4 g3
  cases B4
  case true =>
    go_wp2_with fail
    go_ret
    exact ⟨rfl, fW.trans g4⟩
  have r5 := q5.out (by trivial)
  obtain ⟨c0, c1, c2, c3, c4, c5, c6, c7⟩ := HE.out _ g4
  simp only at c0 c1 c2 c3 c4 c5 c6 c7
  go_wp2_with fail
  refine (r5 u4 (fW.trans g4)).mono ?_
  rintro e u5 ⟨rfl, f5⟩
  clear q5 r5 c0 c1 c2 c3 c4 c5 c6 c7
  have g5 := g4.trans f5
  clear f5 g4
  cases B5
  case true =>
    go_wp2_with fail
    go_ret
    exact ⟨rfl, fW.trans g5⟩
  have r6 := q6.out (by trivial)
  obtain ⟨c0, c1, c2, c3, c4, c5, c6, c7⟩ := HE.out _ g5
  simp only at c0 c1 c2 c3 c4 c5 c6 c7
  go_wp2_with fail
  refine (r6 u5 (fW.trans g5)).mono ?_
  rintro e u6 ⟨rfl, f6⟩
  clear q6 r6 c0 c1 c2 c3 c4 c5 c6 c7
  have g6 := g5.trans f6
  clear f6 g5
  cases B6
  case true =>
    go_wp2_with fail
    go_ret
    exact ⟨rfl, fW.trans g6⟩
  have r7 := q7.out (by trivial)
  obtain ⟨c0, c1, c2, c3, c4, c5, c6, c7⟩ := HE.out _ g6
  simp only at c0 c1 c2 c3 c4 c5 c6 c7
  go_wp2_with fail
  refine (r7 u6 (fW.trans g6)).mono ?_
  rintro e u7 ⟨rfl, f7⟩
  clear q7 r7 c0 c1 c2 c3 c4 c5 c6 c7
  have g7 := g6.trans f7
  clear f7 g6
  cases B7
  case true =>
    go_wp2_with fail
    go_ret
    exact ⟨rfl, fW.trans g7⟩
  have r8 := q8.out (by trivial)
  obtain ⟨c0, c1, c2, c3, c4, c5, c6, c7⟩ := HE.out _ g7
  simp only at c0 c1 c2 c3 c4 c5 c6 c7
  go_wp2_with fail
  refine (r8 u7 (fW.trans g7)).mono ?_
  rintro e u8 ⟨rfl, f8⟩
  clear q8 r8 c0 c1 c2 c3 c4 c5 c6 c7
  have g8 := g7.trans f8
  clear f8 g7
  cases B8
  case true =>
    go_wp2_with fail
    go_ret
    exact ⟨rfl, fW.trans g8⟩
  have r9 := q9.out (by trivial)
  obtain ⟨c0, c1, c2, c3, c4, c5, c6, c7⟩ := HE.out _ g8
  simp only at c0 c1 c2 c3 c4 c5 c6 c7
  go_wp2_with fail
  refine (r9 u8 (fW.trans g8)).mono ?_
  rintro e u9 ⟨rfl, f9⟩
  clear q9 r9 c0 c1 c2 c3 c4 c5 c6 c7
  have g9 := g8.trans f9
  clear f9 g8
  cases B9
  case true =>
    go_wp2_with fail
    go_ret
    exact ⟨rfl, fW.trans g9⟩
  go_wp2_with fail
  go_ret
  exact ⟨rfl, fW.trans g9⟩
end Go.Proofs.YthehhiccfnhinaaGreatDoor
/-
  The program's questions on a board: channels.
-/
namespace Go.Proofs.YthehhiccfnhinaaGreatDoor
open Go.RowKit

def closedB (c : Ch) (e : Ev) : Bool := if e.k = 7 ∨ e.k = 9 ∨ e.k = 10 then c.cl else if e.k = 11 then !c.cl else false

set_option maxRecDepth 20000 in
set_option maxHeartbeats 1000000 in
theorem isWronglyClosed_any (b b2 : Nat) (c : Ch) (e : Ev) (w : World) (hb : w.cell? ⟨b, 2, none⟩ = some (.map (some b2)))
    (hL : ∀ u, Fr w u → (Instr.lookup 144 (.map (some b2)) (.int .i64 e.o) false).run Tryz.prog u = .ok (.agg #[.int .i64 c.o, .int .i64 c.cap, .int .i64 c.sent, .int .i64 c.got, .bool c.cl]) u) :
    Calls Tryz.prog 131 #[.pointer (some ⟨b, 0, none⟩), .agg #[.int .i64 e.k, .int .i64 e.g, .int .i64 e.o, .int .i64 e.w, .int .i64 e.l, .int .i64 e.s, .int .i64 e.f, .int .i64 e.t]] w fun x w' => x = .returned (.bool (closedB c e)) ∧ Fr w w' := by
  have fW := Fr.alloc w (.cells #[.int .i64 e.k, .int .i64 e.g, .int .i64 e.o, .int .i64 e.w, .int .i64 e.l, .int .i64 e.s, .int .i64 e.f, .int .i64 e.t] 31)
  have kE := EvAt.new w e 31
  have hb := fW.cell hb
  obtain ⟨R, hR⟩ : ∃ R, R = closedB c e := ⟨_, rfl⟩
  rw [← hR]
  have HR : Hid (R = closedB c e) := hR
  clear hR
  obtain ⟨k, gr, o, wi, l, sz, f, t⟩ := e
  obtain ⟨co, cap, sent, got, cl⟩ := c
  simp only at fW kE hb hL ⊢
  go_enter Tryz.func131, Tryz.ntmps131
  go_wp2_with fail
  obtain ⟨W, hW⟩ : ∃ W, W = w.alloc (.cells #[.int .i64 k, .int .i64 gr, .int .i64 o, .int .i64 wi, .int .i64 l, .int .i64 sz, .int .i64 f, .int .i64 t] 31) := ⟨_, rfl⟩
  rw [← hW] at fW kE hb ⊢
  clear hW
  obtain ⟨c0, c1, c2, c3, c4, c5, c6, c7⟩ := kE
  simp only at c0 c2
  clear c1 c3 c4 c5 c6 c7
  have HL : Hid (∀ u, Fr w u → (Instr.lookup 144 (.map (some b2)) (.int .i64 o) false).run Tryz.prog u = .ok (.agg #[.int .i64 co, .int .i64 cap, .int .i64 sent, .int .i64 got, .bool cl]) u) := hL
  clear hL
  have l1 := HL.out _ (fW.trans (Fr.drew W))
  have l2 := HL.out _ ((fW.trans (Fr.alloc W (.cells #[.int .i64 0, .int .i64 0, .int .i64 0, .int .i64 0, .bool false] 85))).trans (Fr.drew _))
  go_region_held3 (fun u => u.cell? ⟨b, 2, none⟩ = some (.map (some b2)) ∧ u.cell? ⟨w.heap.size, 2, none⟩ = some (.int .i64 o)) (go_keep) (fail)
  all_goals (
    clear l1 l2 HL
    obtain ⟨V, hV⟩ : ∃ V, V = (W.alloc (.cells #[.int .i64 co, .int .i64 cap, .int .i64 sent, .int .i64 got, .bool cl] 85)).drew := ⟨_, rfl⟩
    have fA : Fr W V := by rw [hV]; exact (Fr.alloc _ _).trans (Fr.drew _)
    have fV : Fr w V := fW.trans fA
    have x0 := fA.cell c0
    have y1 : V.cell? ⟨W.heap.size, 1, none⟩ = some (.int .i64 cap) := by rw [hV]; simp [go_sem]
    have y2 : V.cell? ⟨W.heap.size, 2, none⟩ = some (.int .i64 sent) := by rw [hV]; simp [go_sem]
    have y3 : V.cell? ⟨W.heap.size, 3, none⟩ = some (.int .i64 got) := by rw [hV]; simp [go_sem]
    have y4 : V.cell? ⟨W.heap.size, 4, none⟩ = some (.bool cl) := by rw [hV]; simp [go_sem]
    rw [← hV]
    clear hV fA c0 c2 hb
    rcases (show k = 7 ∨ k = 9 ∨ k = 10 ∨ k = 11 ∨ (k ≠ 7 ∧ k ≠ 9 ∧ k ≠ 10 ∧ k ≠ 11) by omega) with rfl | rfl | rfl | rfl | hk
    · have HN : Hid (R = cl) := by show R = cl; rw [HR.out]; simp [closedB]
      go_wp2_with fail
      go_ret
      exact ⟨ret_bool HN.out.symm, fV⟩
    · have HN : Hid (R = cl) := by show R = cl; rw [HR.out]; simp [closedB]
      go_wp2_with fail
      go_ret
      exact ⟨ret_bool HN.out.symm, fV⟩
    · have HN : Hid (R = cl) := by show R = cl; rw [HR.out]; simp [closedB]
      go_wp2_with fail
      go_ret
      exact ⟨ret_bool HN.out.symm, fV⟩
    · have HN : Hid (R = !cl) := by show R = !cl; rw [HR.out]; simp [closedB]
      go_wp2_with fail
      go_ret
      exact ⟨ret_bool HN.out.symm, fV⟩
    · obtain ⟨h7, h9, h10, h11⟩ := hk
      have HN : Hid (R = false) := by show R = false; rw [HR.out]; simp [closedB, h7, h9, h10, h11]
      go_wp2_with fail
      go_ret
      exact ⟨ret_bool HN.out.symm, fV⟩)
end Go.Proofs.YthehhiccfnhinaaGreatDoor
/-
  The program's questions on a board: full and empty channels.
-/
namespace Go.Proofs.YthehhiccfnhinaaGreatDoor
open Go.RowKit

def fullB (c : Ch) (e : Ev) : Bool := decide (e.k = 7) && decide (c.sent - c.got = c.cap)
def emptyB (c : Ch) (e : Ev) : Bool := if e.k = 8 then decide (c.sent = c.got) else if e.k = 11 then decide (c.sent ≠ c.got) else false

set_option maxRecDepth 20000 in
set_option maxHeartbeats 1000000 in
theorem isFull_any (b b2 : Nat) (c : Ch) (e : Ev) (w : World) (hb : w.cell? ⟨b, 2, none⟩ = some (.map (some b2)))
    (hs : 0 ≤ c.got ∧ c.got ≤ c.sent ∧ c.sent ≤ 1000000) (hL : ∀ u, Fr w u → (Instr.lookup 144 (.map (some b2)) (.int .i64 e.o) false).run Tryz.prog u = .ok (.agg #[.int .i64 c.o, .int .i64 c.cap, .int .i64 c.sent, .int .i64 c.got, .bool c.cl]) u) :
    Calls Tryz.prog 132 #[.pointer (some ⟨b, 0, none⟩), .agg #[.int .i64 e.k, .int .i64 e.g, .int .i64 e.o, .int .i64 e.w, .int .i64 e.l, .int .i64 e.s, .int .i64 e.f, .int .i64 e.t]] w fun x w' => x = .returned (.bool (fullB c e)) ∧ Fr w w' := by
  have fW := Fr.alloc w (.cells #[.int .i64 e.k, .int .i64 e.g, .int .i64 e.o, .int .i64 e.w, .int .i64 e.l, .int .i64 e.s, .int .i64 e.f, .int .i64 e.t] 31)
  have kE := EvAt.new w e 31
  have hb := fW.cell hb
  obtain ⟨R, hR⟩ : ∃ R, R = fullB c e := ⟨_, rfl⟩
  rw [← hR]
  have HR : Hid (R = fullB c e) := hR
  clear hR
  obtain ⟨k, gr, o, wi, l, sz, f, t⟩ := e
  obtain ⟨co, cap, sent, got, cl⟩ := c
  simp only at fW kE hb hL hs ⊢
  go_enter Tryz.func132, Tryz.ntmps132
  go_wp2_with fail
  obtain ⟨W, hW⟩ : ∃ W, W = w.alloc (.cells #[.int .i64 k, .int .i64 gr, .int .i64 o, .int .i64 wi, .int .i64 l, .int .i64 sz, .int .i64 f, .int .i64 t] 31) := ⟨_, rfl⟩
  rw [← hW] at fW kE hb ⊢
  clear hW
  obtain ⟨c0, c1, c2, c3, c4, c5, c6, c7⟩ := kE
  simp only at c0 c2
  clear c1 c3 c4 c5 c6 c7
  have HL : Hid (∀ u, Fr w u → (Instr.lookup 144 (.map (some b2)) (.int .i64 o) false).run Tryz.prog u = .ok (.agg #[.int .i64 co, .int .i64 cap, .int .i64 sent, .int .i64 got, .bool cl]) u) := hL
  clear hL
  have l1 := HL.out _ (fW.trans (Fr.drew W))
  have l2 := HL.out _ ((fW.trans (Fr.alloc W (.cells #[.int .i64 0, .int .i64 0, .int .i64 0, .int .i64 0, .bool false] 85))).trans (Fr.drew _))
  go_region_held3 (fun u => u.cell? ⟨b, 2, none⟩ = some (.map (some b2)) ∧ u.cell? ⟨w.heap.size, 2, none⟩ = some (.int .i64 o)) (go_keep) (fail)
  all_goals (
    clear l1 l2 HL
    obtain ⟨V, hV⟩ : ∃ V, V = (W.alloc (.cells #[.int .i64 co, .int .i64 cap, .int .i64 sent, .int .i64 got, .bool cl] 85)).drew := ⟨_, rfl⟩
    have fA : Fr W V := by rw [hV]; exact (Fr.alloc _ _).trans (Fr.drew _)
    have fV : Fr w V := fW.trans fA
    have x0 := fA.cell c0
    have y1 : V.cell? ⟨W.heap.size, 1, none⟩ = some (.int .i64 cap) := by rw [hV]; simp [go_sem]
    have y2 : V.cell? ⟨W.heap.size, 2, none⟩ = some (.int .i64 sent) := by rw [hV]; simp [go_sem]
    have y3 : V.cell? ⟨W.heap.size, 3, none⟩ = some (.int .i64 got) := by rw [hV]; simp [go_sem]
    have y4 : V.cell? ⟨W.heap.size, 4, none⟩ = some (.bool cl) := by rw [hV]; simp [go_sem]
    rw [← hV]
    clear hV fA c0 c2 hb
    obtain ⟨s1, s2, s3⟩ := hs
    by_cases hk : k = 7
    · subst hk
      by_cases h2 : sent - got = cap
      · have HN : Hid (R = true) := by show R = true; rw [HR.out]; simp [fullB, h2]
        subst h2
        go_wp2_with fail
        go_ret
        exact ⟨ret_bool HN.out.symm, fV⟩
      · have HN : Hid (R = false) := by show R = false; rw [HR.out]; simp [fullB, h2]
        go_wp2_with fail
        go_ret
        first | exact ⟨ret_bool HN.out.symm, fV⟩ | exact ⟨ret_bool ((show (sent - got == cap) = false by simpa using h2).trans HN.out.symm), fV⟩
    · have HN : Hid (R = false) := by show R = false; rw [HR.out]; simp [fullB, hk]
      go_wp2_with fail
      go_ret
      exact ⟨ret_bool HN.out.symm, fV⟩)

set_option maxRecDepth 20000 in
set_option maxHeartbeats 1000000 in
theorem isWronglyEmpty_any (b b2 : Nat) (c : Ch) (e : Ev) (w : World) (hb : w.cell? ⟨b, 2, none⟩ = some (.map (some b2)))
    (hL : ∀ u, Fr w u → (Instr.lookup 144 (.map (some b2)) (.int .i64 e.o) false).run Tryz.prog u = .ok (.agg #[.int .i64 c.o, .int .i64 c.cap, .int .i64 c.sent, .int .i64 c.got, .bool c.cl]) u) :
    Calls Tryz.prog 133 #[.pointer (some ⟨b, 0, none⟩), .agg #[.int .i64 e.k, .int .i64 e.g, .int .i64 e.o, .int .i64 e.w, .int .i64 e.l, .int .i64 e.s, .int .i64 e.f, .int .i64 e.t]] w fun x w' => x = .returned (.bool (emptyB c e)) ∧ Fr w w' := by
  have fW := Fr.alloc w (.cells #[.int .i64 e.k, .int .i64 e.g, .int .i64 e.o, .int .i64 e.w, .int .i64 e.l, .int .i64 e.s, .int .i64 e.f, .int .i64 e.t] 31)
  have kE := EvAt.new w e 31
  have hb := fW.cell hb
  obtain ⟨R, hR⟩ : ∃ R, R = emptyB c e := ⟨_, rfl⟩
  rw [← hR]
  have HR : Hid (R = emptyB c e) := hR
  clear hR
  obtain ⟨k, gr, o, wi, l, sz, f, t⟩ := e
  obtain ⟨co, cap, sent, got, cl⟩ := c
  simp only at fW kE hb hL ⊢
  go_enter Tryz.func133, Tryz.ntmps133
  go_wp2_with fail
  obtain ⟨W, hW⟩ : ∃ W, W = w.alloc (.cells #[.int .i64 k, .int .i64 gr, .int .i64 o, .int .i64 wi, .int .i64 l, .int .i64 sz, .int .i64 f, .int .i64 t] 31) := ⟨_, rfl⟩
  rw [← hW] at fW kE hb ⊢
  clear hW
  obtain ⟨c0, c1, c2, c3, c4, c5, c6, c7⟩ := kE
  simp only at c0 c2
  clear c1 c3 c4 c5 c6 c7
  have HL : Hid (∀ u, Fr w u → (Instr.lookup 144 (.map (some b2)) (.int .i64 o) false).run Tryz.prog u = .ok (.agg #[.int .i64 co, .int .i64 cap, .int .i64 sent, .int .i64 got, .bool cl]) u) := hL
  clear hL
  have l1 := HL.out _ (fW.trans (Fr.drew W))
  have l2 := HL.out _ ((fW.trans (Fr.alloc W (.cells #[.int .i64 0, .int .i64 0, .int .i64 0, .int .i64 0, .bool false] 85))).trans (Fr.drew _))
  go_region_held3 (fun u => u.cell? ⟨b, 2, none⟩ = some (.map (some b2)) ∧ u.cell? ⟨w.heap.size, 2, none⟩ = some (.int .i64 o)) (go_keep) (fail)
  all_goals (
    clear l1 l2 HL
    obtain ⟨V, hV⟩ : ∃ V, V = (W.alloc (.cells #[.int .i64 co, .int .i64 cap, .int .i64 sent, .int .i64 got, .bool cl] 85)).drew := ⟨_, rfl⟩
    have fA : Fr W V := by rw [hV]; exact (Fr.alloc _ _).trans (Fr.drew _)
    have fV : Fr w V := fW.trans fA
    have x0 := fA.cell c0
    have y1 : V.cell? ⟨W.heap.size, 1, none⟩ = some (.int .i64 cap) := by rw [hV]; simp [go_sem]
    have y2 : V.cell? ⟨W.heap.size, 2, none⟩ = some (.int .i64 sent) := by rw [hV]; simp [go_sem]
    have y3 : V.cell? ⟨W.heap.size, 3, none⟩ = some (.int .i64 got) := by rw [hV]; simp [go_sem]
    have y4 : V.cell? ⟨W.heap.size, 4, none⟩ = some (.bool cl) := by rw [hV]; simp [go_sem]
    rw [← hV]
    clear hV fA c0 c2 hb
    rcases (show k = 8 ∨ k = 11 ∨ (k ≠ 8 ∧ k ≠ 11) by omega) with rfl | rfl | hk
    · by_cases h2 : sent = got
      · have HN : Hid (R = true) := by show R = true; rw [HR.out]; simp [emptyB, h2]
        subst h2
        go_wp2_with fail
        go_ret
        exact ⟨ret_bool HN.out.symm, fV⟩
      · have HN : Hid (R = false) := by show R = false; rw [HR.out]; simp [emptyB, h2]
        go_wp2_with fail
        go_ret
        first | exact ⟨ret_bool HN.out.symm, fV⟩ | exact ⟨ret_bool ((show (sent == got) = false by simpa using h2).trans HN.out.symm), fV⟩
    · by_cases h2 : sent = got
      · have HN : Hid (R = false) := by show R = false; rw [HR.out]; simp [emptyB, h2]
        subst h2
        go_wp2_with fail
        go_ret
        exact ⟨ret_bool HN.out.symm, fV⟩
      · have HN : Hid (R = true) := by show R = true; rw [HR.out]; simp [emptyB, h2]
        go_wp2_with fail
        go_ret
        first | exact ⟨ret_bool HN.out.symm, fV⟩ | exact ⟨ret_bool ((show (sent != got) = true by simpa using h2).trans HN.out.symm), fV⟩
    · obtain ⟨h8, h11⟩ := hk
      have HN : Hid (R = false) := by show R = false; rw [HR.out]; simp [emptyB, h8, h11]
      go_wp2_with fail
      go_ret
      exact ⟨ret_bool HN.out.symm, fV⟩)
end Go.Proofs.YthehhiccfnhinaaGreatDoor
/-
  The program's questions on a board: wrong channels, what was done once.
-/
namespace Go.Proofs.YthehhiccfnhinaaGreatDoor
open Go.RowKit

def wchanB (had : Bool) (c : Ch) (e : Ev) : Bool := if e.k = 6 then had else if e.k = 7 ∨ e.k = 8 then !had || decide (c.cap = 0) else if e.k = 9 then !had || decide (c.cap ≠ 0) else if e.k = 10 ∨ e.k = 11 then !had else false
def onceB (had : Bool) (e : Ev) : Bool := if e.k = 15 then had else if e.k = 16 then !had else false

set_option maxRecDepth 20000 in
set_option maxHeartbeats 1000000 in
theorem isWrongChan_any (b b2 : Nat) (had : Bool) (c : Ch) (e : Ev) (w : World) (hb : w.cell? ⟨b, 2, none⟩ = some (.map (some b2)))
    (hL : ∀ u, Fr w u → (Instr.lookup 144 (.map (some b2)) (.int .i64 e.o) true).run Tryz.prog u = .ok (.tuple #[.agg #[.int .i64 c.o, .int .i64 c.cap, .int .i64 c.sent, .int .i64 c.got, .bool c.cl], .bool had]) u) :
    Calls Tryz.prog 130 #[.pointer (some ⟨b, 0, none⟩), .agg #[.int .i64 e.k, .int .i64 e.g, .int .i64 e.o, .int .i64 e.w, .int .i64 e.l, .int .i64 e.s, .int .i64 e.f, .int .i64 e.t]] w fun x w' => x = .returned (.bool (wchanB had c e)) ∧ Fr w w' := by
  have fW := Fr.alloc w (.cells #[.int .i64 e.k, .int .i64 e.g, .int .i64 e.o, .int .i64 e.w, .int .i64 e.l, .int .i64 e.s, .int .i64 e.f, .int .i64 e.t] 31)
  have kE := EvAt.new w e 31
  have hb := fW.cell hb
  obtain ⟨R, hR⟩ : ∃ R, R = wchanB had c e := ⟨_, rfl⟩
  rw [← hR]
  have HR : Hid (R = wchanB had c e) := hR
  clear hR
  obtain ⟨k, gr, o, wi, l, sz, f, t⟩ := e
  obtain ⟨co, cap, sent, got, cl⟩ := c
  simp only at fW kE hb hL ⊢
  go_enter Tryz.func130, Tryz.ntmps130
  go_wp2_with fail
  obtain ⟨W, hW⟩ : ∃ W, W = w.alloc (.cells #[.int .i64 k, .int .i64 gr, .int .i64 o, .int .i64 wi, .int .i64 l, .int .i64 sz, .int .i64 f, .int .i64 t] 31) := ⟨_, rfl⟩
  rw [← hW] at fW kE hb ⊢
  clear hW
  obtain ⟨c0, c1, c2, c3, c4, c5, c6, c7⟩ := kE
  simp only at c0 c2
  clear c1 c3 c4 c5 c6 c7
  have HL : Hid (∀ u, Fr w u → (Instr.lookup 144 (.map (some b2)) (.int .i64 o) true).run Tryz.prog u = .ok (.tuple #[.agg #[.int .i64 co, .int .i64 cap, .int .i64 sent, .int .i64 got, .bool cl], .bool had]) u) := hL
  clear hL
  have l1 := HL.out _ (fW.trans (Fr.drew W))
  have l2 := HL.out _ ((fW.trans (Fr.alloc W (.cells #[.int .i64 0, .int .i64 0, .int .i64 0, .int .i64 0, .bool false] 85))).trans (Fr.drew _))
  go_region_held3 (fun u => u.cell? ⟨b, 2, none⟩ = some (.map (some b2)) ∧ u.cell? ⟨w.heap.size, 2, none⟩ = some (.int .i64 o)) (go_keep) (fail)
  all_goals (
    clear l1 l2 HL
    obtain ⟨V, hV⟩ : ∃ V, V = (W.alloc (.cells #[.int .i64 co, .int .i64 cap, .int .i64 sent, .int .i64 got, .bool cl] 85)).drew := ⟨_, rfl⟩
    have fA : Fr W V := by rw [hV]; exact (Fr.alloc _ _).trans (Fr.drew _)
    have fV : Fr w V := fW.trans fA
    have x0 := fA.cell c0
    have y1 : V.cell? ⟨W.heap.size, 1, none⟩ = some (.int .i64 cap) := by rw [hV]; simp [go_sem]
    have y2 : V.cell? ⟨W.heap.size, 2, none⟩ = some (.int .i64 sent) := by rw [hV]; simp [go_sem]
    have y3 : V.cell? ⟨W.heap.size, 3, none⟩ = some (.int .i64 got) := by rw [hV]; simp [go_sem]
    have y4 : V.cell? ⟨W.heap.size, 4, none⟩ = some (.bool cl) := by rw [hV]; simp [go_sem]
    rw [← hV]
    clear hV fA c0 c2 hb
    rcases (show k = 6 ∨ k = 7 ∨ k = 8 ∨ k = 9 ∨ k = 10 ∨ k = 11 ∨ (k ≠ 6 ∧ k ≠ 7 ∧ k ≠ 8 ∧ k ≠ 9 ∧ k ≠ 10 ∧ k ≠ 11) by omega) with rfl | rfl | rfl | rfl | rfl | rfl | hk
    · have HN : Hid (R = had) := by show R = had; rw [HR.out]; simp [wchanB]
      go_wp2_with fail
      go_ret
      exact ⟨ret_bool HN.out.symm, fV⟩
    · cases had
      · have HN : Hid (R = true) := by show R = true; rw [HR.out]; simp [wchanB]
        go_wp2_with fail
        go_ret
        exact ⟨ret_bool HN.out.symm, fV⟩
      · by_cases h2 : cap = 0
        · have HN : Hid (R = true) := by show R = true; rw [HR.out]; simp [wchanB, h2]
          subst h2
          go_wp2_with fail
          go_ret
          exact ⟨ret_bool HN.out.symm, fV⟩
        · have HN : Hid (R = false) := by show R = false; rw [HR.out]; simp [wchanB, h2]
          go_wp2_with fail
          go_ret
          first | exact ⟨ret_bool HN.out.symm, fV⟩ | exact ⟨ret_bool ((show (cap == 0) = false by simpa using h2).trans HN.out.symm), fV⟩
    · cases had
      · have HN : Hid (R = true) := by show R = true; rw [HR.out]; simp [wchanB]
        go_wp2_with fail
        go_ret
        exact ⟨ret_bool HN.out.symm, fV⟩
      · by_cases h2 : cap = 0
        · have HN : Hid (R = true) := by show R = true; rw [HR.out]; simp [wchanB, h2]
          subst h2
          go_wp2_with fail
          go_ret
          exact ⟨ret_bool HN.out.symm, fV⟩
        · have HN : Hid (R = false) := by show R = false; rw [HR.out]; simp [wchanB, h2]
          go_wp2_with fail
          go_ret
          first | exact ⟨ret_bool HN.out.symm, fV⟩ | exact ⟨ret_bool ((show (cap == 0) = false by simpa using h2).trans HN.out.symm), fV⟩
    · cases had
      · have HN : Hid (R = true) := by show R = true; rw [HR.out]; simp [wchanB]
        go_wp2_with fail
        go_ret
        exact ⟨ret_bool HN.out.symm, fV⟩
      · by_cases h2 : cap = 0
        · have HN : Hid (R = false) := by show R = false; rw [HR.out]; simp [wchanB, h2]
          subst h2
          go_wp2_with fail
          go_ret
          exact ⟨ret_bool HN.out.symm, fV⟩
        · have HN : Hid (R = true) := by show R = true; rw [HR.out]; simp [wchanB, h2]
          go_wp2_with fail
          go_ret
          first | exact ⟨ret_bool HN.out.symm, fV⟩ | exact ⟨ret_bool ((show (cap != 0) = true by simpa using h2).trans HN.out.symm), fV⟩
    · have HN : Hid (R = !had) := by show R = !had; rw [HR.out]; simp [wchanB]
      go_wp2_with fail
      go_ret
      exact ⟨ret_bool HN.out.symm, fV⟩
    · have HN : Hid (R = !had) := by show R = !had; rw [HR.out]; simp [wchanB]
      go_wp2_with fail
      go_ret
      exact ⟨ret_bool HN.out.symm, fV⟩
    · obtain ⟨h6, h7, h8, h9, h10, h11⟩ := hk
      have HN : Hid (R = false) := by show R = false; rw [HR.out]; simp [wchanB, h6, h7, h8, h9, h10, h11]
      go_wp2_with fail
      go_ret
      exact ⟨ret_bool HN.out.symm, fV⟩)

set_option maxRecDepth 20000 in
set_option maxHeartbeats 1000000 in
theorem isWrongOnce_any (b b4 : Nat) (had : Bool) (z : Int) (e : Ev) (w : World) (hb : w.cell? ⟨b, 4, none⟩ = some (.map (some b4)))
    (hL : ∀ u, Fr w u → (Instr.lookup 150 (.map (some b4)) (.int .i64 e.o) true).run Tryz.prog u = .ok (.tuple #[.int .i64 z, .bool had]) u) :
    Calls Tryz.prog 135 #[.pointer (some ⟨b, 0, none⟩), .agg #[.int .i64 e.k, .int .i64 e.g, .int .i64 e.o, .int .i64 e.w, .int .i64 e.l, .int .i64 e.s, .int .i64 e.f, .int .i64 e.t]] w fun x w' => x = .returned (.bool (onceB had e)) ∧ Fr w w' := by
  have fW := Fr.alloc w (.cells #[.int .i64 e.k, .int .i64 e.g, .int .i64 e.o, .int .i64 e.w, .int .i64 e.l, .int .i64 e.s, .int .i64 e.f, .int .i64 e.t] 31)
  have kE := EvAt.new w e 31
  have hb := fW.cell hb
  obtain ⟨R, hR⟩ : ∃ R, R = onceB had e := ⟨_, rfl⟩
  rw [← hR]
  have HR : Hid (R = onceB had e) := hR
  clear hR
  obtain ⟨k, gr, o, wi, l, sz, f, t⟩ := e
  simp only at fW kE hb hL ⊢
  go_enter Tryz.func135, Tryz.ntmps135
  go_wp2_with fail
  obtain ⟨W, hW⟩ : ∃ W, W = w.alloc (.cells #[.int .i64 k, .int .i64 gr, .int .i64 o, .int .i64 wi, .int .i64 l, .int .i64 sz, .int .i64 f, .int .i64 t] 31) := ⟨_, rfl⟩
  rw [← hW] at fW kE hb ⊢
  clear hW
  obtain ⟨c0, c1, c2, c3, c4, c5, c6, c7⟩ := kE
  simp only at c0 c2
  clear c1 c3 c4 c5 c6 c7
  have l1 := hL _ (fW.trans (Fr.drew W))
  clear hL
  go_region_held3 (fun u => u.cell? ⟨b, 4, none⟩ = some (.map (some b4)) ∧ u.cell? ⟨w.heap.size, 2, none⟩ = some (.int .i64 o)) (go_keep) (fail)
  all_goals (
    clear l1
    obtain ⟨V, hV⟩ : ∃ V, V = W.drew := ⟨_, rfl⟩
    have fA : Fr W V := by rw [hV]; exact Fr.drew _
    have fV : Fr w V := fW.trans fA
    have x0 := fA.cell c0
    rw [← hV]
    clear hV fA c0 c2 hb
    rcases (show k = 15 ∨ k = 16 ∨ (k ≠ 15 ∧ k ≠ 16) by omega) with rfl | rfl | hk
    · have HN : Hid (R = had) := by show R = had; rw [HR.out]; simp [onceB]
      go_wp2_with fail
      go_ret
      exact ⟨ret_bool HN.out.symm, fV⟩
    · have HN : Hid (R = !had) := by show R = !had; rw [HR.out]; simp [onceB]
      go_wp2_with fail
      go_ret
      exact ⟨ret_bool HN.out.symm, fV⟩
    · obtain ⟨h1, h2⟩ := hk
      have HN : Hid (R = false) := by show R = false; rw [HR.out]; simp [onceB, h1, h2]
      go_wp2_with fail
      go_ret
      exact ⟨ret_bool HN.out.symm, fV⟩)
end Go.Proofs.YthehhiccfnhinaaGreatDoor
/-
  The program's questions on a board: counts.
-/
namespace Go.Proofs.YthehhiccfnhinaaGreatDoor
open Go.RowKit

def countB (had : Bool) (n sent : Int) (e : Ev) : Bool := if e.k = 13 then !had else if e.k = 14 then had else if e.k = 12 then decide (1000000 < n + e.s) else if e.k = 7 then decide (sent = 1000000) else false

theorem field_sent (a b c d : Int) (q : Bool) (u : World) : Sem.run Tryz.prog (Instr.field 85 (.agg #[.int .i64 a, .int .i64 b, .int .i64 c, .int .i64 d, .bool q]) 2) u = .ok (.int .i64 c) u := by
  have hu := run_underlying (w := u) Tryz.underlying85
  simp [Instr.field, asAgg, hu, go_sem]

set_option maxRecDepth 20000 in
set_option maxHeartbeats 1000000 in
theorem isMiscounted_any (b b2 b3 : Nat) (had : Bool) (no n : Int) (c : Ch) (e : Ev) (w : World) (hb : w.cell? ⟨b, 3, none⟩ = some (.map (some b3))) (hb2 : w.cell? ⟨b, 2, none⟩ = some (.map (some b2)))
    (hn : 0 ≤ n ∧ n ≤ 1000000) (hs : 0 ≤ e.s ∧ e.s ≤ 1000000000)
    (hL : ∀ u, Fr w u → (Instr.lookup 147 (.map (some b3)) (.int .i64 e.o) true).run Tryz.prog u = .ok (.tuple #[.agg #[.int .i64 no, .int .i64 n], .bool had]) u)
    (hC : ∀ u, Fr w u → (Instr.lookup 144 (.map (some b2)) (.int .i64 e.o) false).run Tryz.prog u = .ok (.agg #[.int .i64 c.o, .int .i64 c.cap, .int .i64 c.sent, .int .i64 c.got, .bool c.cl]) u) :
    Calls Tryz.prog 134 #[.pointer (some ⟨b, 0, none⟩), .agg #[.int .i64 e.k, .int .i64 e.g, .int .i64 e.o, .int .i64 e.w, .int .i64 e.l, .int .i64 e.s, .int .i64 e.f, .int .i64 e.t]] w fun x w' => x = .returned (.bool (countB had n c.sent e)) ∧ Fr w w' := by
  have fW := Fr.alloc w (.cells #[.int .i64 e.k, .int .i64 e.g, .int .i64 e.o, .int .i64 e.w, .int .i64 e.l, .int .i64 e.s, .int .i64 e.f, .int .i64 e.t] 31)
  have kE := EvAt.new w e 31
  have hb := fW.cell hb
  have hb2 := fW.cell hb2
  obtain ⟨R, hR⟩ : ∃ R, R = countB had n c.sent e := ⟨_, rfl⟩
  rw [← hR]
  have HR : Hid (R = countB had n c.sent e) := hR
  clear hR
  obtain ⟨k, gr, o, wi, l, sz, f, t⟩ := e
  obtain ⟨co, cap, sent, got, cl⟩ := c
  simp only at fW kE hb hb2 hL hC hs HR ⊢
  have HC : Hid (∀ u, Fr w u → (Instr.lookup 144 (.map (some b2)) (.int .i64 o) false).run Tryz.prog u = .ok (.agg #[.int .i64 co, .int .i64 cap, .int .i64 sent, .int .i64 got, .bool cl]) u) := hC
  clear hC
  go_enter Tryz.func134, Tryz.ntmps134
  go_wp2_with fail
  obtain ⟨W, hW⟩ : ∃ W, W = w.alloc (.cells #[.int .i64 k, .int .i64 gr, .int .i64 o, .int .i64 wi, .int .i64 l, .int .i64 sz, .int .i64 f, .int .i64 t] 31) := ⟨_, rfl⟩
  rw [← hW] at fW kE hb hb2 ⊢
  clear hW
  obtain ⟨c0, c1, c2, c3, c4, c5, c6, c7⟩ := kE
  simp only at c0 c2 c5
  clear c1 c3 c4 c6 c7
  have l1 := hL _ (fW.trans (Fr.drew W))
  have l2 := hL _ ((fW.trans (Fr.alloc W (.cells #[.int .i64 0, .int .i64 0] 88))).trans (Fr.drew _))
  clear hL
  go_region_held3 (fun u => u.cell? ⟨b, 3, none⟩ = some (.map (some b3)) ∧ u.cell? ⟨w.heap.size, 2, none⟩ = some (.int .i64 o)) (go_keep) (fail)
  all_goals (
    clear l1 l2
    obtain ⟨V, hV⟩ : ∃ V, V = (W.alloc (.cells #[.int .i64 no, .int .i64 n] 88)).drew := ⟨_, rfl⟩
    have fA : Fr W V := by rw [hV]; exact (Fr.alloc _ _).trans (Fr.drew _)
    have fV : Fr w V := fW.trans fA
    have x0 := fA.cell c0
    have x2 := fA.cell c2
    have x5 := fA.cell c5
    have xb := fA.cell hb2
    have y1 : V.cell? ⟨W.heap.size, 1, none⟩ = some (.int .i64 n) := by rw [hV]; simp [go_sem]
    rw [← hV]
    clear hV fA c0 c2 c5 hb hb2
    rcases (show k = 13 ∨ k = 14 ∨ k = 12 ∨ k = 7 ∨ (k ≠ 13 ∧ k ≠ 14 ∧ k ≠ 12 ∧ k ≠ 7) by omega) with rfl | rfl | rfl | rfl | hk
    · have HN : Hid (R = !had) := by show R = !had; rw [HR.out]; simp [countB]
      go_wp2_with fail
      go_ret
      exact ⟨ret_bool HN.out.symm, fV⟩
    · have HN : Hid (R = had) := by show R = had; rw [HR.out]; simp [countB]
      go_wp2_with fail
      go_ret
      exact ⟨ret_bool HN.out.symm, fV⟩
    · obtain ⟨n0, n1⟩ := hn
      obtain ⟨s0, s1⟩ := hs
      by_cases h2 : 1000000 < n + sz
      · have HN : Hid (R = true) := by show R = true; rw [HR.out]; simp [countB, h2]
        go_wp2_with fail
        go_ret
        first | exact ⟨ret_bool HN.out.symm, fV⟩ | exact ⟨ret_bool ((show decide (1000000 < n + sz) = true by simpa using h2).trans HN.out.symm), fV⟩
      · have HN : Hid (R = false) := by show R = false; rw [HR.out]; simp only [countB]; simp; omega
        go_wp2_with fail
        go_ret
        first | exact ⟨ret_bool HN.out.symm, fV⟩ | exact ⟨ret_bool ((show decide (1000000 < n + sz) = false by simpa using h2).trans HN.out.symm), fV⟩
    · have l3 := HC.out _ (fV.trans (Fr.drew V))
      have l4 := field_sent co cap sent got cl
      by_cases h2 : sent = 1000000
      · have HN : Hid (R = true) := by show R = true; rw [HR.out]; simp [countB, h2]
        subst h2
        go_wp2_with fail
        go_region_held3 (fun u => u.cell? ⟨b, 2, none⟩ = some (.map (some b2)) ∧ u.cell? ⟨w.heap.size, 2, none⟩ = some (.int .i64 o)) (go_keep) (fail)
        go_wp2_with fail
        go_ret
        exact ⟨ret_bool HN.out.symm, fV.trans (Fr.drew V)⟩
      · have HN : Hid (R = false) := by show R = false; rw [HR.out]; simp [countB, h2]
        go_wp2_with fail
        go_region_held3 (fun u => u.cell? ⟨b, 2, none⟩ = some (.map (some b2)) ∧ u.cell? ⟨w.heap.size, 2, none⟩ = some (.int .i64 o)) (go_keep) (fail)
        go_wp2_with fail
        go_ret
        first | exact ⟨ret_bool HN.out.symm, fV.trans (Fr.drew V)⟩ | exact ⟨ret_bool ((show (sent == 1000000) = false by simpa using h2).trans HN.out.symm), fV.trans (Fr.drew V)⟩
    · obtain ⟨h1, h2, h3, h4⟩ := hk
      have HN : Hid (R = false) := by show R = false; rw [HR.out]; simp [countB, h1, h2, h3, h4]
      go_wp2_with fail
      go_ret
      exact ⟨ret_bool HN.out.symm, fV⟩)
end Go.Proofs.YthehhiccfnhinaaGreatDoor
/-
  slices.Index and slices.Contains at int64.
-/
namespace Go.Proofs.YthehhiccfnhinaaGreatDoor
open Go.RowKit

theorem memB_step {xs : List Int} {x : Int} {k : Nat} (hk : k < xs.length) (h : x ≠ xs[k]) : memB (xs.drop k) x = memB (xs.drop (k + 1)) x := by
  rw [List.drop_eq_getElem_cons hk, memB, List.any_cons, show (xs[k] == x) = false by simpa using Ne.symm h]
  rfl
theorem memB_here {xs : List Int} {x : Int} {k : Nat} (hk : k < xs.length) (h : x = xs[k]) : memB (xs.drop k) x = true := by
  rw [List.drop_eq_getElem_cons hk, memB, List.any_cons, show (xs[k] == x) = true by simpa using h.symm]
  rfl

set_option maxHeartbeats 1000000 in
theorem index_any (ao : Option Addr) (n c : Nat) (xs : List Int) (x : Int) (w : World) (hn : xs.length = n) (hl : xs.length ≤ 1048576) (h : Reads w ao xs) :
    Calls Tryz.prog 200 #[.slice ao n c, .int .i64 x] w fun e w' => ∃ r : Int, e = .returned (.int .i64 r) ∧ decide (0 ≤ r) = memB xs x ∧ w' = w := by
  subst hn
  obtain ⟨R, hR⟩ : ∃ R, R = memB xs x := ⟨_, rfl⟩
  rw [← hR]
  have HR : Hid (R = memB xs x) := hR
  clear hR
  go_enter Tryz.func200, Tryz.ntmps200
  go_wp2_with fail
  go_loopw [8] (fun i wr => ∃ (k : Nat), k ≤ xs.length ∧ i = .int .i64 k ∧ Hid (R = memB (xs.drop k) x) ∧ wr = w) (fun i _ => xs.length - (intOf i).toNat)
  case atStart => exact ⟨0, Nat.zero_le _, rfl, HR, rfl⟩
  case round =>
    clear HR
    obtain ⟨k, hk, rfl, HR, rfl⟩ := hrel
    by_cases hlt : k < xs.length
    · obtain ⟨b, off, rfl, hc⟩ := h.at_ k hlt
      have hck := hc k hlt
      rw [getD_at hlt] at hck
      have HY : Hid (x ≠ xs[k] → R = memB (xs.drop (k + 1)) x) := fun h1 => HR.out.trans (memB_step hlt h1)
      have HF : Hid (x = xs[k] → R = true) := fun h1 => HR.out.trans (memB_here hlt h1)
      obtain ⟨z, hz⟩ : ∃ z, z = xs[k] := ⟨_, rfl⟩
      rw [← hz] at hck HY HF
      clear hz hc HR
      by_cases h1 : x = z
      · have HN : Hid (R = true) := HF.out h1
        subst h1
        go_wp2_with fail
        go_ret
        exact ⟨k, rfl, by rw [HN.out]; simp, rfl⟩
      · have HN : Hid (R = memB (xs.drop (k + 1)) x) := HY.out h1
        go_wp2_with fail
        go_roundw
        case rel => exact ⟨k + 1, by omega, by go_num, HN, trivial⟩
        case measure => simp [intOf]; omega
    · have HN : Hid (R = false) := by
        have h1 := HR.out
        rw [List.drop_eq_nil_of_le (by omega)] at h1
        exact h1
      go_wp2_with fail
      go_ret
      exact ⟨-1, rfl, by rw [HN.out]; simp, rfl⟩
theorem contains_any (ao : Option Addr) (n c : Nat) (xs : List Int) (x : Int) (w : World) (hn : xs.length = n) (hl : xs.length ≤ 1048576) (h : Reads w ao xs) :
    Calls Tryz.prog 184 #[.slice ao n c, .int .i64 x] w fun e w' => e = .returned (.bool (memB xs x)) ∧ w' = w := by
  go_enter Tryz.func184, Tryz.ntmps184
  go_wp2_with fail
  refine (index_any ao n c xs x w hn hl h).mono ?_
  rintro e u ⟨r, rfl, hr, rfl⟩
  go_wp2_with fail
  go_ret
  exact ⟨rfl, rfl⟩
end Go.Proofs.YthehhiccfnhinaaGreatDoor
/-
  The program's questions on a board: locks.
-/
namespace Go.Proofs.YthehhiccfnhinaaGreatDoor
open Go.RowKit

def heldB (had : Bool) (wr : Int) (rd : List Int) (e : Ev) : Bool := if e.k = 2 then had else if e.k = 4 then had && (decide (wr ≠ -1) || memB rd e.g) else false
def notHadB (had : Bool) (wr : Int) (rd : List Int) (e : Ev) : Bool := if e.k = 3 then !had || decide (wr ≠ e.g) else if e.k = 5 then !memB rd e.g else false

set_option maxRecDepth 20000 in
set_option maxHeartbeats 1000000 in
theorem isHeld_any (b b1 : Nat) (had : Bool) (lo wr : Int) (ro : Option Addr) (rn rc : Nat) (rd : List Int) (e : Ev) (w : World) (hb : w.cell? ⟨b, 1, none⟩ = some (.map (some b1))) (hn : rd.length = rn) (hl : rd.length ≤ 1048576) (hr : Reads w ro rd)
    (hL : ∀ u, Fr w u → (Instr.lookup 141 (.map (some b1)) (.int .i64 e.o) true).run Tryz.prog u = .ok (.tuple #[.agg #[.int .i64 lo, .int .i64 wr, .slice ro rn rc], .bool had]) u) :
    Calls Tryz.prog 128 #[.pointer (some ⟨b, 0, none⟩), .agg #[.int .i64 e.k, .int .i64 e.g, .int .i64 e.o, .int .i64 e.w, .int .i64 e.l, .int .i64 e.s, .int .i64 e.f, .int .i64 e.t]] w fun x w' => x = .returned (.bool (heldB had wr rd e)) ∧ Fr w w' := by
  have fW := Fr.alloc w (.cells #[.int .i64 e.k, .int .i64 e.g, .int .i64 e.o, .int .i64 e.w, .int .i64 e.l, .int .i64 e.s, .int .i64 e.f, .int .i64 e.t] 31)
  have kE := EvAt.new w e 31
  have hb := fW.cell hb
  obtain ⟨R, hR⟩ : ∃ R, R = heldB had wr rd e := ⟨_, rfl⟩
  rw [← hR]
  have HR : Hid (R = heldB had wr rd e) := hR
  clear hR
  obtain ⟨k, gr, o, wi, l, sz, f, t⟩ := e
  simp only at fW kE hb hL HR ⊢
  have cI := fun u (f : Fr w u) => contains_any ro rn rc rd gr u hn hl (hr.fr f)
  obtain ⟨Q, hQ⟩ : ∃ Q, Q = memB rd gr := ⟨_, rfl⟩
  simp only [← hQ] at cI
  have HQ : Hid (memB rd gr = Q) := hQ.symm
  clear hQ hn hl hr
  go_enter Tryz.func128, Tryz.ntmps128
  go_wp2_with fail
  obtain ⟨W, hW⟩ : ∃ W, W = w.alloc (.cells #[.int .i64 k, .int .i64 gr, .int .i64 o, .int .i64 wi, .int .i64 l, .int .i64 sz, .int .i64 f, .int .i64 t] 31) := ⟨_, rfl⟩
  rw [← hW] at fW kE hb ⊢
  clear hW
  obtain ⟨c0, c1, c2, c3, c4, c5, c6, c7⟩ := kE
  simp only at c0 c1 c2
  clear c3 c4 c5 c6 c7
  have l1 := hL _ (fW.trans (Fr.drew W))
  have l2 := hL _ ((fW.trans (Fr.alloc W (.cells #[.int .i64 0, .int .i64 0, .slice none 0 0] 82))).trans (Fr.drew _))
  clear hL
  go_region_held3 (fun u => u.cell? ⟨b, 1, none⟩ = some (.map (some b1)) ∧ u.cell? ⟨w.heap.size, 2, none⟩ = some (.int .i64 o)) (go_keep) (fail)
  all_goals (
    clear l1 l2
    obtain ⟨V, hV⟩ : ∃ V, V = (W.alloc (.cells #[.int .i64 lo, .int .i64 wr, .slice ro rn rc] 82)).drew := ⟨_, rfl⟩
    have fA : Fr W V := by rw [hV]; exact (Fr.alloc _ _).trans (Fr.drew _)
    have fV : Fr w V := fW.trans fA
    have x0 := fA.cell c0
    have x1 := fA.cell c1
    have y1 : V.cell? ⟨W.heap.size, 1, none⟩ = some (.int .i64 wr) := by rw [hV]; simp [go_sem]
    have y2 : V.cell? ⟨W.heap.size, 2, none⟩ = some (.slice ro rn rc) := by rw [hV]; simp [go_sem]
    rw [← hV]
    clear hV fA c0 c1 c2 hb
    rcases (show k = 2 ∨ k = 4 ∨ (k ≠ 2 ∧ k ≠ 4) by omega) with rfl | rfl | hk
    · have HN : Hid (R = had) := by show R = had; rw [HR.out]; simp [heldB]
      go_wp2_with fail
      go_ret
      exact ⟨ret_bool HN.out.symm, fV⟩
    · cases had
      · have HN : Hid (R = false) := by show R = false; rw [HR.out]; simp [heldB]
        go_wp2_with fail
        go_ret
        exact ⟨ret_bool HN.out.symm, fV⟩
      · by_cases h2 : wr = -1
        · have HN : Hid (R = Q) := by show R = Q; rw [HR.out]; simp only [heldB, HQ.out]; simp [h2]
          subst h2
          go_wp2_with fail
          refine (cI V fV).mono ?_
          rintro e u ⟨rfl, rfl⟩
          go_wp2_with fail
          go_ret
          exact ⟨ret_bool HN.out.symm, fV⟩
        · have HN : Hid (R = true) := by show R = true; rw [HR.out]; simp [heldB, h2]
          have hq : (wr != -1) = true := by simpa using h2
          go_wp2_with fail
          go_ret
          exact ⟨ret_bool HN.out.symm, fV⟩
    · obtain ⟨h1, h2⟩ := hk
      have HN : Hid (R = false) := by show R = false; rw [HR.out]; simp [heldB, h1, h2]
      go_wp2_with fail
      go_ret
      exact ⟨ret_bool HN.out.symm, fV⟩)

set_option maxRecDepth 20000 in
set_option maxHeartbeats 1000000 in
theorem isNotHad_any (b b1 : Nat) (had : Bool) (lo wr : Int) (ro : Option Addr) (rn rc : Nat) (rd : List Int) (e : Ev) (w : World) (hb : w.cell? ⟨b, 1, none⟩ = some (.map (some b1))) (hn : rd.length = rn) (hl : rd.length ≤ 1048576) (hr : Reads w ro rd)
    (hL : ∀ u, Fr w u → (Instr.lookup 141 (.map (some b1)) (.int .i64 e.o) true).run Tryz.prog u = .ok (.tuple #[.agg #[.int .i64 lo, .int .i64 wr, .slice ro rn rc], .bool had]) u) :
    Calls Tryz.prog 129 #[.pointer (some ⟨b, 0, none⟩), .agg #[.int .i64 e.k, .int .i64 e.g, .int .i64 e.o, .int .i64 e.w, .int .i64 e.l, .int .i64 e.s, .int .i64 e.f, .int .i64 e.t]] w fun x w' => x = .returned (.bool (notHadB had wr rd e)) ∧ Fr w w' := by
  have fW := Fr.alloc w (.cells #[.int .i64 e.k, .int .i64 e.g, .int .i64 e.o, .int .i64 e.w, .int .i64 e.l, .int .i64 e.s, .int .i64 e.f, .int .i64 e.t] 31)
  have kE := EvAt.new w e 31
  have hb := fW.cell hb
  obtain ⟨R, hR⟩ : ∃ R, R = notHadB had wr rd e := ⟨_, rfl⟩
  rw [← hR]
  have HR : Hid (R = notHadB had wr rd e) := hR
  clear hR
  obtain ⟨k, gr, o, wi, l, sz, f, t⟩ := e
  simp only at fW kE hb hL HR ⊢
  have cI := fun u (f : Fr w u) => contains_any ro rn rc rd gr u hn hl (hr.fr f)
  obtain ⟨Q, hQ⟩ : ∃ Q, Q = memB rd gr := ⟨_, rfl⟩
  simp only [← hQ] at cI
  have HQ : Hid (memB rd gr = Q) := hQ.symm
  clear hQ hn hl hr
  go_enter Tryz.func129, Tryz.ntmps129
  go_wp2_with fail
  obtain ⟨W, hW⟩ : ∃ W, W = w.alloc (.cells #[.int .i64 k, .int .i64 gr, .int .i64 o, .int .i64 wi, .int .i64 l, .int .i64 sz, .int .i64 f, .int .i64 t] 31) := ⟨_, rfl⟩
  rw [← hW] at fW kE hb ⊢
  clear hW
  obtain ⟨c0, c1, c2, c3, c4, c5, c6, c7⟩ := kE
  simp only at c0 c1 c2
  clear c3 c4 c5 c6 c7
  have l1 := hL _ (fW.trans (Fr.drew W))
  have l2 := hL _ ((fW.trans (Fr.alloc W (.cells #[.int .i64 0, .int .i64 0, .slice none 0 0] 82))).trans (Fr.drew _))
  clear hL
  go_region_held3 (fun u => u.cell? ⟨b, 1, none⟩ = some (.map (some b1)) ∧ u.cell? ⟨w.heap.size, 2, none⟩ = some (.int .i64 o)) (go_keep) (fail)
  all_goals (
    clear l1 l2
    obtain ⟨V, hV⟩ : ∃ V, V = (W.alloc (.cells #[.int .i64 lo, .int .i64 wr, .slice ro rn rc] 82)).drew := ⟨_, rfl⟩
    have fA : Fr W V := by rw [hV]; exact (Fr.alloc _ _).trans (Fr.drew _)
    have fV : Fr w V := fW.trans fA
    have x0 := fA.cell c0
    have x1 := fA.cell c1
    have y1 : V.cell? ⟨W.heap.size, 1, none⟩ = some (.int .i64 wr) := by rw [hV]; simp [go_sem]
    have y2 : V.cell? ⟨W.heap.size, 2, none⟩ = some (.slice ro rn rc) := by rw [hV]; simp [go_sem]
    rw [← hV]
    clear hV fA c0 c1 c2 hb
    rcases (show k = 3 ∨ k = 5 ∨ (k ≠ 3 ∧ k ≠ 5) by omega) with rfl | rfl | hk
    · cases had
      · have HN : Hid (R = true) := by show R = true; rw [HR.out]; simp [notHadB]
        go_wp2_with fail
        go_ret
        exact ⟨ret_bool HN.out.symm, fV⟩
      · by_cases h2 : wr = gr
        · have HN : Hid (R = false) := by show R = false; rw [HR.out]; simp [notHadB, h2]
          subst h2
          go_wp2_with fail
          go_ret
          exact ⟨ret_bool HN.out.symm, fV⟩
        · have HN : Hid (R = true) := by show R = true; rw [HR.out]; simp [notHadB, h2]
          go_wp2_with fail
          go_ret
          first | exact ⟨ret_bool HN.out.symm, fV⟩ | exact ⟨ret_bool ((show (wr != gr) = true by simpa using h2).trans HN.out.symm), fV⟩
    · have HN : Hid (R = !Q) := by show R = !Q; rw [HR.out]; simp [notHadB, HQ.out]
      go_wp2_with fail
      refine (cI V fV).mono ?_
      rintro e u ⟨rfl, rfl⟩
      go_wp2_with fail
      go_ret
      exact ⟨ret_bool HN.out.symm, fV⟩
    · obtain ⟨h1, h2⟩ := hk
      have HN : Hid (R = false) := by show R = false; rw [HR.out]; simp [notHadB, h1, h2]
      go_wp2_with fail
      go_ret
      exact ⟨ret_bool HN.out.symm, fV⟩)
end Go.Proofs.YthehhiccfnhinaaGreatDoor
