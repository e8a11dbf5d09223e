/-
  A board that is a scene: what its maps hold, and that the program's ten questions make the specification's code.
-/
import Derived.Test.YtikjodbboljhjaaGreatDoorScBoard
import Derived.Test.YtikjodbboljhjaaGreatDoorScNum
import Derived.Test.YtikjodbboljhjaaGreatDoorScImpl3
import Derived.Test.YtikjodbboljhjaaGreatDoorScCodeIn
namespace Go.Proofs.YtikjodbboljhjaaGreatDoor
open Go.RowKit

/-- The lock's value that a map holds is the lock that is meant. -/
def LkAt (B : Nat → Prop) (w : World) (v : Option Value) (l : Option Lk) : Prop :=
  (l = none ∧ v = none) ∨ ∃ lk lv, l = some lk ∧ v = some (valL lv) ∧ LkR B w lv lk
theorem LkAt.keep {B : Nat → Prop} {w w' : World} {v : Option Value} {l : Option Lk} {row : Option Nat} (h : LkAt B w v l) (k : w.grownBy w' row) (hr : ∀ j, row = some j → ¬ B j) : LkAt B w' v l := by
  rcases h with h | ⟨lk, lv, h1, h2, h3⟩
  · exact .inl h
  · exact .inr ⟨lk, lv, h1, h2, h3.keep k hr⟩
theorem LkAt.mono {B B' : Nat → Prop} {w : World} {v : Option Value} {l : Option Lk} (h : LkAt B w v l) (hB : ∀ b, B b → B' b) : LkAt B' w v l := by
  rcases h with h | ⟨lk, lv, h1, h2, h3⟩
  · exact .inl h
  · exact .inr ⟨lk, lv, h1, h2, h3.mono hB⟩

/-- Block b is a board, and it is the scene m; its maps have at most n entries each. -/
structure BoardM (B : Nat → Prop) (w : World) (b b1 b2 b3 b4 n : Nat) (m : Scn) : Prop where
  c0 : w.cell? ⟨b, 0, none⟩ = some (.int .i64 m.g)
  c1 : w.cell? ⟨b, 1, none⟩ = some (.map (some b1))
  c2 : w.cell? ⟨b, 2, none⟩ = some (.map (some b2))
  c3 : w.cell? ⟨b, 3, none⟩ = some (.map (some b3))
  c4 : w.cell? ⟨b, 4, none⟩ = some (.map (some b4))
  m1 : ∃ fl, MapF w b1 n fl ∧ ∀ o, LkAt B w (fl o) (m.ls.find? fun l => l.o == o)
  m2 : MapF w b2 n fun o => (m.cs.find? fun c => c.o == o).map valC
  m3 : MapF w b3 n fun o => (m.gs.find? fun c => c.o == o).map valN
  m4 : MapF w b4 n fun o => (m.os.find? fun x => x == o).map valI
theorem MapF.mono {w : World} {b n n' : Nat} {f : Int → Option Value} (h : MapF w b n f) (hn : n ≤ n') : MapF w b n' f := by
  obtain ⟨D, h1, h2⟩ := h
  exact ⟨D, h1.mono hn, h2⟩
theorem BoardM.fr {B : Nat → Prop} {w w' : World} {b b1 b2 b3 b4 n : Nat} {m : Scn} (h : BoardM B w b b1 b2 b3 b4 n m) (k : Fr w w') : BoardM B w' b b1 b2 b3 b4 n m := by
  obtain ⟨fl, q1, q2⟩ := h.m1
  exact ⟨k.cell h.c0, k.cell h.c1, k.cell h.c2, k.cell h.c3, k.cell h.c4, ⟨fl, q1.fr k, fun o => (q2 o).keep k (by simp)⟩, h.m2.fr k, h.m3.fr k, h.m4.fr k⟩

theorem LksR.tail {B : Nat → Prop} {w : World} {lv : Lv} {l : Lk} {lvs : List Lv} {ls : List Lk} (h : LksR B w (lv :: lvs) (l :: ls)) : LkR B w lv l ∧ LksR B w lvs ls :=
  ⟨h.at_ 0 (by simp) (by simp), by have := h.len; simp at this; exact this, fun j h1 h2 => by have := h.at_ (j + 1) (by simp; omega) (by simp; omega); simpa using this⟩
theorem lk_find {B : Nat → Prop} {w : World} (o : Int) : ∀ (lvs : List Lv) (ls : List Lk), LksR B w lvs ls → LkAt B w ((lvs.find? fun l => l.o == o).map valL) (ls.find? fun l => l.o == o)
  | [], [], _ => .inl ⟨rfl, rfl⟩
  | [], _ :: _, h => by have := h.len; simp at this
  | _ :: _, [], h => by have := h.len; simp at this
  | lv :: lvs, l :: ls, h => by
    obtain ⟨h1, h2⟩ := h.tail
    have ih := lk_find o lvs ls h2
    rw [List.find?_cons, List.find?_cons, ← h1.o]
    cases hb : (lv.o == o)
    · exact ih
    · exact .inr ⟨l, lv, rfl, rfl, h1⟩
theorem lk_os {B : Nat → Prop} {w : World} : ∀ (lvs : List Lv) (ls : List Lk), LksR B w lvs ls → lvs.map Lv.o = ls.map Lk.o
  | [], [], _ => rfl
  | [], _ :: _, h => by have := h.len; simp at this
  | _ :: _, [], h => by have := h.len; simp at this
  | lv :: lvs, l :: ls, h => by
    obtain ⟨h1, h2⟩ := h.tail
    rw [List.map_cons, List.map_cons, h1.o, lk_os lvs ls h2]
theorem pair_map {α : Type} {num : α → Int} {xs : List α} (h : (xs.map num).Pairwise (· < ·)) : xs.Pairwise (fun a b => num a < num b) := List.pairwise_map.1 h
/-- What rises in a right scene. -/
theorem sc_rise {m : Scn} (h : scB m = true) : (m.ls.map Lk.o).Pairwise (· < ·) ∧ (m.cs.map Ch.o).Pairwise (· < ·) ∧ (m.gs.map Ct.o).Pairwise (· < ·) ∧ m.os.Pairwise (· < ·) := by
  obtain ⟨-, h1, h2, h3, h4⟩ := scB_parts h
  refine ⟨((rowB_iff _ _ _).1 h1).2, ((rowB_iff _ _ _).1 h2).2, ((rowB_iff _ _ _).1 h3).2, ?_⟩
  have := ((rowB_iff _ _ _).1 h4).2
  simpa using this

theorem boardM_of {B : Nat → Prop} {w : World} {b b1 b2 b3 b4 : Nat} {m : Scn} {lvs : List Lv} (hm : scB m = true) (hL : LksR B w lvs m.ls) (h1 : m.ls.length ≤ 1048576) (h2 : m.cs.length ≤ 1048576) (h3 : m.gs.length ≤ 1048576) (h4 : m.os.length ≤ 1048576)
    (h : Board w b m.g b1 b2 b3 b4 lvs.length m.cs.length m.gs.length m.os.length (numF Lv.o valL lvs) (numF Ch.o valC m.cs) (numF Ct.o valN m.gs) (numF id valI m.os)) : BoardM B w b b1 b2 b3 b4 1048576 m := by
  obtain ⟨r1, r2, r3, r4⟩ := sc_rise hm
  rw [← lk_os _ _ hL] at r1
  have e1 : numF Lv.o valL lvs = fun o => (lvs.find? fun l => l.o == o).map valL := funext fun o => numF_up _ _ _ o (pair_map r1)
  have e2 : numF Ch.o valC m.cs = fun o => (m.cs.find? fun l => l.o == o).map valC := funext fun o => numF_up _ _ _ o (pair_map r2)
  have e3 : numF Ct.o valN m.gs = fun o => (m.gs.find? fun l => l.o == o).map valN := funext fun o => numF_up _ _ _ o (pair_map r3)
  have e4 : numF id valI m.os = fun o => (m.os.find? fun l => l == o).map valI := funext fun o => numF_up _ _ _ o r4
  have q1 := h.m1
  have q2 := h.m2
  have q3 := h.m3
  have q4 := h.m4
  rw [e1] at q1
  rw [e2] at q2
  rw [e3] at q3
  rw [e4] at q4
  have hl := hL.len
  exact ⟨h.c0, h.c1, h.c2, h.c3, h.c4, ⟨_, q1.mono (by omega), fun o => lk_find o lvs m.ls hL⟩, q2.mono h2, q3.mono h3, q4.mono h4⟩

/-- What the maps answer. -/
def chanZ (m : Scn) (o : Int) : Ch := (m.cs.find? fun c => c.o == o).getD ⟨0, 0, 0, 0, false⟩
def countZ (m : Scn) (o : Int) : Ct := (m.gs.find? fun c => c.o == o).getD ⟨0, 0⟩
def lockZ (m : Scn) (o : Int) : Lk := (m.ls.find? fun c => c.o == o).getD ⟨0, 0, []⟩
def hasL (m : Scn) (o : Int) : Bool := (m.ls.find? fun c => c.o == o).isSome
def hasN (m : Scn) (o : Int) : Bool := (m.gs.find? fun c => c.o == o).isSome
def hasO (m : Scn) (o : Int) : Bool := (m.os.find? fun c => c == o).isSome

theorem zeroL (u : World) : (zeroValue 47).run Tryz.prog u = .ok (.agg #[.int .i64 0, .int .i64 0, .slice none 0 0]) u := by kernel_rfl
theorem zeroC (u : World) : (zeroValue 82).run Tryz.prog u = .ok (.agg #[.int .i64 0, .int .i64 0, .int .i64 0, .int .i64 0, .bool false]) u := by kernel_rfl
theorem zeroN (u : World) : (zeroValue 85).run Tryz.prog u = .ok (.agg #[.int .i64 0, .int .i64 0]) u := by kernel_rfl
theorem zeroI (u : World) : (zeroValue 2).run Tryz.prog u = .ok (.int .i64 0) u := by kernel_rfl

theorem BoardM.lookC {B : Nat → Prop} {w : World} {b b1 b2 b3 b4 n : Nat} {m : Scn} (h : BoardM B w b b1 b2 b3 b4 n m) {o : Int} (ho : I64 o) : ∀ u, Fr w u → (Instr.lookup 128 (.map (some b2)) (.int .i64 o) false).run Tryz.prog u = .ok (.agg #[.int .i64 (chanZ m o).o, .int .i64 (chanZ m o).cap, .int .i64 (chanZ m o).sent, .int .i64 (chanZ m o).got, .bool (chanZ m o).cl]) u := by
  intro u f
  rw [(h.m2.fr f).look Tryz.underlying128 (zeroC u) ho]
  unfold chanZ
  cases m.cs.find? (fun c => c.o == o) <;> rfl
theorem BoardM.lookC2 {B : Nat → Prop} {w : World} {b b1 b2 b3 b4 n : Nat} {m : Scn} (h : BoardM B w b b1 b2 b3 b4 n m) {o : Int} (ho : I64 o) : ∀ u, Fr w u → (Instr.lookup 128 (.map (some b2)) (.int .i64 o) true).run Tryz.prog u = .ok (.tuple #[.agg #[.int .i64 (chanZ m o).o, .int .i64 (chanZ m o).cap, .int .i64 (chanZ m o).sent, .int .i64 (chanZ m o).got, .bool (chanZ m o).cl], .bool (isChan m.cs o)]) u := by
  intro u f
  rw [(h.m2.fr f).look_ok Tryz.underlying128 (zeroC u) ho]
  unfold chanZ isChan
  cases m.cs.find? (fun c => c.o == o) <;> rfl
theorem BoardM.lookN2 {B : Nat → Prop} {w : World} {b b1 b2 b3 b4 n : Nat} {m : Scn} (h : BoardM B w b b1 b2 b3 b4 n m) {o : Int} (ho : I64 o) : ∀ u, Fr w u → (Instr.lookup 131 (.map (some b3)) (.int .i64 o) true).run Tryz.prog u = .ok (.tuple #[.agg #[.int .i64 (countZ m o).o, .int .i64 (countZ m o).n], .bool (hasN m o)]) u := by
  intro u f
  rw [(h.m3.fr f).look_ok Tryz.underlying131 (zeroN u) ho]
  unfold countZ hasN
  cases m.gs.find? (fun c => c.o == o) <;> rfl
theorem BoardM.lookN {B : Nat → Prop} {w : World} {b b1 b2 b3 b4 n : Nat} {m : Scn} (h : BoardM B w b b1 b2 b3 b4 n m) {o : Int} (ho : I64 o) : ∀ u, Fr w u → (Instr.lookup 131 (.map (some b3)) (.int .i64 o) false).run Tryz.prog u = .ok (.agg #[.int .i64 (countZ m o).o, .int .i64 (countZ m o).n]) u := by
  intro u f
  rw [(h.m3.fr f).look Tryz.underlying131 (zeroN u) ho]
  unfold countZ
  cases m.gs.find? (fun c => c.o == o) <;> rfl
theorem BoardM.lookO {B : Nat → Prop} {w : World} {b b1 b2 b3 b4 n : Nat} {m : Scn} (h : BoardM B w b b1 b2 b3 b4 n m) {o : Int} (ho : I64 o) : ∃ z : Int, ∀ u, Fr w u → (Instr.lookup 134 (.map (some b4)) (.int .i64 o) true).run Tryz.prog u = .ok (.tuple #[.int .i64 z, .bool (hasO m o)]) u := by
  refine ⟨(m.os.find? fun c => c == o).getD 0, fun u f => ?_⟩
  rw [(h.m4.fr f).look_ok Tryz.underlying134 (zeroI u) ho]
  unfold hasO
  cases m.os.find? (fun c => c == o) <;> rfl
/-- A lock: its value, whichever it is, reads as the lock that is meant. -/
theorem BoardM.lookL {B : Nat → Prop} {w : World} {b b1 b2 b3 b4 n : Nat} {m : Scn} (h : BoardM B w b b1 b2 b3 b4 n m) {o : Int} (ho : I64 o) : ∃ (lo : Int) (ro : Option Addr) (rn rc : Nat), (lockZ m o).rd.length = rn ∧ rn ≤ 1048576 ∧ Reads w ro (lockZ m o).rd ∧ (InB B ro ∧ (ro = none → rc = 0)) ∧
    (∀ u, Fr w u → (Instr.lookup 125 (.map (some b1)) (.int .i64 o) true).run Tryz.prog u = .ok (.tuple #[.agg #[.int .i64 lo, .int .i64 (lockZ m o).wr, .slice ro rn rc], .bool (hasL m o)]) u) ∧
    (∀ u, Fr w u → (Instr.lookup 125 (.map (some b1)) (.int .i64 o) false).run Tryz.prog u = .ok (.agg #[.int .i64 lo, .int .i64 (lockZ m o).wr, .slice ro rn rc]) u) := by
  obtain ⟨fl, q1, q2⟩ := h.m1
  rcases q2 o with ⟨h1, h2⟩ | ⟨lk, lv, h1, h2, h3⟩
  · refine ⟨0, none, 0, 0, by simp [lockZ, h1], by omega, by rw [lockZ, h1]; exact Reads.nil _ _, ⟨inB_none _, fun _ => rfl⟩, fun u f => ?_, fun u f => ?_⟩
    · rw [(q1.fr f).look_ok Tryz.underlying125 (zeroL u) ho, h2]
      simp [lockZ, hasL, h1]
    · rw [(q1.fr f).look Tryz.underlying125 (zeroL u) ho, h2]
      simp [lockZ, h1]
  · refine ⟨lv.o, lv.ro, lv.rn, lv.rc, by simp [lockZ, h1, h3.rn], by have := h3.rn; have := h3.sz; omega, by rw [lockZ, h1]; exact h3.rd, ⟨h3.bl, h3.rc⟩, fun u f => ?_, fun u f => ?_⟩
    · rw [(q1.fr f).look_ok Tryz.underlying125 (zeroL u) ho, h2]
      simp [lockZ, hasL, h1, valL, h3.wr]
    · rw [(q1.fr f).look Tryz.underlying125 (zeroL u) ho, h2]
      simp [lockZ, h1, valL, h3.wr]
end Go.Proofs.YtikjodbboljhjaaGreatDoor
