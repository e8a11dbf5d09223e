/-
  Pack AS: ScBm, ScSame, ScRight, ScImplC.
-/
import Derived.Test.YtcofhmikdkkigaaGreatDoorPfAK
import Derived.Test.YtcofhmikdkkigaaGreatDoorPfAR
import Derived.Test.YtcofhmikdkkigaaGreatDoorPfAM
import Derived.Test.YtcofhmikdkkigaaGreatDoorPfAO
import Derived.Test.YtcofhmikdkkigaaGreatDoorPfAN
import Derived.Deep.RegionHeld3
namespace Go.Proofs.YtcofhmikdkkigaaGreatDoor
open Go.RowKit

def LkAt (B : Nat → Prop) (w : World) (v : Option Value) (l : Option Lk) : Prop :=
  (l = none ∧ v = none) ∨ ∃ lk lv, l = some lk ∧ v = some (valL lv) ∧ LkR B w lv lk
theorem LkAt.keep {B : Nat → Prop} {w w' : World} {v : Option Value} {l : Option Lk} {row : Option Nat} (h : LkAt B w v l) (k : w.grownBy w' row) (hr : ∀ j, row = some j → ¬ B j) : LkAt B w' v l := by
  rcases h with h | ⟨lk, lv, h1, h2, h3⟩
  · exact .inl h
  · exact .inr ⟨lk, lv, h1, h2, h3.keep k hr⟩
theorem LkAt.mono {B B' : Nat → Prop} {w : World} {v : Option Value} {l : Option Lk} (h : LkAt B w v l) (hB : ∀ b, B b → B' b) : LkAt B' w v l := by
  rcases h with h | ⟨lk, lv, h1, h2, h3⟩
  · exact .inl h
  · exact .inr ⟨lk, lv, h1, h2, h3.mono hB⟩

structure BoardM (B : Nat → Prop) (w : World) (b b1 b2 b3 b4 n : Nat) (m : Scn) : Prop where
  c0 : w.cell? ⟨b, 0, none⟩ = some (.int .i64 m.g)
  c1 : w.cell? ⟨b, 1, none⟩ = some (.map (some b1))
  c2 : w.cell? ⟨b, 2, none⟩ = some (.map (some b2))
  c3 : w.cell? ⟨b, 3, none⟩ = some (.map (some b3))
  c4 : w.cell? ⟨b, 4, none⟩ = some (.map (some b4))
  m1 : ∃ fl, MapF w b1 n fl ∧ ∀ o, LkAt B w (fl o) (m.ls.find? fun l => l.o == o)
  m2 : MapF w b2 n fun o => (m.cs.find? fun c => c.o == o).map valC
  m3 : MapF w b3 n fun o => (m.gs.find? fun c => c.o == o).map valN
  m4 : MapF w b4 n fun o => (m.os.find? fun x => x == o).map valI
theorem MapF.mono {w : World} {b n n' : Nat} {f : Int → Option Value} (h : MapF w b n f) (hn : n ≤ n') : MapF w b n' f := by
  obtain ⟨D, h1, h2⟩ := h
  exact ⟨D, h1.mono hn, h2⟩
theorem BoardM.fr {B : Nat → Prop} {w w' : World} {b b1 b2 b3 b4 n : Nat} {m : Scn} (h : BoardM B w b b1 b2 b3 b4 n m) (k : Fr w w') : BoardM B w' b b1 b2 b3 b4 n m := by
  obtain ⟨fl, q1, q2⟩ := h.m1
  exact ⟨k.cell h.c0, k.cell h.c1, k.cell h.c2, k.cell h.c3, k.cell h.c4, ⟨fl, q1.fr k, fun o => (q2 o).keep k (by simp)⟩, h.m2.fr k, h.m3.fr k, h.m4.fr k⟩

theorem LksR.tail {B : Nat → Prop} {w : World} {lv : Lv} {l : Lk} {lvs : List Lv} {ls : List Lk} (h : LksR B w (lv :: lvs) (l :: ls)) : LkR B w lv l ∧ LksR B w lvs ls :=
  ⟨h.at_ 0 (by simp) (by simp), by have := h.len; simp at this; exact this, fun j h1 h2 => by have := h.at_ (j + 1) (by simp; omega) (by simp; omega); simpa using this⟩
theorem lk_find {B : Nat → Prop} {w : World} (o : Int) : ∀ (lvs : List Lv) (ls : List Lk), LksR B w lvs ls → LkAt B w ((lvs.find? fun l => l.o == o).map valL) (ls.find? fun l => l.o == o)
  | [], [], _ => .inl ⟨rfl, rfl⟩
  | [], _ :: _, h => by have := h.len; simp at this
  | _ :: _, [], h => by have := h.len; simp at this
  | lv :: lvs, l :: ls, h => by
    obtain ⟨h1, h2⟩ := h.tail
    have ih := lk_find o lvs ls h2
    rw [List.find?_cons, List.find?_cons, ← h1.o]
    cases hb : (lv.o == o)
    · exact ih
    · exact .inr ⟨l, lv, rfl, rfl, h1⟩
theorem lk_os {B : Nat → Prop} {w : World} : ∀ (lvs : List Lv) (ls : List Lk), LksR B w lvs ls → lvs.map Lv.o = ls.map Lk.o
  | [], [], _ => rfl
  | [], _ :: _, h => by have := h.len; simp at this
  | _ :: _, [], h => by have := h.len; simp at this
  | lv :: lvs, l :: ls, h => by
    obtain ⟨h1, h2⟩ := h.tail
    rw [List.map_cons, List.map_cons, h1.o, lk_os lvs ls h2]
theorem pair_map {α : Type} {num : α → Int} {xs : List α} (h : (xs.map num).Pairwise (· < ·)) : xs.Pairwise (fun a b => num a < num b) := List.pairwise_map.1 h
theorem sc_rise {m : Scn} (h : scB m = true) : (m.ls.map Lk.o).Pairwise (· < ·) ∧ (m.cs.map Ch.o).Pairwise (· < ·) ∧ (m.gs.map Ct.o).Pairwise (· < ·) ∧ m.os.Pairwise (· < ·) := by
  obtain ⟨-, h1, h2, h3, h4⟩ := scB_parts h
  refine ⟨((rowB_iff _ _ _).1 h1).2, ((rowB_iff _ _ _).1 h2).2, ((rowB_iff _ _ _).1 h3).2, ?_⟩
  have := ((rowB_iff _ _ _).1 h4).2
  simpa using this

theorem boardM_of {B : Nat → Prop} {w : World} {b b1 b2 b3 b4 : Nat} {m : Scn} {lvs : List Lv} (hm : scB m = true) (hL : LksR B w lvs m.ls) (h1 : m.ls.length ≤ 1048576) (h2 : m.cs.length ≤ 1048576) (h3 : m.gs.length ≤ 1048576) (h4 : m.os.length ≤ 1048576)
    (h : Board w b m.g b1 b2 b3 b4 lvs.length m.cs.length m.gs.length m.os.length (numF Lv.o valL lvs) (numF Ch.o valC m.cs) (numF Ct.o valN m.gs) (numF id valI m.os)) : BoardM B w b b1 b2 b3 b4 1048576 m := by
  obtain ⟨r1, r2, r3, r4⟩ := sc_rise hm
  rw [← lk_os _ _ hL] at r1
  have e1 : numF Lv.o valL lvs = fun o => (lvs.find? fun l => l.o == o).map valL := funext fun o => numF_up _ _ _ o (pair_map r1)
  have e2 : numF Ch.o valC m.cs = fun o => (m.cs.find? fun l => l.o == o).map valC := funext fun o => numF_up _ _ _ o (pair_map r2)
  have e3 : numF Ct.o valN m.gs = fun o => (m.gs.find? fun l => l.o == o).map valN := funext fun o => numF_up _ _ _ o (pair_map r3)
  have e4 : numF id valI m.os = fun o => (m.os.find? fun l => l == o).map valI := funext fun o => numF_up _ _ _ o r4
  have q1 := h.m1
  have q2 := h.m2
  have q3 := h.m3
  have q4 := h.m4
  rw [e1] at q1
  rw [e2] at q2
  rw [e3] at q3
  rw [e4] at q4
  have hl := hL.len
  exact ⟨h.c0, h.c1, h.c2, h.c3, h.c4, ⟨_, q1.mono (by omega), fun o => lk_find o lvs m.ls hL⟩, q2.mono h2, q3.mono h3, q4.mono h4⟩

def chanZ (m : Scn) (o : Int) : Ch := (m.cs.find? fun c => c.o == o).getD ⟨0, 0, 0, 0, false⟩
def countZ (m : Scn) (o : Int) : Ct := (m.gs.find? fun c => c.o == o).getD ⟨0, 0⟩
def lockZ (m : Scn) (o : Int) : Lk := (m.ls.find? fun c => c.o == o).getD ⟨0, 0, []⟩
def hasL (m : Scn) (o : Int) : Bool := (m.ls.find? fun c => c.o == o).isSome
def hasN (m : Scn) (o : Int) : Bool := (m.gs.find? fun c => c.o == o).isSome
def hasO (m : Scn) (o : Int) : Bool := (m.os.find? fun c => c == o).isSome

theorem zeroL (u : World) : (zeroValue 86).run Tryz.prog u = .ok (.agg #[.int .i64 0, .int .i64 0, .slice none 0 0]) u := by kernel_rfl
theorem zeroC (u : World) : (zeroValue 89).run Tryz.prog u = .ok (.agg #[.int .i64 0, .int .i64 0, .int .i64 0, .int .i64 0, .bool false]) u := by kernel_rfl
theorem zeroN (u : World) : (zeroValue 92).run Tryz.prog u = .ok (.agg #[.int .i64 0, .int .i64 0]) u := by kernel_rfl
theorem zeroI (u : World) : (zeroValue 2).run Tryz.prog u = .ok (.int .i64 0) u := by kernel_rfl

theorem BoardM.lookC {B : Nat → Prop} {w : World} {b b1 b2 b3 b4 n : Nat} {m : Scn} (h : BoardM B w b b1 b2 b3 b4 n m) {o : Int} (ho : I64 o) : ∀ u, Fr w u → (Instr.lookup 132 (.map (some b2)) (.int .i64 o) false).run Tryz.prog u = .ok (.agg #[.int .i64 (chanZ m o).o, .int .i64 (chanZ m o).cap, .int .i64 (chanZ m o).sent, .int .i64 (chanZ m o).got, .bool (chanZ m o).cl]) u := by
  intro u f
  rw [(h.m2.fr f).look Tryz.underlying132 (zeroC u) ho]
  unfold chanZ
  cases m.cs.find? (fun c => c.o == o) <;> rfl
theorem BoardM.lookC2 {B : Nat → Prop} {w : World} {b b1 b2 b3 b4 n : Nat} {m : Scn} (h : BoardM B w b b1 b2 b3 b4 n m) {o : Int} (ho : I64 o) : ∀ u, Fr w u → (Instr.lookup 132 (.map (some b2)) (.int .i64 o) true).run Tryz.prog u = .ok (.tuple #[.agg #[.int .i64 (chanZ m o).o, .int .i64 (chanZ m o).cap, .int .i64 (chanZ m o).sent, .int .i64 (chanZ m o).got, .bool (chanZ m o).cl], .bool (isChan m.cs o)]) u := by
  intro u f
  rw [(h.m2.fr f).look_ok Tryz.underlying132 (zeroC u) ho]
  unfold chanZ isChan
  cases m.cs.find? (fun c => c.o == o) <;> rfl
theorem BoardM.lookN2 {B : Nat → Prop} {w : World} {b b1 b2 b3 b4 n : Nat} {m : Scn} (h : BoardM B w b b1 b2 b3 b4 n m) {o : Int} (ho : I64 o) : ∀ u, Fr w u → (Instr.lookup 135 (.map (some b3)) (.int .i64 o) true).run Tryz.prog u = .ok (.tuple #[.agg #[.int .i64 (countZ m o).o, .int .i64 (countZ m o).n], .bool (hasN m o)]) u := by
  intro u f
  rw [(h.m3.fr f).look_ok Tryz.underlying135 (zeroN u) ho]
  unfold countZ hasN
  cases m.gs.find? (fun c => c.o == o) <;> rfl
theorem BoardM.lookN {B : Nat → Prop} {w : World} {b b1 b2 b3 b4 n : Nat} {m : Scn} (h : BoardM B w b b1 b2 b3 b4 n m) {o : Int} (ho : I64 o) : ∀ u, Fr w u → (Instr.lookup 135 (.map (some b3)) (.int .i64 o) false).run Tryz.prog u = .ok (.agg #[.int .i64 (countZ m o).o, .int .i64 (countZ m o).n]) u := by
  intro u f
  rw [(h.m3.fr f).look Tryz.underlying135 (zeroN u) ho]
  unfold countZ
  cases m.gs.find? (fun c => c.o == o) <;> rfl
theorem BoardM.lookO {B : Nat → Prop} {w : World} {b b1 b2 b3 b4 n : Nat} {m : Scn} (h : BoardM B w b b1 b2 b3 b4 n m) {o : Int} (ho : I64 o) : ∃ z : Int, ∀ u, Fr w u → (Instr.lookup 138 (.map (some b4)) (.int .i64 o) true).run Tryz.prog u = .ok (.tuple #[.int .i64 z, .bool (hasO m o)]) u := by
  refine ⟨(m.os.find? fun c => c == o).getD 0, fun u f => ?_⟩
  rw [(h.m4.fr f).look_ok Tryz.underlying138 (zeroI u) ho]
  unfold hasO
  cases m.os.find? (fun c => c == o) <;> rfl
theorem BoardM.lookL {B : Nat → Prop} {w : World} {b b1 b2 b3 b4 n : Nat} {m : Scn} (h : BoardM B w b b1 b2 b3 b4 n m) {o : Int} (ho : I64 o) : ∃ (lo : Int) (ro : Option Addr) (rn rc : Nat), (lockZ m o).rd.length = rn ∧ rn ≤ 1048576 ∧ Reads w ro (lockZ m o).rd ∧ (InB B ro ∧ (ro = none → rc = 0)) ∧
    (∀ u, Fr w u → (Instr.lookup 129 (.map (some b1)) (.int .i64 o) true).run Tryz.prog u = .ok (.tuple #[.agg #[.int .i64 lo, .int .i64 (lockZ m o).wr, .slice ro rn rc], .bool (hasL m o)]) u) ∧
    (∀ u, Fr w u → (Instr.lookup 129 (.map (some b1)) (.int .i64 o) false).run Tryz.prog u = .ok (.agg #[.int .i64 lo, .int .i64 (lockZ m o).wr, .slice ro rn rc]) u) := by
  obtain ⟨fl, q1, q2⟩ := h.m1
  rcases q2 o with ⟨h1, h2⟩ | ⟨lk, lv, h1, h2, h3⟩
  · refine ⟨0, none, 0, 0, by simp [lockZ, h1], by omega, by rw [lockZ, h1]; exact Reads.nil _ _, ⟨inB_none _, fun _ => rfl⟩, fun u f => ?_, fun u f => ?_⟩
    · rw [(q1.fr f).look_ok Tryz.underlying129 (zeroL u) ho, h2]
      simp [lockZ, hasL, h1]
    · rw [(q1.fr f).look Tryz.underlying129 (zeroL u) ho, h2]
      simp [lockZ, h1]
  · refine ⟨lv.o, lv.ro, lv.rn, lv.rc, by simp [lockZ, h1, h3.rn], by have := h3.rn; have := h3.sz; omega, by rw [lockZ, h1]; exact h3.rd, ⟨h3.bl, h3.rc⟩, fun u f => ?_, fun u f => ?_⟩
    · rw [(q1.fr f).look_ok Tryz.underlying129 (zeroL u) ho, h2]
      simp [lockZ, hasL, h1, valL, h3.wr]
    · rw [(q1.fr f).look Tryz.underlying129 (zeroL u) ho, h2]
      simp [lockZ, h1, valL, h3.wr]
end Go.Proofs.YtcofhmikdkkigaaGreatDoor
namespace Go.Proofs.YtcofhmikdkkigaaGreatDoor
open Go.RowKit

theorem lock_in {m : Scn} (h : scB m = true) (o : Int) : (hasL m o = false ∧ lockOf m.ls o = ⟨o, -1, []⟩ ∧ lockZ m o = ⟨0, 0, []⟩) ∨ (hasL m o = true ∧ lockOf m.ls o = lockZ m o ∧ ((0 ≤ (lockZ m o).wr ∧ (lockZ m o).rd = []) ∨ ((lockZ m o).wr = -1 ∧ 0 < (lockZ m o).rd.length))) := by
  have h1 := (scB_parts h).2.1
  unfold hasL lockOf lockZ
  cases hf : m.ls.find? fun l => l.o == o with
  | none => exact .inl ⟨rfl, rfl, rfl⟩
  | some l =>
    refine .inr ⟨rfl, rfl, ?_⟩
    have hq := rowB_all h1 l (List.mem_of_find?_eq_some hf)
    unfold lkB at hq
    simp only [Bool.and_eq_true] at hq
    obtain ⟨-, -, h2, h3⟩ := hq
    have h2 := inB_true h2
    simp only [Option.getD_some]
    by_cases h4 : 0 ≤ l.wr
    · refine .inl ⟨h4, ?_⟩
      by_cases h5 : 0 < l.rd.length
      · simp [h4, h5] at h3
      · exact List.eq_nil_of_length_eq_zero (by omega)
    · refine .inr ⟨by omega, ?_⟩
      by_cases h5 : 0 < l.rd.length
      · exact h5
      · simp [h4, h5] at h3
theorem chan_z (m : Scn) (o : Int) : (isChan m.cs o = false ∧ chanOf m.cs o = ⟨o, 0, 0, 0, false⟩ ∧ chanZ m o = ⟨0, 0, 0, 0, false⟩) ∨ (isChan m.cs o = true ∧ chanOf m.cs o = chanZ m o) := by
  unfold isChan chanOf chanZ
  cases m.cs.find? fun l => l.o == o with
  | none => exact .inl ⟨rfl, rfl, rfl⟩
  | some l => exact .inr ⟨rfl, rfl⟩
theorem count_z {m : Scn} (h : scB m = true) (o : Int) : countOf m.gs o = (countZ m o).n ∧ (hasN m o = false ∧ (countZ m o).n = 0 ∨ hasN m o = true ∧ 1 ≤ (countZ m o).n) := by
  have h3 := (scB_parts h).2.2.2.1
  unfold countOf countZ hasN
  cases hf : m.gs.find? fun l => l.o == o with
  | none => exact ⟨rfl, .inl ⟨rfl, rfl⟩⟩
  | some c =>
    have := (ctB_in (rowB_all h3 c (List.mem_of_find?_eq_some hf))).2
    exact ⟨rfl, .inr ⟨rfl, this.1⟩⟩
theorem once_z (m : Scn) (o : Int) : memB m.os o = hasO m o := by
  unfold memB hasO
  induction m.os with
  | nil => rfl
  | cons x xs ih =>
    rw [List.any_cons, List.find?_cons, ih]
    cases x == o <;> rfl
theorem chanZ_in {m : Scn} (h : scB m = true) (o : Int) : 0 ≤ (chanZ m o).got ∧ (chanZ m o).got ≤ (chanZ m o).sent ∧ (chanZ m o).sent ≤ 1000000 := by
  have := chan_in h o
  rcases chan_z m o with ⟨-, -, h2⟩ | ⟨-, h2⟩
  · rw [h2]; simp
  · rw [← h2]; omega
theorem evOk_s {e : Ev} (h : evOk e = true) : 0 ≤ e.s ∧ e.s ≤ 1000000000 := by
  unfold evOk at h
  simp only [Bool.and_eq_true] at h
  have h4 := h.1.1.2
  unfold ev4 fitB at h4
  split at h4
  · have h5 := inB_true h4
    have h6 : 0 ≤ loV e.k := by unfold loV; split <;> omega
    have h7 : hiV e.k ≤ 64 := by unfold hiV; split <;> (try split) <;> (try split) <;> (try split) <;> omega
    omega
  · have h5 : e.s = 0 := by simpa using h4
    omega

set_option maxHeartbeats 4000000 in
theorem code_same {m : Scn} (hm : scB m = true) (e : Ev) :
    codeC (evOk e) (lacksB m.g e) (heldB (hasL m e.o) (lockZ m e.o).wr (lockZ m e.o).rd e) (notHadB (hasL m e.o) (lockZ m e.o).wr (lockZ m e.o).rd e) (wchanB (isChan m.cs e.o) (chanZ m e.o) e) (closedB (chanZ m e.o) e) (fullB (chanZ m e.o) e) (emptyB (chanZ m e.o) e) (countB (hasN m e.o) (countZ m e.o).n (chanZ m e.o).sent e) (onceB (hasO m e.o) e) = codeIn m e := by
  unfold codeIn
  cases hE : evOk e
  · simp [codeC]
  obtain ⟨⟨k1, k2⟩, g1, g2⟩ := evOk_k hE
  by_cases hG : gorBad m e
  · have h1 : lacksB m.g e = true := by
      unfold gorBad at hG
      simp only [lacksB, Bool.or_eq_true, Bool.and_eq_true, decide_eq_true_eq]
      rcases hG with h | h | h
      · exact .inl (.inl h)
      · exact .inl (.inr h)
      · exact .inr h
    simp [codeC, h1, hG, hm]
  have h1 : lacksB m.g e = false := by
    unfold gorBad at hG
    cases hb : lacksB m.g e with
    | false => rfl
    | true =>
      simp only [lacksB, Bool.or_eq_true, Bool.and_eq_true, decide_eq_true_eq] at hb
      exact absurd (by rcases hb with (h | h) | h; exact .inl h; exact .inr (.inl h); exact .inr (.inr h)) hG
  rw [if_neg (by simp [hm]), if_neg hG]
  obtain ⟨hc0, hc1⟩ := count_z hm e.o
  have ho := once_z m e.o
  have hl := lock_in hm e.o
  have hc := chan_z m e.o
  unfold codeC
  rw [h1]
  simp only [Bool.true_eq_false, if_false, Bool.false_eq_true]
  unfold restCode lockCode chanCode heldB notHadB wchanB closedB fullB emptyB countB onceB
  rw [hc0, ho]
  clear hG h1 hE hc0 ho hm
  obtain ⟨L, hL⟩ : ∃ L, L = lockZ m e.o := ⟨_, rfl⟩
  obtain ⟨C, hC⟩ : ∃ L, L = chanZ m e.o := ⟨_, rfl⟩
  obtain ⟨N, hN⟩ : ∃ L, L = (countZ m e.o).n := ⟨_, rfl⟩
  obtain ⟨L1, hL1⟩ : ∃ L, L = lockOf m.ls e.o := ⟨_, rfl⟩
  obtain ⟨C1, hC1⟩ : ∃ L, L = chanOf m.cs e.o := ⟨_, rfl⟩
  rw [← hL, ← hL1] at hl
  rw [← hC, ← hC1] at hc
  rw [← hN] at hc1
  simp only [← hL, ← hC, ← hN, ← hL1, ← hC1]
  clear hL hC hN hL1 hC1
  obtain ⟨k, gr, o, wi, l, sz, f, t⟩ := e
  simp only at *
  have hk : k = 1 ∨ k = 2 ∨ k = 3 ∨ k = 4 ∨ k = 5 ∨ k = 6 ∨ k = 7 ∨ k = 8 ∨ k = 9 ∨ k = 10 ∨ k = 11 ∨ k = 12 ∨ k = 13 ∨ k = 14 ∨ k = 15 ∨ k = 16 ∨ (17 ≤ k ∧ k ≤ 22) := by omega
  rcases hk with rfl | rfl | rfl | rfl | rfl | rfl | rfl | rfl | rfl | rfl | rfl | rfl | rfl | rfl | rfl | rfl | hk
  · simp
  · rcases hl with ⟨h1, h2, h3⟩ | ⟨h1, h2, h3⟩
    · simp [h1, h2]
    · subst h2
      rcases h3 with ⟨h3, h4⟩ | ⟨h3, h4⟩ <;> simp [h1, h3, h4]
  · rcases hl with ⟨h1, h2, h3⟩ | ⟨h1, h2, h3⟩
    · have : ¬ (-1 = gr) := by omega
      simp [h1, h2, this]
    · subst h2
      by_cases h5 : L1.wr = gr <;> simp [h1, h5]
  · rcases hl with ⟨h1, h2, h3⟩ | ⟨h1, h2, h3⟩
    · simp [h1, h2, memB]
    · subst h2
      rcases h3 with ⟨h3, h4⟩ | ⟨h3, h4⟩
      · have : ¬ (L1.wr = -1) := by omega
        simp [h1, h3, this]
      · have : ¬ (0 ≤ (-1 : Int)) := by omega
        simp [h1, h3]
  · rcases hl with ⟨h1, h2, h3⟩ | ⟨h1, h2, h3⟩
    · subst h2; subst h3; simp [memB]
    · subst h2
      cases memB L1.rd gr <;> simp
  · cases isChan m.cs o <;> simp
  · rcases hc with ⟨h1, h2, h3⟩ | ⟨h1, h2⟩
    · simp [h1]
    · subst h2
      by_cases q1 : C1.cap = 0 <;> cases q2 : C1.cl <;> by_cases q3 : C1.sent - C1.got = C1.cap <;> by_cases q4 : C1.sent = 1000000 <;> simp [h1, q1, q3, q4]
  · rcases hc with ⟨h1, h2, h3⟩ | ⟨h1, h2⟩
    · simp [h1]
    · subst h2
      by_cases q1 : C1.cap = 0 <;> by_cases q3 : C1.sent = C1.got <;> simp [h1, q1, q3]
  · rcases hc with ⟨h1, h2, h3⟩ | ⟨h1, h2⟩
    · simp [h1]
    · subst h2
      by_cases q1 : C1.cap = 0 <;> cases q2 : C1.cl <;> simp [h1, q1]
  · rcases hc with ⟨h1, h2, h3⟩ | ⟨h1, h2⟩
    · simp [h1]
    · subst h2
      cases q2 : C1.cl <;> simp [h1]
  · rcases hc with ⟨h1, h2, h3⟩ | ⟨h1, h2⟩
    · simp [h1]
    · subst h2
      cases q2 : C1.cl <;> by_cases q3 : C1.sent = C1.got <;> simp [h1, q3]
  · simp
  · rcases hc1 with ⟨h1, h2⟩ | ⟨h1, h2⟩
    · simp [h1, h2]
    · have : ¬ N = 0 := by omega
      simp [h1, this]
  · rcases hc1 with ⟨h1, h2⟩ | ⟨h1, h2⟩
    · simp [h1, h2]
    · have : ¬ N = 0 := by omega
      simp [h1, this]
  · cases hasO m o <;> simp
  · cases hasO m o <;> simp
  · have a1 : ¬ k = 2 := by omega
    have a2 : ¬ k = 3 := by omega
    have a3 : ¬ k = 4 := by omega
    have a4 : ¬ k = 5 := by omega
    have a5 : ¬ k = 6 := by omega
    have a6 : ¬ k = 7 := by omega
    have a7 : ¬ k = 8 := by omega
    have a8 : ¬ k = 9 := by omega
    have a9 : ¬ k = 10 := by omega
    have b1 : ¬ k = 11 := by omega
    have b2 : ¬ k = 12 := by omega
    have b3 : ¬ k = 13 := by omega
    have b4 : ¬ k = 14 := by omega
    have b5 : ¬ k = 15 := by omega
    have b6 : ¬ k = 16 := by omega
    have b7 : ¬ (2 ≤ k ∧ k ≤ 5) := by omega
    have b8 : ¬ (6 ≤ k ∧ k ≤ 11) := by omega
    simp only [a1, a2, a3, a4, a5, a6, a7, a8, a9, b1, b2, b3, b4, b5, b6, b7, b8, or_self, if_false, decide_false, Bool.false_and, Bool.false_eq_true]

theorem codeM_any {B : Nat → Prop} {b b1 b2 b3 b4 n : Nat} {m : Scn} (e : Ev) (w : World) (h : BoardM B w b b1 b2 b3 b4 n m) (hm : scB m = true) (hs : Shapes w) (ho : I64 e.o) :
    Calls Tryz.prog 59 #[.pointer (some ⟨b, 0, none⟩), .agg #[.int .i64 e.k, .int .i64 e.g, .int .i64 e.o, .int .i64 e.w, .int .i64 e.l, .int .i64 e.s, .int .i64 e.f, .int .i64 e.t]] w fun x w' => x = .returned (.int .i64 (codeIn m e)) ∧ Fr w w' := by
  rw [← code_same hm e]
  obtain ⟨lo, ro, rn, rc, l1, l2, l3, -, l4, -⟩ := h.lookL ho
  obtain ⟨z, z1⟩ := h.lookO ho
  have hc := chanZ_in hm e.o
  have hn := count_in hm e.o
  rw [(count_z hm e.o).1] at hn
  exact codeFor_any b e w _ _ _ _ _ _ _ _ _ _ (fun u f => implOk_any e u (hs.fr f))
    (fun _ u f => lacksGor_any b m.g e u (f.cell h.c0))
    (fun _ u f => isHeld_any b b1 _ lo _ ro rn rc _ e u (f.cell h.c1) l1 (by omega) (l3.fr f) (fun v g => l4 v (f.trans g)))
    (fun _ u f => isNotHad_any b b1 _ lo _ ro rn rc _ e u (f.cell h.c1) l1 (by omega) (l3.fr f) (fun v g => l4 v (f.trans g)))
    (fun _ u f => isWrongChan_any b b2 _ _ e u (f.cell h.c2) (fun v g => h.lookC2 ho v (f.trans g)))
    (fun _ u f => isWronglyClosed_any b b2 _ e u (f.cell h.c2) (fun v g => h.lookC ho v (f.trans g)))
    (fun _ u f => isFull_any b b2 _ e u (f.cell h.c2) hc (fun v g => h.lookC ho v (f.trans g)))
    (fun _ u f => isWronglyEmpty_any b b2 _ e u (f.cell h.c2) (fun v g => h.lookC ho v (f.trans g)))
    (fun hE u f => isMiscounted_any b b2 b3 _ _ _ _ e u (f.cell h.c3) (f.cell h.c2) hn (evOk_s hE) (fun v g => h.lookN2 ho v (f.trans g)) (fun v g => h.lookC ho v (f.trans g)))
    (fun _ u f => isWrongOnce_any b b4 _ z e u (f.cell h.c4) (fun v g => z1 v (f.trans g)))
end Go.Proofs.YtcofhmikdkkigaaGreatDoor
namespace Go.Proofs.YtcofhmikdkkigaaGreatDoor
open Go.RowKit

section lists
variable {α : Type} (key : α → Int) (x : α)

theorem fold_true : ∀ (xs out : List α), xs.foldl (setS key x) (out, true) = (out ++ xs.filter (fun y => !(key y == key x)), true)
  | [], out => by simp
  | y :: ys, out => by
    rw [List.foldl_cons]
    by_cases h : key y = key x
    · rw [setS_by h, fold_true ys out, List.filter_cons_of_neg (by simp [h])]
    · rw [setS_go h, fold_true ys (out ++ [y]), List.filter_cons_of_pos (by simp [h])]
      simp
theorem setL_del (xs : List α) : setL key x true xs = xs.filter (fun y => !(key y == key x)) := by
  unfold setL setP
  rw [fold_true]
  simp
theorem fold_false : ∀ (xs out : List α), (xs.map key).Pairwise (· < ·) → (if (xs.foldl (setS key x) (out, false)).2 then (xs.foldl (setS key x) (out, false)).1 else (xs.foldl (setS key x) (out, false)).1 ++ [x]) = out ++ xs.filter (fun y => decide (key y < key x)) ++ [x] ++ xs.filter (fun y => decide (key x < key y))
  | [], out, _ => by simp
  | y :: ys, out, h => by
    rw [List.map_cons, List.pairwise_cons] at h
    obtain ⟨h1, h2⟩ := h
    have h1 : ∀ z ∈ ys, key y < key z := fun z hz => h1 _ (List.mem_map_of_mem hz)
    rw [List.foldl_cons]
    by_cases hlt : key y < key x
    · rw [setS_on hlt, fold_false ys (out ++ [y]) h2, List.filter_cons_of_pos (by simpa using hlt), List.filter_cons_of_neg (by simp; omega)]
      simp
    · by_cases heq : key y = key x
      · rw [setS_at heq, fold_true]
        have e1 : ys.filter (fun z => !(key z == key x)) = ys.filter (fun z => decide (key x < key z)) := List.filter_congr fun z hz => by
          have := h1 z hz
          have q1 : ¬ key z = key x := by omega
          have q2 : key x < key z := by omega
          simp [q1, q2]
        have e2 : ys.filter (fun z => decide (key z < key x)) = [] := List.filter_eq_nil_iff.2 fun z hz => by
          have := h1 z hz
          simp; omega
        rw [List.filter_cons_of_neg (by simp; omega), List.filter_cons_of_neg (by simp; omega), e1, e2]
        simp
      · have hgt : key x < key y := by omega
        rw [setS_in hgt, fold_true]
        have e1 : ys.filter (fun z => !(key z == key x)) = ys.filter (fun z => decide (key x < key z)) := List.filter_congr fun z hz => by
          have := h1 z hz
          have q1 : ¬ key z = key x := by omega
          have q2 : key x < key z := by omega
          simp [q1, q2]
        have e2 : ys.filter (fun z => decide (key z < key x)) = [] := List.filter_eq_nil_iff.2 fun z hz => by
          have := h1 z hz
          simp; omega
        rw [List.filter_cons_of_neg (by simp; omega), List.filter_cons_of_pos (by simpa using hgt), e1, e2]
        simp
theorem setL_put (xs : List α) (h : (xs.map key).Pairwise (· < ·)) : setL key x false xs = xs.filter (fun y => decide (key y < key x)) ++ [x] ++ xs.filter (fun y => decide (key x < key y)) := by
  have h2 := fold_false key x xs [] h
  unfold setL setP
  cases hb : (xs.foldl (setS key x) ([], false)).2 <;> rw [hb] at h2 <;> simpa using h2

theorem rise_setL (put : Bool) (xs : List α) (h : (xs.map key).Pairwise (· < ·)) : ((setL key x put xs).map key).Pairwise (· < ·) := by
  have h := List.pairwise_map.1 h
  cases put
  · rw [setL_put key x xs (List.pairwise_map.2 h)]
    refine List.pairwise_map.2 ?_
    rw [List.append_assoc, List.pairwise_append]
    refine ⟨h.sublist List.filter_sublist, ?_, fun a ha b hb => ?_⟩
    · rw [List.singleton_append, List.pairwise_cons]
      exact ⟨fun b hb => by have := (List.mem_filter.1 hb).2; simpa using this, h.sublist List.filter_sublist⟩
    · have ha := (List.mem_filter.1 ha).2
      simp only [decide_eq_true_eq] at ha
      rcases List.mem_append.1 hb with hb | hb
      · rw [List.mem_singleton.1 hb]; exact ha
      · have hb := (List.mem_filter.1 hb).2
        simp only [decide_eq_true_eq] at hb
        omega
  · rw [setL_del]
    exact List.pairwise_map.2 (h.sublist List.filter_sublist)
theorem mem_setL (put : Bool) (xs : List α) (h : (xs.map key).Pairwise (· < ·)) : ∀ y ∈ setL key x put xs, y ∈ xs ∨ (put = false ∧ y = x) := by
  intro y hy
  cases put
  · rw [setL_put key x xs h] at hy
    rcases List.mem_append.1 hy with hy | hy
    · rcases List.mem_append.1 hy with hy | hy
      · exact .inl (List.mem_filter.1 hy).1
      · exact .inr ⟨rfl, List.mem_singleton.1 hy⟩
    · exact .inl (List.mem_filter.1 hy).1
  · rw [setL_del] at hy
    exact .inl (List.mem_filter.1 hy).1
theorem find_filter (p : α → Bool) (o : Int) : ∀ (xs : List α), (∀ y, key y = o → p y = true) → (xs.filter p).find? (fun y => key y == o) = xs.find? (fun y => key y == o)
  | [], _ => rfl
  | y :: ys, h => by
    by_cases hy : key y = o
    · rw [List.filter_cons_of_pos (h y hy), List.find?_cons, List.find?_cons]
      simp [hy]
    · have e : (key y == o) = false := by simpa using hy
      cases hp : p y
      · rw [List.filter_cons_of_neg (by simp [hp]), find_filter p o ys h, List.find?_cons, e]
      · rw [List.filter_cons_of_pos hp, List.find?_cons, List.find?_cons, e, find_filter p o ys h]
theorem find_out (p : α → Bool) (o : Int) (xs : List α) (h : ∀ y, key y = o → p y = false) : (xs.filter p).find? (fun y => key y == o) = none :=
  List.find?_eq_none.2 fun y hy => by
    have hp := (List.mem_filter.1 hy).2
    intro q
    rw [h y (by simpa using q)] at hp
    cases hp
theorem find_setL (put : Bool) (xs : List α) (h : (xs.map key).Pairwise (· < ·)) (o : Int) : (setL key x put xs).find? (fun y => key y == o) = if o = key x then (if put = true then none else some x) else xs.find? (fun y => key y == o) := by
  by_cases ho : o = key x
  · rw [if_pos ho]
    subst ho
    cases put
    · rw [setL_put key x xs h, List.append_assoc, List.find?_append, find_out key _ _ xs (fun y hy => by simp; omega)]
      simp
    · rw [setL_del, find_out key _ _ xs (fun y hy => by simp [hy])]
      simp
  · rw [if_neg ho]
    cases put
    · rw [setL_put key x xs h, List.append_assoc, List.find?_append, List.singleton_append, List.find?_cons, show (key x == o) = false by simpa using fun q => ho q.symm]
      by_cases hlt : o < key x
      · rw [find_filter key (fun y => decide (key y < key x)) o xs (fun y hy => by simp; omega), find_out key (fun y => decide (key x < key y)) o xs (fun y hy => by simp; omega)]
        simp
      · rw [find_out key (fun y => decide (key y < key x)) o xs (fun y hy => by simp; omega), find_filter key (fun y => decide (key x < key y)) o xs (fun y hy => by simp; omega)]
        simp
    · rw [setL_del, find_filter key _ o xs (fun y hy => by simp; omega)]
end lists

theorem inP_true (x : Int) : ∀ (xs out : List Int), xs.foldl (inS x) (out, true) = (out ++ xs, true)
  | [], out => by simp
  | y :: ys, out => by
    rw [List.foldl_cons, show inS x (out, true) y = (out ++ [y], true) by simp [inS], inP_true x ys]
    simp
theorem inP_false (x : Int) : ∀ (xs out : List Int), xs.Pairwise (· < ·) → (if (xs.foldl (inS x) (out, false)).2 then (xs.foldl (inS x) (out, false)).1 else (xs.foldl (inS x) (out, false)).1 ++ [x]) = out ++ xs.filter (fun y => decide (y ≤ x)) ++ [x] ++ xs.filter (fun y => decide (x < y))
  | [], out, _ => by simp
  | y :: ys, out, h => by
    rw [List.pairwise_cons] at h
    obtain ⟨h1, h2⟩ := h
    rw [List.foldl_cons]
    by_cases hlt : x < y
    · rw [show inS x (out, false) y = (out ++ [x] ++ [y], true) by simp [inS, hlt], inP_true]
      have e1 : ys.filter (fun z => decide (x < z)) = ys := List.filter_eq_self.2 fun z hz => by
        have := h1 z hz
        simp; omega
      have e2 : ys.filter (fun z => decide (z ≤ x)) = [] := List.filter_eq_nil_iff.2 fun z hz => by
        have := h1 z hz
        simp; omega
      rw [List.filter_cons_of_neg (by simp; omega), List.filter_cons_of_pos (by simpa using hlt), e1, e2]
      simp
    · rw [show inS x (out, false) y = (out ++ [y], false) by simp [inS, hlt], inP_false x ys _ h2, List.filter_cons_of_pos (by simp; omega), List.filter_cons_of_neg (by simpa using hlt)]
      simp
theorem withL_eq (xs : List Int) (x : Int) (h : xs.Pairwise (· < ·)) : withL xs x = xs.filter (fun y => decide (y ≤ x)) ++ [x] ++ xs.filter (fun y => decide (x < y)) := by
  have h2 := inP_false x xs [] h
  unfold withL inP
  cases hb : (xs.foldl (inS x) ([], false)).2 <;> rw [hb] at h2 <;> simpa using h2
theorem mem_withL (xs : List Int) (x : Int) (h : xs.Pairwise (· < ·)) (y : Int) : y ∈ withL xs x ↔ y ∈ xs ∨ y = x := by
  rw [withL_eq xs x h]
  simp only [List.mem_append, List.mem_filter, decide_eq_true_eq, List.mem_singleton]
  constructor
  · rintro ((h | h) | h)
    · exact .inl h.1
    · exact .inr h
    · exact .inl h.1
  · rintro (h | h)
    · by_cases q : y ≤ x
      · exact .inl (.inl ⟨h, q⟩)
      · exact .inr ⟨h, by omega⟩
    · exact .inl (.inr h)
theorem rise_withL (xs : List Int) (x : Int) (h : xs.Pairwise (· < ·)) (hx : memB xs x = false) : (withL xs x).Pairwise (· < ·) := by
  have hn : ∀ y ∈ xs, y ≠ x := fun y hy e => by
    rw [memB, List.any_eq_false] at hx
    exact hx y hy (by simp [e])
  rw [withL_eq xs x h, List.append_assoc, List.pairwise_append]
  refine ⟨h.sublist List.filter_sublist, ?_, fun a ha b hb => ?_⟩
  · rw [List.singleton_append, List.pairwise_cons]
    exact ⟨fun b hb => by have := (List.mem_filter.1 hb).2; simpa using this, h.sublist List.filter_sublist⟩
  · obtain ⟨ha1, ha2⟩ := List.mem_filter.1 ha
    have hne := hn a ha1
    simp only [decide_eq_true_eq] at ha2
    rcases List.mem_append.1 hb with hb | hb
    · rw [List.mem_singleton.1 hb]; omega
    · have hb := (List.mem_filter.1 hb).2
      simp only [decide_eq_true_eq] at hb
      omega
theorem find_self (o : Int) : ∀ (xs : List Int), xs.find? (fun y => y == o) = if o ∈ xs then some o else none
  | [] => by simp
  | y :: ys => by
    rw [List.find?_cons]
    by_cases h : y = o
    · simp [h]
    · have e : (y == o) = false := by simpa using h
      have e2 : ¬ o = y := fun q => h q.symm
      rw [e, find_self o ys]
      simp [e2]
end Go.Proofs.YtcofhmikdkkigaaGreatDoor
namespace Go.Proofs.YtcofhmikdkkigaaGreatDoor
open Go.RowKit

set_option maxRecDepth 20000 in
set_option maxHeartbeats 4000000 in
theorem implCode_any {B : Nat → Prop} (s : Sv) (m : Scn) (e : Ev) (w : World) (h : ScR B w s m) (hs : Shapes w) (ho : I64 e.o) :
    Calls Tryz.prog 15 #[.agg #[.int .i64 s.g, .slice s.lo s.ll s.lc, .slice s.co s.cl s.cc, .slice s.no s.nl s.nc, .slice s.oo s.ol s.oc], .agg #[.int .i64 e.k, .int .i64 e.g, .int .i64 e.o, .int .i64 e.w, .int .i64 e.l, .int .i64 e.s, .int .i64 e.f, .int .i64 e.t]] w fun x w' => x = .returned (.int .i64 (codeIn m e)) ∧ Fr w w' := by
  obtain ⟨k1, k2, fW, hz⟩ := box2 w s e
  obtain ⟨lvs, r1, e1, l1⟩ := h.lks
  have cS := fun u (f : Fr w u) => implScene_any s m u (h.fr f)
  have cB := fun u (f : Fr w u) => boardOf_any s m lvs u (h.fr f) (r1.fr f) e1 (l1.fr f)
  have cC := fun (hm : scB m = true) u (f : Fr w u) b b1 b2 b3 b4 (Bd : Board u b m.g b1 b2 b3 b4 lvs.length m.cs.length m.gs.length m.os.length (numF Lv.o valL lvs) (numF Ch.o valC m.cs) (numF Ct.o valN m.gs) (numF id valI m.os)) => codeM_any e u (boardM_of hm (l1.fr f) h.sl h.sc h.sn h.so Bd) hm (hs.fr f) ho
  obtain ⟨FL, hFL⟩ : ∃ F, F = numF Lv.o valL lvs := ⟨_, rfl⟩
  obtain ⟨FC, hFC⟩ : ∃ F, F = numF Ch.o valC m.cs := ⟨_, rfl⟩
  obtain ⟨FN, hFN⟩ : ∃ F, F = numF Ct.o valN m.gs := ⟨_, rfl⟩
  obtain ⟨FO, hFO⟩ : ∃ F, F = numF id valI m.os := ⟨_, rfl⟩
  simp only [← hFL, ← hFC, ← hFN, ← hFO] at cB cC
  have h1 : scB m = false → codeIn m e = 1 := fun q => by simp [codeIn, q]
  clear hFL hFC hFN hFO h r1 e1 l1 hs ho
  obtain ⟨R, hR⟩ : ∃ R, R = codeIn m e := ⟨_, rfl⟩
  rw [← hR] at h1 ⊢
  simp only [← hR] at cC
  clear hR
  obtain ⟨SO, hSO⟩ : ∃ S, S = scB m := ⟨_, rfl⟩
  simp only [← hSO] at cS h1 cC
  clear hSO
  obtain ⟨k, gr, o, wi, l, sz, f, t⟩ := e
  obtain ⟨sg, lo, ll, lc, co, cl, cc, no, nl, nc, oo, ol, oc⟩ := s
  simp only at k1 k2 fW hz cS cB cC ⊢
  go_enter Tryz.func15, Tryz.ntmps15
  go_wp2_with fail
  obtain ⟨W, hW⟩ : ∃ W, W = (w.alloc (.cells #[.int .i64 sg, .slice lo ll lc, .slice co cl cc, .slice no nl nc, .slice oo ol oc] 29)).alloc (.cells #[.int .i64 k, .int .i64 gr, .int .i64 o, .int .i64 wi, .int .i64 l, .int .i64 sz, .int .i64 f, .int .i64 t] 31) := ⟨_, rfl⟩
  rw [← hW] at k1 k2 fW hz ⊢
  clear hW
  obtain ⟨A, hA⟩ : ∃ A, A = w.heap.size := ⟨_, rfl⟩
  rw [← hA] at k1 k2 ⊢
  clear hA hz
  have HQ : Hid (∀ u, Fr W u → ScB u A ⟨sg, lo, ll, lc, co, cl, cc, no, nl, nc, oo, ol, oc⟩ ∧ EvAt u (A + 1) ⟨k, gr, o, wi, l, sz, f, t⟩) := fun u f => ⟨(k1.fr f).at, (k2.keep f (by simp)).at⟩
  clear k1 k2
  refine (cS W fW).mono ?_
  rintro x u1 ⟨rfl, f1⟩
  clear cS
  cases SO
  · have e1 := h1 rfl
    clear h1 cC cB
    subst e1
    go_wp2_with fail
    go_ret
    exact ⟨rfl, fW.trans f1⟩
  have cD := cC (by trivial)
  clear cC
  clear h1
  obtain ⟨⟨s0, s1, s2, s3, s4⟩, c0, c1, c2, c3, c4, c5, c6, c7⟩ := HQ.out u1 f1
  simp only at s0 s1 s2 s3 s4 c0 c1 c2 c3 c4 c5 c6 c7
  have fD : Fr w u1.drew := (fW.trans f1).trans (Fr.drew u1)
  have gD : Fr W u1.drew := f1.trans (Fr.drew u1)
  clear f1
  go_wp2_with fail
  go_region_held3 (fun u => u.cell? ⟨A, 0, none⟩ = some (.int .i64 sg) ∧ u.cell? ⟨A, 1, none⟩ = some (.slice lo ll lc) ∧ u.cell? ⟨A, 2, none⟩ = some (.slice co cl cc) ∧ u.cell? ⟨A, 3, none⟩ = some (.slice no nl nc) ∧ u.cell? ⟨A, 4, none⟩ = some (.slice oo ol oc) ∧ u.cell? ⟨A + 1, 0, none⟩ = some (.int .i64 k) ∧ u.cell? ⟨A + 1, 1, none⟩ = some (.int .i64 gr) ∧ u.cell? ⟨A + 1, 2, none⟩ = some (.int .i64 o) ∧ u.cell? ⟨A + 1, 3, none⟩ = some (.int .i64 wi) ∧ u.cell? ⟨A + 1, 4, none⟩ = some (.int .i64 l) ∧ u.cell? ⟨A + 1, 5, none⟩ = some (.int .i64 sz) ∧ u.cell? ⟨A + 1, 6, none⟩ = some (.int .i64 f) ∧ u.cell? ⟨A + 1, 7, none⟩ = some (.int .i64 t)) (go_keep)
    (first | (go_at_call 51; refine (cB _ fD).mono ?_; rintro x u2 ⟨b, b1, b2, b3, b4, rfl, -, Bd, f2⟩; have g2 := gD.trans f2; obtain ⟨⟨p0, p1, p2, p3, p4⟩, q0, q1, q2, q3, q4, q5, q6, q7⟩ := HQ.out _ g2; simp only at p0 p1 p2 p3 p4 q0 q1 q2 q3 q4 q5 q6 q7) | (go_at_call 59; refine (cD _ (fW.trans g2) b b1 b2 b3 b4 Bd).mono ?_; rintro x u3 ⟨rfl, f3⟩; have g3 := g2.trans f3; obtain ⟨⟨v0, v1, v2, v3, v4⟩, y0, y1, y2, y3, y4, y5, y6, y7⟩ := HQ.out _ g3; simp only at v0 v1 v2 v3 v4 y0 y1 y2 y3 y4 y5 y6 y7))
  go_wp2_with fail
  go_ret
  exact ⟨rfl, fW.trans g3⟩
end Go.Proofs.YtcofhmikdkkigaaGreatDoor
