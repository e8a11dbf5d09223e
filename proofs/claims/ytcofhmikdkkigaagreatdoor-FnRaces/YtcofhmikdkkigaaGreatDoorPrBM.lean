/-
  Pack BM: ScChance2.
-/
import Derived.Test.YtcofhmikdkkigaaGreatDoorPrBL
import Derived.Test.YtcofhmikdkkigaaGreatDoorPrAV
import Derived.Test.YtcofhmikdkkigaaGreatDoorPrAH
namespace Go.Proofs.YtcofhmikdkkigaaGreatDoor
open Go.RowKit

theorem DX.past2 {w u u' : World} {d n cap A : Nat} {ao : Option Addr} (h : DX w u d ao n cap) (k : u.grownBy u' (some A)) (hA : d < A ∧ w.heap.size ≤ A) (hb : 0 < n → ∀ q, blk ao = some q → q < w.heap.size) : DX w u' d ao n cap := by
  obtain ⟨i, x, hd⟩ := h.dice
  have e1 : w.grownBy u' (some d) := ⟨k.os.trans h.g.os, k.tape.trans h.g.tape, k.output.trans h.g.output, Nat.le_trans h.g.size k.size, fun j hj hn => (k.block j (Nat.lt_of_lt_of_le hj h.g.size) (fun e => by cases e; omega)).trans (h.g.block j hj hn)⟩
  refine ⟨e1, ⟨i, x, (k.block d hd.lt (fun e => by cases e; omega)).trans hd⟩, fun j hj => ?_, h.ap⟩
  obtain ⟨b, off, e, hr⟩ := h.row j hj
  exact ⟨b, off, e, fun q hq => by
    obtain ⟨v, hv, h0, h1⟩ := hr q hq
    exact ⟨v, k.cell hv (by have := hb (by omega) b (by rw [e]; rfl); simp; omega), h0, h1⟩⟩
theorem EvB.put8 {u : World} {b : Nat} {e : Ev} (h : EvB u b e) (f : Ev) : EvB ((((((((u.setCell ⟨b, 0, none⟩ (.int .i64 f.k)).setCell ⟨b, 1, none⟩ (.int .i64 f.g)).setCell ⟨b, 2, none⟩ (.int .i64 f.o)).setCell ⟨b, 3, none⟩ (.int .i64 f.w)).setCell ⟨b, 4, none⟩ (.int .i64 f.l)).setCell ⟨b, 5, none⟩ (.int .i64 f.s)).setCell ⟨b, 6, none⟩ (.int .i64 f.f)).setCell ⟨b, 7, none⟩ (.int .i64 f.t)) b f :=
  (((((((h.setK f.k).setG f.g).setO f.o).setW f.w).setL f.l).setS f.s).setF f.f).setT f.t

def LeD (w : World) (d : Nat) (ao : Option Addr) (n cap : Nat) (a b : World) : Prop := a.grownBy b (some d) ∧ (DX w a d ao n cap → DX w b d ao n cap)
theorem LeD.rf (w : World) (d : Nat) (ao : Option Addr) (n cap : Nat) (u : World) : LeD w d ao n cap u u := ⟨grown_refl u _, id⟩
theorem LeD.tr (w : World) (d : Nat) (ao : Option Addr) (n cap : Nat) (a b c : World) (h : LeD w d ao n cap a b) (k : LeD w d ao n cap b c) : LeD w d ao n cap a c := ⟨grown_trans h.1 k.1, fun q => k.2 (h.2 q)⟩
theorem LeD.mk {w : World} {d : Nat} {ao : Option Addr} {n cap : Nat} {a b : World} (h : a.grownBy b (some d)) (k : DX w b d ao n cap) : LeD w d ao n cap a b := ⟨h, fun _ => k⟩

def dstD (i : Nat) : Nat := [26, 27, 28, 29, 30, 31, 32, 33].getD i 0
def RD (d E : Nat) (r2 : Int) : Nat → Value → World → Prop
  | 0, v, _ => v = .pointer (some ⟨d, 0, none⟩)
  | 1, v, _ => ∃ r : Int, v = .int .i64 r ∧ 0 ≤ r ∧ r < 19
  | 2, v, _ => ∃ r : Int, v = .int .i64 (1 + r) ∧ 0 ≤ r ∧ r < 19
  | 3, v, _ => v = .pointer (some ⟨E, 1, none⟩)
  | 4, v, _ => v = .int .i64 r2
  | 5, v, _ => v = .pointer (some ⟨d, 0, none⟩)
  | 6, v, _ => ∃ r : Int, v = .int .i64 r ∧ 0 ≤ r ∧ r < 2
  | 7, v, _ => ∃ a b : Int, v = .agg #[.int .i64 (1 + a), .int .i64 r2, .int .i64 b, .int .i64 0, .int .i64 0, .int .i64 0, .int .i64 0, .int .i64 0] ∧ (0 ≤ a ∧ a < 19) ∧ 0 ≤ b ∧ b < 2
  | _, _, _ => True
theorem RD.st {d E : Nat} {r2 : Int} (i : Nat) (v : Value) (u u' : World) (h : RD d E r2 i v u) : RD d E r2 i v u' := by
  rcases i with _ | _ | _ | _ | _ | _ | _ | _ | i
  all_goals exact h

def dstF (i : Nat) : Nat := [59, 60, 61, 62, 63, 64, 65, 66].getD i 0
def RF (d E : Nat) (r2 : Int) : Nat → Value → World → Prop
  | 0, v, _ => v = .pointer (some ⟨E, 1, none⟩)
  | 1, v, _ => v = .int .i64 r2
  | 2, v, _ => v = .pointer (some ⟨d, 0, none⟩)
  | 3, v, _ => ∃ r : Int, v = .int .i64 r ∧ 0 ≤ r ∧ r < 4
  | 4, v, _ => v = .pointer (some ⟨d, 0, none⟩)
  | 5, v, _ => ∃ r : Int, v = .int .i64 r ∧ 0 ≤ r ∧ r < 2
  | 6, v, _ => ∃ r : Int, v = .int .i64 (1 + r) ∧ 0 ≤ r ∧ r < 2
  | 7, v, _ => ∃ a b : Int, v = .agg #[.int .i64 22, .int .i64 r2, .int .i64 0, .int .i64 0, .int .i64 a, .int .i64 (1 + b), .int .i64 0, .int .i64 0]
  | _, _, _ => True
theorem RF.st {d E : Nat} {r2 : Int} (i : Nat) (v : Value) (u u' : World) (h : RF d E r2 i v u) : RF d E r2 i v u' := by
  rcases i with _ | _ | _ | _ | _ | _ | _ | _ | i
  all_goals exact h

def LowO (e : Ev) : Prop := 2 ≤ e.k → e.k ≤ 5 → e.o ≤ 1
theorem LowO.mk {k g o w l s f t : Int} (h : 2 ≤ k → k ≤ 5 → o ≤ 1) : LowO ⟨k, g, o, w, l, s, f, t⟩ := h
set_option maxRecDepth 20000 in
set_option maxHeartbeats 4000000 in
theorem chance_any {w : World} {d n cap : Nat} {ao : Option Addr} (G : Int) (h : DX w w d ao n cap) (hn : n ≤ 4096) (hG : 1 ≤ G) (hG2 : G ≤ 16) (hb : 0 < n → ∀ q, blk ao = some q → q < w.heap.size) :
    Calls Tryz.prog 72 #[.pointer (some ⟨d, 0, none⟩), .int .i64 G] w fun x w' => ∃ e : Ev, x = .returned (.agg #[.int .i64 e.k, .int .i64 e.g, .int .i64 e.o, .int .i64 e.w, .int .i64 e.l, .int .i64 e.s, .int .i64 e.f, .int .i64 e.t]) ∧ LowO e ∧ DX w w' d ao n cap := by
  have fA := Fr.alloc w (.cells #[.int .i64 0, .int .i64 0, .int .i64 0, .int .i64 0, .int .i64 0, .int .i64 0, .int .i64 0, .int .i64 0] 31)
  have kA := EvB.new w ⟨0, 0, 0, 0, 0, 0, 0, 0⟩
  simp only at kA
  have cB := fun (u : World) (N : Int) (hN : 1 ≤ N) (hN2 : N ≤ 1000000) (q : DX w u d ao n cap) => belowX q hn N hN hN2
  obtain ⟨i0, x0, hd0⟩ := h.dice
  have hdl := hd0.lt
  have D0 := h.fr fA
  clear h hd0
  go_enter Tryz.func72, Tryz.ntmps72
  go_wp2_with fail
  refine (cB _ 2 (by omega) (by omega) D0).mono ?_
  rintro e u1 ⟨r1, rfl, a1, b1, g1, D1⟩
  go_wp2_with fail
  refine (cB _ G (by omega) (by omega) D1).mono ?_
  rintro e u2 ⟨r2, rfl, a2, b2, g2, D2⟩
  go_wp2_with fail
  refine (cB _ 4 (by omega) (by omega) D2).mono ?_
  rintro e u3 ⟨r3, rfl, a3, b3, g3, D3⟩
  go_wp2_with fail
  refine (cB _ 3 (by omega) (by omega) D3).mono ?_
  rintro e u4 ⟨r4, rfl, a4, b4, g4, D4⟩
  go_wp2_with fail
  refine (cB _ 2 (by omega) (by omega) D4).mono ?_
  rintro e u5 ⟨r5, rfl, a5, b5, g5, D5⟩
  go_wp2_with fail
  refine (cB _ 5 (by omega) (by omega) D5).mono ?_
  rintro e u6 ⟨r6, rfl, a6, b6, g6, D6⟩
  have fB := Fr.alloc u6 (.cells #[.int .i64 (20 + r1), .int .i64 r2, .int .i64 0, .int .i64 0, .int .i64 r3, .int .i64 (1 + r4), .int .i64 r5, .int .i64 r6] 31)
  have kB := EvB.new u6 ⟨20 + r1, r2, 0, 0, r3, 1 + r4, r5, r6⟩
  simp only at kB
  have l0 := kA.lt
  have kA := (((((((kA.keep g1 (fun e => by cases e; omega)).keep g2 (fun e => by cases e; omega)).keep g3 (fun e => by cases e; omega)).keep g4 (fun e => by cases e; omega)).keep g5 (fun e => by cases e; omega)).keep g6 (fun e => by cases e; omega)).keep fB (by simp))
  have z6 : w.heap.size < u6.heap.size := by
    have := g1.size
    have := g2.size
    have := g3.size
    have := g4.size
    have := g5.size
    have := g6.size
    omega
  have D6 := D6.fr fB
  clear l0 D0 D1 D2 D3 D4 D5 g1 g2 g3 g4 g5 g6 fA
  go_wp2_with fail
  obtain ⟨U, hU⟩ : ∃ U, U = u6.alloc (.cells #[.int .i64 (20 + r1), .int .i64 r2, .int .i64 0, .int .i64 0, .int .i64 r3, .int .i64 (1 + r4), .int .i64 r5, .int .i64 r6] 31) := ⟨_, rfl⟩
  rw [← hU] at kA kB D6 ⊢
  obtain ⟨A, hA⟩ : ∃ A, A = w.heap.size := ⟨_, rfl⟩
  obtain ⟨E, hE⟩ : ∃ E, E = u6.heap.size := ⟨_, rfl⟩
  rw [← hA] at kA hdl z6 ⊢
  rw [← hE] at kB z6 ⊢
  clear hU hE fB
  have HZ : Hid (d < A ∧ A < E ∧ A = w.heap.size) := ⟨hdl, z6, hA⟩
  clear hdl z6 hA
  refine (cB _ 2 (by omega) (by omega) D6).mono ?_
  rintro x u7 ⟨r7, rfl, a7, b7, g7, D7⟩
  have kA := kA.keep g7 (fun e => by cases e; have := HZ.out; omega)
  have kB := kB.keep g7 (fun e => by cases e; have := HZ.out; omega)
  clear D6 g7
  obtain ⟨e0, e1, e2, e3, e4, e5, e6, e7⟩ := kB.at
  simp only at e0 e1 e2 e3 e4 e5 e6 e7
  have fr := fun i => kA.free i
  have fb := fun i => kB.free i
  by_cases h7 : r7 = 0
  · subst h7
    obtain ⟨p0, p1, p2, p3, p4, p5, p6, p7⟩ := kA.at
    simp only at p0 p1 p2 p3 p4 p5 p6 p7
    go_wp2_with fail
    have k5 := put8 u7 A (.int .i64 (20 + r1)) (.int .i64 r2) (.int .i64 0) (.int .i64 0) (.int .i64 r3) (.int .i64 (1 + r4)) (.int .i64 r5) (.int .i64 r6)
    refine bodyPost_ret (v := .agg #[.int .i64 (20 + r1), .int .i64 r2, .int .i64 0, .int .i64 0, .int .i64 r3, .int .i64 (1 + r4), .int .i64 r5, .int .i64 r6]) (by simp [results, Tryz.results72, go_sem, p0, p1, p2, p3, p4, p5, p6, p7]) rfl ⟨⟨20 + r1, r2, 0, 0, r3, 1 + r4, r5, r6⟩, rfl, LowO.mk (fun _ _ => by omega), ?_⟩
    exact D7.beyond k5 HZ.out hb
  · have hb7 : (r7 == 0) = false := by simpa using h7
    have KB : Hid (∀ u, u7.grownBy u (some d) → EvB u E ⟨20 + r1, r2, 0, 0, r3, 1 + r4, r5, r6⟩ ∧ EvB u A ⟨0, 0, 0, 0, 0, 0, 0, 0⟩) := fun u g => ⟨kB.keep g (fun e => by cases e; have := HZ.out; omega), kA.keep g (fun e => by cases e; have := HZ.out; omega)⟩
    have HD7 : Hid (DX w u7.drew d ao n cap) := D7.fr (Fr.drew u7)
    clear cB D7 h7
    go_wp2_with fail
    refine wp_region_le 8 dstD (fun X => { tmps := #[.pointer (some ⟨d, 0, none⟩), .int .i64 G, undef, undef, .pointer (some ⟨A, 0, none⟩), .pointer (some ⟨E, 0, none⟩), .pointer (some ⟨d, 0, none⟩), .int .i64 r1, .int .i64 (20 + r1), .pointer (some ⟨d, 0, none⟩), .int .i64 G, .int .i64 r2, .pointer (some ⟨d, 0, none⟩), .int .i64 r3, .pointer (some ⟨d, 0, none⟩), .int .i64 r4, .int .i64 (1 + r4), .pointer (some ⟨d, 0, none⟩), .int .i64 r5, .pointer (some ⟨d, 0, none⟩), .int .i64 r6, .agg #[.int .i64 (20 + r1), .int .i64 r2, .int .i64 0, .int .i64 0, .int .i64 r3, .int .i64 (1 + r4), .int .i64 r5, .int .i64 r6], .pointer (some ⟨d, 0, none⟩), .int .i64 r7, .bool false, undef, X 26, X 27, X 28, X 29, X 30, X 31, X 32, X 33, undef, undef, undef, undef, undef, undef, undef, undef, undef, undef, undef, undef, undef, undef, undef, undef, undef, undef, undef, undef, undef, undef, undef, undef, undef, undef, undef, undef, undef, undef, undef, undef, undef, undef], defers := [] }) (RD d E r2) (LeD w d ao n cap) (fun _ => undef) (LeD.rf w d ao n cap) (LeD.tr w d ao n cap) (by kernel_rfl) rfl (dst_of (by kernel_rfl)) (fun i v u u' h _ => RD.st i v u u' h) (lex_of (by kernel_rfl)) (allR_of (by kernel_rfl)) ?_ ?_
    · intro i o X u hi ho hF hE
      have Du := hF.2 HD7.out
      obtain ⟨y0, y1, y2, y3, y4, y5, y6, y7⟩ := (KB.out u (grown_trans (Fr.drew u7).wide hF.1)).1.at
      simp only at y0 y1 y2 y3 y4 y5 y6 y7
      rcases i with _ | _ | _ | _ | _ | _ | _ | _ | i
      · simp only [List.getElem?_toArray, List.getElem?_cons_zero, Option.some.injEq] at ho
        subst ho
        refine ⟨by simp [Region.wanted], ?_⟩
        go_simp
        exact ⟨_, (by simp [upd, dstD]), LeD.rf _ _ _ _ _ _, rfl⟩
      · simp only [List.getElem?_toArray, List.getElem?_cons_succ, List.getElem?_cons_zero, Option.some.injEq] at ho
        subst ho
        refine ⟨by simp [Region.wanted], ?_⟩
        have e0 : X 26 = .pointer (some ⟨d, 0, none⟩) := hE ⟨0, .data⟩ (by simp) rfl
        go_simp
        refine (belowX Du hn 19 (by omega) (by omega)).mono ?_
        rintro x u' ⟨r, rfl, ra, rb, rg, rD⟩
        exact ⟨_, (by simp [upd, dstD, e0]), LeD.mk rg rD, ⟨r, rfl, ra, rb⟩⟩
      · simp only [List.getElem?_toArray, List.getElem?_cons_succ, List.getElem?_cons_zero, Option.some.injEq] at ho
        subst ho
        refine ⟨by simp [Region.wanted], ?_⟩
        obtain ⟨r, e1, ra, rb⟩ : ∃ r : Int, X 27 = .int .i64 r ∧ 0 ≤ r ∧ r < 19 := hE ⟨1, .data⟩ (by simp) rfl
        have hw : IntKind.i64.wrap (1 + r) = 1 + r := by rw [IntKind.wrap_i64]; omega
        go_simp
        exact ⟨_, (by simp [upd, dstD, e1]), LeD.rf _ _ _ _ _ _, ⟨r, rfl, ra, rb⟩⟩
      · simp only [List.getElem?_toArray, List.getElem?_cons_succ, List.getElem?_cons_zero, Option.some.injEq] at ho
        subst ho
        refine ⟨by simp [Region.wanted], ?_⟩
        go_simp
        exact ⟨_, (by simp [upd, dstD]), LeD.rf _ _ _ _ _ _, rfl⟩
      · simp only [List.getElem?_toArray, List.getElem?_cons_succ, List.getElem?_cons_zero, Option.some.injEq] at ho
        subst ho
        refine ⟨by simp [Region.wanted], ?_⟩
        have e3 : X 29 = .pointer (some ⟨E, 1, none⟩) := hE ⟨3, .data⟩ (by simp) rfl
        go_simp
        exact ⟨_, (by simp [upd, dstD, e3]), LeD.rf _ _ _ _ _ _, rfl⟩
      · simp only [List.getElem?_toArray, List.getElem?_cons_succ, List.getElem?_cons_zero, Option.some.injEq] at ho
        subst ho
        refine ⟨by simp [Region.wanted], ?_⟩
        go_simp
        exact ⟨_, (by simp [upd, dstD]), LeD.rf _ _ _ _ _ _, rfl⟩
      · simp only [List.getElem?_toArray, List.getElem?_cons_succ, List.getElem?_cons_zero, Option.some.injEq] at ho
        subst ho
        refine ⟨by simp [Region.wanted], ?_⟩
        have e5 : X 31 = .pointer (some ⟨d, 0, none⟩) := hE ⟨5, .data⟩ (by simp) rfl
        go_simp
        refine (belowX Du hn 2 (by omega) (by omega)).mono ?_
        rintro x u' ⟨r, rfl, ra, rb, rg, rD⟩
        exact ⟨_, (by simp [upd, dstD, e5]), LeD.mk rg rD, ⟨r, rfl, ra, rb⟩⟩
      · simp only [List.getElem?_toArray, List.getElem?_cons_succ, List.getElem?_cons_zero, Option.some.injEq] at ho
        subst ho
        refine ⟨by simp [Region.wanted], ?_⟩
        obtain ⟨ra, e2, ra0, ra1⟩ : ∃ r : Int, X 28 = .int .i64 (1 + r) ∧ 0 ≤ r ∧ r < 19 := hE ⟨2, .data⟩ (by simp) rfl
        have e4 : X 30 = .int .i64 r2 := hE ⟨4, .data⟩ (by simp) rfl
        obtain ⟨rb, e6, rb0, rb1⟩ : ∃ r : Int, X 32 = .int .i64 r ∧ 0 ≤ r ∧ r < 2 := hE ⟨6, .data⟩ (by simp) rfl
        go_simp
        exact ⟨_, (by simp [upd, dstD, e2, e4, e6]), LeD.rf _ _ _ _ _ _, ⟨ra, rb, rfl, ⟨ra0, ra1⟩, rb0, rb1⟩⟩
      · omega
    · intro o X u ho hF hX
      simp only [List.getElem?_toArray, List.getElem?_cons_succ, List.getElem?_cons_zero, Option.some.injEq] at ho
      subst ho
      have Du := hF.2 HD7.out
      obtain ⟨kE, kZ⟩ := KB.out u (grown_trans (Fr.drew u7).wide hF.1)
      obtain ⟨ka, kb, e7, ⟨ka0, ka1⟩, kb0, kb1⟩ : ∃ a b : Int, X 33 = .agg #[.int .i64 (1 + a), .int .i64 r2, .int .i64 b, .int .i64 0, .int .i64 0, .int .i64 0, .int .i64 0, .int .i64 0] ∧ (0 ≤ a ∧ a < 19) ∧ 0 ≤ b ∧ b < 2 := hX 7 (by omega)
      clear hX
      obtain ⟨y0, y1, y2, y3, y4, y5, y6, y7⟩ := kE.at
      simp only at y0 y1 y2 y3 y4 y5 y6 y7
      have yf := fun i => kE.free i
      refine ⟨by simp [Region.wanted], ?_⟩
      go_simp
      have k8 := put8 u E (.int .i64 (1 + ka)) (.int .i64 r2) (.int .i64 kb) (.int .i64 0) (.int .i64 0) (.int .i64 0) (.int .i64 0) (.int .i64 0)
      have kE8 := kE.put8 ⟨1 + ka, r2, kb, 0, 0, 0, 0, 0⟩
      simp only at kE8
      have kZ8 := kZ.keep k8 (fun e => by cases e; have := HZ.out; omega)
      have D8 := Du.past2 k8 ⟨by have := HZ.out; omega, by have := HZ.out; omega⟩ hb
      obtain ⟨U, hU⟩ : ∃ U, U = ((((((((u.setCell ⟨E, 0, none⟩ (.int .i64 (1 + ka))).setCell ⟨E, 1, none⟩ (.int .i64 r2)).setCell ⟨E, 2, none⟩ (.int .i64 kb)).setCell ⟨E, 3, none⟩ (.int .i64 0)).setCell ⟨E, 4, none⟩ (.int .i64 0)).setCell ⟨E, 5, none⟩ (.int .i64 0)).setCell ⟨E, 6, none⟩ (.int .i64 0)).setCell ⟨E, 7, none⟩ (.int .i64 0)) := ⟨_, rfl⟩
      rw [← hU] at kE8 kZ8 D8 ⊢
      obtain ⟨K, hK⟩ : ∃ K, K = 1 + ka := ⟨_, rfl⟩
      rw [← hK] at kE8 e7 ⊢
      have hK1 : 1 ≤ K ∧ K ≤ 19 := by omega
      have hAE : ¬ A = E := by have := HZ.out; omega
      have hEA : ¬ E = A := by have := HZ.out; omega
      clear hU hK k8 kE kZ Du y0 y1 y2 y3 y4 y5 y6 y7 yf ka0 ka1 KB HD7 hF e0 e1 e2 e3 e4 e5 e6 fr fb
      obtain ⟨y0, y1, y2, y3, y4, y5, y6, y7⟩ := EvB.at (kE8)
      simp only at y0 y1 y2 y3 y4 y5 y6 y7
      have yf := fun i => EvB.free (kE8) i
      obtain ⟨p0, p1, p2, p3, p4, p5, p6, p7⟩ := EvB.at (kZ8)
      simp only at p0 p1 p2 p3 p4 p5 p6 p7
      have pf := fun i => EvB.free (kZ8) i
      by_cases h1 : K = 1
      · subst h1
        go_wp2_with fail
        refine bodyPost_ret (v := .agg #[.int .i64 1, .int .i64 r2, .int .i64 G, .int .i64 0, .int .i64 0, .int .i64 0, .int .i64 0, .int .i64 0]) (by simp [results, Tryz.results72, go_sem, p0, p1, p2, p3, p4, p5, p6, p7]) rfl ⟨⟨1, r2, G, 0, 0, 0, 0, 0⟩, rfl, LowO.mk (fun _ _ => by omega), ?_⟩
        exact (D8.past2 (grown_set U E 2 (.int .i64 G)) ⟨by have := HZ.out; omega, by have := HZ.out; omega⟩ hb).past2 (put8 (U.setCell ⟨E, 2, none⟩ (.int .i64 G)) A (.int .i64 1) (.int .i64 r2) (.int .i64 G) (.int .i64 0) (.int .i64 0) (.int .i64 0) (.int .i64 0) (.int .i64 0)) ⟨by have := HZ.out; omega, by have := HZ.out; omega⟩ hb
      have hb1 : (K == 1) = false := by simp [h1]
      by_cases h6 : K = 6
      · subst h6
        clear y0 y1 y2 y3 y4 y5 y6 y7 yf p0 p1 p2 p3 p4 p5 p6 p7 pf
        obtain ⟨y0, y1, y2, y3, y4, y5, y6, y7⟩ := EvB.at kE8
        simp only at y0 y1 y2 y3 y4 y5 y6 y7
        go_wp2_with fail
        refine (belowX D8 hn 3 (by omega) (by omega)).mono ?_
        rintro x u9 ⟨r9, rfl, a9, b9, g9, D9⟩
        clear y0 y1 y2 y3 y4 y5 y6 y7
        have kE9 := kE8.keep g9 (fun e => by cases e; have := HZ.out; omega)
        have kZ9 := kZ8.keep g9 (fun e => by cases e; have := HZ.out; omega)
        obtain ⟨y0, y1, y2, y3, y4, y5, y6, y7⟩ := EvB.at (kE9)
        simp only at y0 y1 y2 y3 y4 y5 y6 y7
        have yf := fun i => EvB.free (kE9) i
        obtain ⟨p0, p1, p2, p3, p4, p5, p6, p7⟩ := EvB.at (kZ9)
        simp only at p0 p1 p2 p3 p4 p5 p6 p7
        have pf := fun i => EvB.free (kZ9) i
        go_wp2_with fail
        refine bodyPost_ret (v := .agg #[.int .i64 6, .int .i64 r2, .int .i64 kb, .int .i64 0, .int .i64 0, .int .i64 r9, .int .i64 0, .int .i64 0]) (by simp [results, Tryz.results72, go_sem, p0, p1, p2, p3, p4, p5, p6, p7]) rfl ⟨⟨6, r2, kb, 0, 0, r9, 0, 0⟩, rfl, LowO.mk (fun _ _ => by omega), ?_⟩
        exact (D9.past2 (grown_set u9 E 5 (.int .i64 r9)) ⟨by have := HZ.out; omega, by have := HZ.out; omega⟩ hb).past2 (put8 (u9.setCell ⟨E, 5, none⟩ (.int .i64 r9)) A (.int .i64 6) (.int .i64 r2) (.int .i64 kb) (.int .i64 0) (.int .i64 0) (.int .i64 r9) (.int .i64 0) (.int .i64 0)) ⟨by have := HZ.out; omega, by have := HZ.out; omega⟩ hb
      have hb6 : (K == 6) = false := by simp [h6]
      by_cases h9 : K = 9
      · subst h9
        clear y0 y1 y2 y3 y4 y5 y6 y7 yf p0 p1 p2 p3 p4 p5 p6 p7 pf
        obtain ⟨y0, y1, y2, y3, y4, y5, y6, y7⟩ := EvB.at kE8
        simp only at y0 y1 y2 y3 y4 y5 y6 y7
        go_wp2_with fail
        refine (belowX D8 hn G (by omega) (by omega)).mono ?_
        rintro x u9 ⟨r9, rfl, a9, b9, g9, D9⟩
        clear y0 y1 y2 y3 y4 y5 y6 y7
        have kE9 := kE8.keep g9 (fun e => by cases e; have := HZ.out; omega)
        have kZ9 := kZ8.keep g9 (fun e => by cases e; have := HZ.out; omega)
        obtain ⟨y0, y1, y2, y3, y4, y5, y6, y7⟩ := EvB.at (kE9)
        simp only at y0 y1 y2 y3 y4 y5 y6 y7
        have yf := fun i => EvB.free (kE9) i
        obtain ⟨p0, p1, p2, p3, p4, p5, p6, p7⟩ := EvB.at (kZ9)
        simp only at p0 p1 p2 p3 p4 p5 p6 p7
        have pf := fun i => EvB.free (kZ9) i
        go_wp2_with fail
        refine bodyPost_ret (v := .agg #[.int .i64 9, .int .i64 r2, .int .i64 kb, .int .i64 r9, .int .i64 0, .int .i64 0, .int .i64 0, .int .i64 0]) (by simp [results, Tryz.results72, go_sem, p0, p1, p2, p3, p4, p5, p6, p7]) rfl ⟨⟨9, r2, kb, r9, 0, 0, 0, 0⟩, rfl, LowO.mk (fun _ _ => by omega), ?_⟩
        exact (D9.past2 (grown_set u9 E 3 (.int .i64 r9)) ⟨by have := HZ.out; omega, by have := HZ.out; omega⟩ hb).past2 (put8 (u9.setCell ⟨E, 3, none⟩ (.int .i64 r9)) A (.int .i64 9) (.int .i64 r2) (.int .i64 kb) (.int .i64 r9) (.int .i64 0) (.int .i64 0) (.int .i64 0) (.int .i64 0)) ⟨by have := HZ.out; omega, by have := HZ.out; omega⟩ hb
      have hb9 : (K == 9) = false := by simp [h9]
      by_cases h12 : K = 12
      · subst h12
        go_wp2_with fail
        refine bodyPost_ret (v := .agg #[.int .i64 12, .int .i64 r2, .int .i64 kb, .int .i64 0, .int .i64 0, .int .i64 1, .int .i64 0, .int .i64 0]) (by simp [results, Tryz.results72, go_sem, p0, p1, p2, p3, p4, p5, p6, p7]) rfl ⟨⟨12, r2, kb, 0, 0, 1, 0, 0⟩, rfl, LowO.mk (fun _ _ => by omega), ?_⟩
        exact (D8.past2 (grown_set U E 5 (.int .i64 1)) ⟨by have := HZ.out; omega, by have := HZ.out; omega⟩ hb).past2 (put8 (U.setCell ⟨E, 5, none⟩ (.int .i64 1)) A (.int .i64 12) (.int .i64 r2) (.int .i64 kb) (.int .i64 0) (.int .i64 0) (.int .i64 1) (.int .i64 0) (.int .i64 0)) ⟨by have := HZ.out; omega, by have := HZ.out; omega⟩ hb
      have hb12 : (K == 12) = false := by simp [h12]
      by_cases h15 : K = 15
      · subst h15
        clear y0 y1 y2 y3 y4 y5 y6 y7 yf p0 p1 p2 p3 p4 p5 p6 p7 pf
        obtain ⟨y0, y1, y2, y3, y4, y5, y6, y7⟩ := EvB.at kE8
        simp only at y0 y1 y2 y3 y4 y5 y6 y7
        go_wp2_with fail
        refine (belowX D8 hn 2 (by omega) (by omega)).mono ?_
        rintro x u9 ⟨r9, rfl, a9, b9, g9, D9⟩
        clear y0 y1 y2 y3 y4 y5 y6 y7
        have kE9 := kE8.keep g9 (fun e => by cases e; have := HZ.out; omega)
        have kZ9 := kZ8.keep g9 (fun e => by cases e; have := HZ.out; omega)
        obtain ⟨y0, y1, y2, y3, y4, y5, y6, y7⟩ := EvB.at (kE9)
        simp only at y0 y1 y2 y3 y4 y5 y6 y7
        have yf := fun i => EvB.free (kE9) i
        obtain ⟨p0, p1, p2, p3, p4, p5, p6, p7⟩ := EvB.at (kZ9)
        simp only at p0 p1 p2 p3 p4 p5 p6 p7
        have pf := fun i => EvB.free (kZ9) i
        by_cases h9 : r9 = 0
        · subst h9
          go_wp2_with fail
          have KB9 : Hid (∀ u, u9.grownBy u (some d) → EvB u E ⟨15, r2, kb, 0, 0, 0, 0, 0⟩ ∧ EvB u A ⟨0, 0, 0, 0, 0, 0, 0, 0⟩) := fun u g => ⟨kE9.keep g (fun e => by cases e; have := HZ.out; omega), kZ9.keep g (fun e => by cases e; have := HZ.out; omega)⟩
          have HD9 : Hid (DX w u9.drew d ao n cap) := D9.fr (Fr.drew u9)
          clear y0 y1 y2 y3 y4 y5 y6 y7 yf p0 p1 p2 p3 p4 p5 p6 p7 pf D9 D8 kE9 kZ9 kE8 kZ8 g9
          refine wp_region_le 8 dstF (fun Y => { tmps := #[.pointer (some ⟨d, 0, none⟩), .int .i64 G, undef, undef, .pointer (some ⟨A, 0, none⟩), .pointer (some ⟨E, 0, none⟩), .pointer (some ⟨d, 0, none⟩), .int .i64 r1, .int .i64 (20 + r1), .pointer (some ⟨d, 0, none⟩), .int .i64 G, .int .i64 r2, .pointer (some ⟨d, 0, none⟩), .int .i64 r3, .pointer (some ⟨d, 0, none⟩), .int .i64 r4, .int .i64 (1 + r4), .pointer (some ⟨d, 0, none⟩), .int .i64 r5, .pointer (some ⟨d, 0, none⟩), .int .i64 r6, .agg #[.int .i64 (20 + r1), .int .i64 r2, .int .i64 0, .int .i64 0, .int .i64 r3, .int .i64 (1 + r4), .int .i64 r5, .int .i64 r6], .pointer (some ⟨d, 0, none⟩), .int .i64 r7, .bool false, undef, X 26, X 27, X 28, X 29, X 30, X 31, X 32, .agg #[.int .i64 15, .int .i64 r2, .int .i64 kb, .int .i64 0, .int .i64 0, .int .i64 0, .int .i64 0, .int .i64 0], .pointer (some ⟨E, 0, none⟩), .int .i64 15, .bool false, .bool false, undef, undef, .bool false, .bool false, undef, undef, undef, .bool false, .bool false, undef, undef, undef, undef, .bool false, .bool false, undef, .bool true, .bool true, .pointer (some ⟨d, 0, none⟩), .int .i64 0, .bool true, Y 59, Y 60, Y 61, Y 62, Y 63, Y 64, Y 65, Y 66, undef], defers := [] }) (RF d E r2) (LeD w d ao n cap) (fun _ => undef) (LeD.rf w d ao n cap) (LeD.tr w d ao n cap) (by kernel_rfl) rfl (dst_of (by kernel_rfl)) (fun i v u u' h _ => RF.st i v u u' h) (lex_of (by kernel_rfl)) (allR_of (by kernel_rfl)) ?_ ?_
          · intro i o Y u hi ho hF hE
            have Du := hF.2 HD9.out
            obtain ⟨y0, y1, y2, y3, y4, y5, y6, y7⟩ := (KB9.out u (grown_trans (Fr.drew u9).wide hF.1)).1.at
            simp only at y0 y1 y2 y3 y4 y5 y6 y7
            rcases i with _ | _ | _ | _ | _ | _ | _ | _ | i
            · simp only [List.getElem?_toArray, List.getElem?_cons_zero, Option.some.injEq] at ho
              subst ho
              refine ⟨by simp [Region.wanted], ?_⟩
              go_simp
              exact ⟨_, (by simp [upd, dstF]), LeD.rf _ _ _ _ _ _, rfl⟩
            · simp only [List.getElem?_toArray, List.getElem?_cons_succ, List.getElem?_cons_zero, Option.some.injEq] at ho
              subst ho
              refine ⟨by simp [Region.wanted], ?_⟩
              have e0 : Y 59 = .pointer (some ⟨E, 1, none⟩) := hE ⟨0, .data⟩ (by simp) rfl
              go_simp
              exact ⟨_, (by simp [upd, dstF, e0]), LeD.rf _ _ _ _ _ _, rfl⟩
            · simp only [List.getElem?_toArray, List.getElem?_cons_succ, List.getElem?_cons_zero, Option.some.injEq] at ho
              subst ho
              refine ⟨by simp [Region.wanted], ?_⟩
              go_simp
              exact ⟨_, (by simp [upd, dstF]), LeD.rf _ _ _ _ _ _, rfl⟩
            · simp only [List.getElem?_toArray, List.getElem?_cons_succ, List.getElem?_cons_zero, Option.some.injEq] at ho
              subst ho
              refine ⟨by simp [Region.wanted], ?_⟩
              have e2 : Y 61 = .pointer (some ⟨d, 0, none⟩) := hE ⟨2, .data⟩ (by simp) rfl
              go_simp
              refine (belowX Du hn 4 (by omega) (by omega)).mono ?_
              rintro x u' ⟨r, rfl, ra, rb, rg, rD⟩
              exact ⟨_, (by simp [upd, dstF, e2]), LeD.mk rg rD, ⟨r, rfl, ra, rb⟩⟩
            · simp only [List.getElem?_toArray, List.getElem?_cons_succ, List.getElem?_cons_zero, Option.some.injEq] at ho
              subst ho
              refine ⟨by simp [Region.wanted], ?_⟩
              go_simp
              exact ⟨_, (by simp [upd, dstF]), LeD.rf _ _ _ _ _ _, rfl⟩
            · simp only [List.getElem?_toArray, List.getElem?_cons_succ, List.getElem?_cons_zero, Option.some.injEq] at ho
              subst ho
              refine ⟨by simp [Region.wanted], ?_⟩
              have e4 : Y 63 = .pointer (some ⟨d, 0, none⟩) := hE ⟨4, .data⟩ (by simp) rfl
              go_simp
              refine (belowX Du hn 2 (by omega) (by omega)).mono ?_
              rintro x u' ⟨r, rfl, ra, rb, rg, rD⟩
              exact ⟨_, (by simp [upd, dstF, e4]), LeD.mk rg rD, ⟨r, rfl, ra, rb⟩⟩
            · simp only [List.getElem?_toArray, List.getElem?_cons_succ, List.getElem?_cons_zero, Option.some.injEq] at ho
              subst ho
              refine ⟨by simp [Region.wanted], ?_⟩
              obtain ⟨r, e5, ra, rb⟩ : ∃ r : Int, Y 64 = .int .i64 r ∧ 0 ≤ r ∧ r < 2 := hE ⟨5, .data⟩ (by simp) rfl
              have hw : IntKind.i64.wrap (1 + r) = 1 + r := by rw [IntKind.wrap_i64]; omega
              go_simp
              exact ⟨_, (by simp [upd, dstF, e5]), LeD.rf _ _ _ _ _ _, ⟨r, rfl, ra, rb⟩⟩
            · simp only [List.getElem?_toArray, List.getElem?_cons_succ, List.getElem?_cons_zero, Option.some.injEq] at ho
              subst ho
              refine ⟨by simp [Region.wanted], ?_⟩
              have e1 : Y 60 = .int .i64 r2 := hE ⟨1, .data⟩ (by simp) rfl
              obtain ⟨ra, e3, ra0, ra1⟩ : ∃ r : Int, Y 62 = .int .i64 r ∧ 0 ≤ r ∧ r < 4 := hE ⟨3, .data⟩ (by simp) rfl
              obtain ⟨rb, e6, rb0, rb1⟩ : ∃ r : Int, Y 65 = .int .i64 (1 + r) ∧ 0 ≤ r ∧ r < 2 := hE ⟨6, .data⟩ (by simp) rfl
              go_simp
              exact ⟨_, (by simp [upd, dstF, e1, e3, e6]), LeD.rf _ _ _ _ _ _, ⟨ra, rb, rfl⟩⟩
            · omega
          · intro o Y u ho hF hX
            simp only [List.getElem?_toArray, List.getElem?_cons_succ, List.getElem?_cons_zero, Option.some.injEq] at ho
            subst ho
            have Du := hF.2 HD9.out
            obtain ⟨kE, kZ⟩ := KB9.out u (grown_trans (Fr.drew u9).wide hF.1)
            obtain ⟨fa, fb, e7⟩ : ∃ a b : Int, Y 66 = .agg #[.int .i64 22, .int .i64 r2, .int .i64 0, .int .i64 0, .int .i64 a, .int .i64 (1 + b), .int .i64 0, .int .i64 0] := hX 7 (by omega)
            clear hX
            obtain ⟨y0, y1, y2, y3, y4, y5, y6, y7⟩ := kE.at
            simp only at y0 y1 y2 y3 y4 y5 y6 y7
            have yf := fun i => kE.free i
            refine ⟨by simp [Region.wanted], ?_⟩
            go_simp
            have k8 := put8 u E (.int .i64 22) (.int .i64 r2) (.int .i64 0) (.int .i64 0) (.int .i64 fa) (.int .i64 (1 + fb)) (.int .i64 0) (.int .i64 0)
            have kE8 := kE.put8 ⟨22, r2, 0, 0, fa, 1 + fb, 0, 0⟩
            simp only at kE8
            have kZ8 := kZ.keep k8 (fun e => by cases e; have := HZ.out; omega)
            have D8 := Du.past2 k8 ⟨by have := HZ.out; omega, by have := HZ.out; omega⟩ hb
            obtain ⟨U2, hU2⟩ : ∃ U, U = ((((((((u.setCell ⟨E, 0, none⟩ (.int .i64 22)).setCell ⟨E, 1, none⟩ (.int .i64 r2)).setCell ⟨E, 2, none⟩ (.int .i64 0)).setCell ⟨E, 3, none⟩ (.int .i64 0)).setCell ⟨E, 4, none⟩ (.int .i64 fa)).setCell ⟨E, 5, none⟩ (.int .i64 (1 + fb))).setCell ⟨E, 6, none⟩ (.int .i64 0)).setCell ⟨E, 7, none⟩ (.int .i64 0)) := ⟨_, rfl⟩
            rw [← hU2] at kE8 kZ8 D8 ⊢
            clear hU2 y0 y1 y2 y3 y4 y5 y6 y7 yf k8 kE kZ Du hF KB9 HD9
            obtain ⟨y0, y1, y2, y3, y4, y5, y6, y7⟩ := EvB.at kE8
            simp only at y0 y1 y2 y3 y4 y5 y6 y7
            have yf := fun i => EvB.free kE8 i
            obtain ⟨p0, p1, p2, p3, p4, p5, p6, p7⟩ := EvB.at kZ8
            simp only at p0 p1 p2 p3 p4 p5 p6 p7
            have pf := fun i => EvB.free kZ8 i
            go_wp2_with fail
            refine bodyPost_ret (v := .agg #[.int .i64 22, .int .i64 r2, .int .i64 0, .int .i64 0, .int .i64 fa, .int .i64 (1 + fb), .int .i64 0, .int .i64 0]) (by simp [results, Tryz.results72, go_sem, p0, p1, p2, p3, p4, p5, p6, p7]) rfl ⟨⟨22, r2, 0, 0, fa, 1 + fb, 0, 0⟩, rfl, LowO.mk (fun _ _ => by omega), ?_⟩
            exact D8.past2 (put8 U2 A (.int .i64 22) (.int .i64 r2) (.int .i64 0) (.int .i64 0) (.int .i64 fa) (.int .i64 (1 + fb)) (.int .i64 0) (.int .i64 0)) ⟨by have := HZ.out; omega, by have := HZ.out; omega⟩ hb
        · have hb9 : (r9 == 0) = false := by simpa using h9
          go_wp2_with fail
          refine bodyPost_ret (v := .agg #[.int .i64 15, .int .i64 r2, .int .i64 kb, .int .i64 0, .int .i64 0, .int .i64 0, .int .i64 0, .int .i64 0]) (by simp [results, Tryz.results72, go_sem, p0, p1, p2, p3, p4, p5, p6, p7]) rfl ⟨⟨15, r2, kb, 0, 0, 0, 0, 0⟩, rfl, LowO.mk (fun _ _ => by omega), ?_⟩
          exact (D9).past2 (put8 u9 A (.int .i64 15) (.int .i64 r2) (.int .i64 kb) (.int .i64 0) (.int .i64 0) (.int .i64 0) (.int .i64 0) (.int .i64 0)) ⟨by have := HZ.out; omega, by have := HZ.out; omega⟩ hb
      have hb15 : (K == 15) = false := by simp [h15]
      go_wp2_with fail
      refine bodyPost_ret (v := .agg #[.int .i64 K, .int .i64 r2, .int .i64 kb, .int .i64 0, .int .i64 0, .int .i64 0, .int .i64 0, .int .i64 0]) (by simp [results, Tryz.results72, go_sem, p0, p1, p2, p3, p4, p5, p6, p7]) rfl ⟨⟨K, r2, kb, 0, 0, 0, 0, 0⟩, rfl, LowO.mk (fun _ _ => by omega), ?_⟩
      exact (D8).past2 (put8 U A (.int .i64 K) (.int .i64 r2) (.int .i64 kb) (.int .i64 0) (.int .i64 0) (.int .i64 0) (.int .i64 0) (.int .i64 0)) ⟨by have := HZ.out; omega, by have := HZ.out; omega⟩ hb
end Go.Proofs.YtcofhmikdkkigaaGreatDoor
