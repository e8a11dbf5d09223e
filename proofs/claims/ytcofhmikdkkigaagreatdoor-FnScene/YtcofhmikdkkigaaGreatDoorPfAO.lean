/-
  Pack AO: ScFor, ScAsk2, ScAsk3, ScAsk5.
-/
import Derived.Test.YtcofhmikdkkigaaGreatDoorPfAK
namespace Go.Proofs.YtcofhmikdkkigaaGreatDoor
open Go.RowKit

def codeC (B0 B1 B2 B3 B4 B5 B6 B7 B8 B9 : Bool) : Int := if B0 = false then 1 else if B1 = true then 2 else if B2 = true then 3 else if B3 = true then 4 else if B4 = true then 5 else if B5 = true then 6 else if B6 = true then 7 else if B7 = true then 8 else if B8 = true then 9 else if B9 = true then 10 else 0

set_option maxHeartbeats 2000000 in
theorem codeFor_any (b : Nat) (e : Ev) (w : World) (B0 B1 B2 B3 B4 B5 B6 B7 B8 B9 : Bool)
    (q0 : ∀ u, Fr w u → Calls Tryz.prog 114 #[.agg #[.int .i64 e.k, .int .i64 e.g, .int .i64 e.o, .int .i64 e.w, .int .i64 e.l, .int .i64 e.s, .int .i64 e.f, .int .i64 e.t]] u fun x w' => x = .returned (.bool B0) ∧ Fr u w')
    (q1 : Hid (B0 = true → ∀ u, Fr w u → Calls Tryz.prog 115 #[.pointer (some ⟨b, 0, none⟩), .agg #[.int .i64 e.k, .int .i64 e.g, .int .i64 e.o, .int .i64 e.w, .int .i64 e.l, .int .i64 e.s, .int .i64 e.f, .int .i64 e.t]] u fun x w' => x = .returned (.bool B1) ∧ Fr u w'))
    (q2 : Hid (B0 = true → ∀ u, Fr w u → Calls Tryz.prog 116 #[.pointer (some ⟨b, 0, none⟩), .agg #[.int .i64 e.k, .int .i64 e.g, .int .i64 e.o, .int .i64 e.w, .int .i64 e.l, .int .i64 e.s, .int .i64 e.f, .int .i64 e.t]] u fun x w' => x = .returned (.bool B2) ∧ Fr u w'))
    (q3 : Hid (B0 = true → ∀ u, Fr w u → Calls Tryz.prog 117 #[.pointer (some ⟨b, 0, none⟩), .agg #[.int .i64 e.k, .int .i64 e.g, .int .i64 e.o, .int .i64 e.w, .int .i64 e.l, .int .i64 e.s, .int .i64 e.f, .int .i64 e.t]] u fun x w' => x = .returned (.bool B3) ∧ Fr u w'))
    (q4 : Hid (B0 = true → ∀ u, Fr w u → Calls Tryz.prog 118 #[.pointer (some ⟨b, 0, none⟩), .agg #[.int .i64 e.k, .int .i64 e.g, .int .i64 e.o, .int .i64 e.w, .int .i64 e.l, .int .i64 e.s, .int .i64 e.f, .int .i64 e.t]] u fun x w' => x = .returned (.bool B4) ∧ Fr u w'))
    (q5 : Hid (B0 = true → ∀ u, Fr w u → Calls Tryz.prog 119 #[.pointer (some ⟨b, 0, none⟩), .agg #[.int .i64 e.k, .int .i64 e.g, .int .i64 e.o, .int .i64 e.w, .int .i64 e.l, .int .i64 e.s, .int .i64 e.f, .int .i64 e.t]] u fun x w' => x = .returned (.bool B5) ∧ Fr u w'))
    (q6 : Hid (B0 = true → ∀ u, Fr w u → Calls Tryz.prog 120 #[.pointer (some ⟨b, 0, none⟩), .agg #[.int .i64 e.k, .int .i64 e.g, .int .i64 e.o, .int .i64 e.w, .int .i64 e.l, .int .i64 e.s, .int .i64 e.f, .int .i64 e.t]] u fun x w' => x = .returned (.bool B6) ∧ Fr u w'))
    (q7 : Hid (B0 = true → ∀ u, Fr w u → Calls Tryz.prog 121 #[.pointer (some ⟨b, 0, none⟩), .agg #[.int .i64 e.k, .int .i64 e.g, .int .i64 e.o, .int .i64 e.w, .int .i64 e.l, .int .i64 e.s, .int .i64 e.f, .int .i64 e.t]] u fun x w' => x = .returned (.bool B7) ∧ Fr u w'))
    (q8 : Hid (B0 = true → ∀ u, Fr w u → Calls Tryz.prog 122 #[.pointer (some ⟨b, 0, none⟩), .agg #[.int .i64 e.k, .int .i64 e.g, .int .i64 e.o, .int .i64 e.w, .int .i64 e.l, .int .i64 e.s, .int .i64 e.f, .int .i64 e.t]] u fun x w' => x = .returned (.bool B8) ∧ Fr u w'))
    (q9 : Hid (B0 = true → ∀ u, Fr w u → Calls Tryz.prog 123 #[.pointer (some ⟨b, 0, none⟩), .agg #[.int .i64 e.k, .int .i64 e.g, .int .i64 e.o, .int .i64 e.w, .int .i64 e.l, .int .i64 e.s, .int .i64 e.f, .int .i64 e.t]] u fun x w' => x = .returned (.bool B9) ∧ Fr u w')) :
    Calls Tryz.prog 59 #[.pointer (some ⟨b, 0, none⟩), .agg #[.int .i64 e.k, .int .i64 e.g, .int .i64 e.o, .int .i64 e.w, .int .i64 e.l, .int .i64 e.s, .int .i64 e.f, .int .i64 e.t]] w fun x w' => x = .returned (.int .i64 (codeC B0 B1 B2 B3 B4 B5 B6 B7 B8 B9)) ∧ Fr w w' := by
  have fW := Fr.alloc w (.cells #[.int .i64 e.k, .int .i64 e.g, .int .i64 e.o, .int .i64 e.w, .int .i64 e.l, .int .i64 e.s, .int .i64 e.f, .int .i64 e.t] 31)
  have kE := EvAt.new w e 31
  obtain ⟨k, gr, o, wi, l, sz, f, t⟩ := e
  simp only at fW kE q0 ⊢
  go_enter Tryz.func59, Tryz.ntmps59
  go_wp2_with fail
  obtain ⟨W, hW⟩ : ∃ W, W = w.alloc (.cells #[.int .i64 k, .int .i64 gr, .int .i64 o, .int .i64 wi, .int .i64 l, .int .i64 sz, .int .i64 f, .int .i64 t] 31) := ⟨_, rfl⟩
  rw [← hW] at fW kE ⊢
  clear hW
  have HE : Hid (∀ u, Fr W u → EvAt u w.heap.size ⟨k, gr, o, wi, l, sz, f, t⟩) := fun u f => kE.fr f
  clear kE
  refine (q0 W fW).mono ?_
  rintro x u0 ⟨rfl, f0⟩
  clear q0
  cases B0
  · go_wp2_with fail
    go_ret
    exact ⟨rfl, fW.trans f0⟩
  have g0 := f0
  clear f0
  have r1 := q1.out (by trivial)
  obtain ⟨c0, c1, c2, c3, c4, c5, c6, c7⟩ := HE.out _ g0
  simp only at c0 c1 c2 c3 c4 c5 c6 c7
  go_wp2_with fail
  refine (r1 u0 (fW.trans g0)).mono ?_
  rintro e u1 ⟨rfl, f1⟩
  clear q1 r1 c0 c1 c2 c3 c4 c5 c6 c7
  have g1 := g0.trans f1
  clear f1 g0
  cases B1
  case true =>
    go_wp2_with fail
    go_ret
    exact ⟨rfl, fW.trans g1⟩
  have r2 := q2.out (by trivial)
  obtain ⟨c0, c1, c2, c3, c4, c5, c6, c7⟩ := HE.out _ g1
  simp only at c0 c1 c2 c3 c4 c5 c6 c7
  go_wp2_with fail
  refine (r2 u1 (fW.trans g1)).mono ?_
  rintro e u2 ⟨rfl, f2⟩
  clear q2 r2 c0 c1 c2 c3 c4 c5 c6 c7
  have g2 := g1.trans f2
  clear f2 g1
  cases B2
  case true =>
    go_wp2_with fail
    go_ret
    exact ⟨rfl, fW.trans g2⟩
  have r3 := q3.out (by trivial)
  obtain ⟨c0, c1, c2, c3, c4, c5, c6, c7⟩ := HE.out _ g2
  simp only at c0 c1 c2 c3 c4 c5 c6 c7
  go_wp2_with fail
  refine (r3 u2 (fW.trans g2)).mono ?_
  rintro e u3 ⟨rfl, f3⟩
  clear q3 r3 c0 c1 c2 c3 c4 c5 c6 c7
  have g3 := g2.trans f3
  clear f3 g2
  cases B3
  case true =>
    go_wp2_with fail
    go_ret
    exact ⟨rfl, fW.trans g3⟩
  have r4 := q4.out (by trivial)
  obtain ⟨c0, c1, c2, c3, c4, c5, c6, c7⟩ := HE.out _ g3
  simp only at c0 c1 c2 c3 c4 c5 c6 c7
  go_wp2_with fail
  refine (r4 u3 (fW.trans g3)).mono ?_
  rintro e u4 ⟨rfl, f4⟩
  clear q4 r4 c0 c1 c2 c3 c4 c5 c6 c7
  have g4 := g3.trans f4
  clear f4 g3
  cases B4
  case true =>
    go_wp2_with fail
    go_ret
    exact ⟨rfl, fW.trans g4⟩
  have r5 := q5.out (by trivial)
  obtain ⟨c0, c1, c2, c3, c4, c5, c6, c7⟩ := HE.out _ g4
  simp only at c0 c1 c2 c3 c4 c5 c6 c7
  go_wp2_with fail
  refine (r5 u4 (fW.trans g4)).mono ?_
  rintro e u5 ⟨rfl, f5⟩
  clear q5 r5 c0 c1 c2 c3 c4 c5 c6 c7
  have g5 := g4.trans f5
  clear f5 g4
  cases B5
  case true =>
    go_wp2_with fail
    go_ret
    exact ⟨rfl, fW.trans g5⟩
  have r6 := q6.out (by trivial)
  obtain ⟨c0, c1, c2, c3, c4, c5, c6, c7⟩ := HE.out _ g5
  simp only at c0 c1 c2 c3 c4 c5 c6 c7
  go_wp2_with fail
  refine (r6 u5 (fW.trans g5)).mono ?_
  rintro e u6 ⟨rfl, f6⟩
  clear q6 r6 c0 c1 c2 c3 c4 c5 c6 c7
  have g6 := g5.trans f6
  clear f6 g5
  cases B6
  case true =>
    go_wp2_with fail
    go_ret
    exact ⟨rfl, fW.trans g6⟩
  have r7 := q7.out (by trivial)
  obtain ⟨c0, c1, c2, c3, c4, c5, c6, c7⟩ := HE.out _ g6
  simp only at c0 c1 c2 c3 c4 c5 c6 c7
  go_wp2_with fail
  refine (r7 u6 (fW.trans g6)).mono ?_
  rintro e u7 ⟨rfl, f7⟩
  clear q7 r7 c0 c1 c2 c3 c4 c5 c6 c7
  have g7 := g6.trans f7
  clear f7 g6
  cases B7
  case true =>
    go_wp2_with fail
    go_ret
    exact ⟨rfl, fW.trans g7⟩
  have r8 := q8.out (by trivial)
  obtain ⟨c0, c1, c2, c3, c4, c5, c6, c7⟩ := HE.out _ g7
  simp only at c0 c1 c2 c3 c4 c5 c6 c7
  go_wp2_with fail
  refine (r8 u7 (fW.trans g7)).mono ?_
  rintro e u8 ⟨rfl, f8⟩
  clear q8 r8 c0 c1 c2 c3 c4 c5 c6 c7
  have g8 := g7.trans f8
  clear f8 g7
  cases B8
  case true =>
    go_wp2_with fail
    go_ret
    exact ⟨rfl, fW.trans g8⟩
  have r9 := q9.out (by trivial)
  obtain ⟨c0, c1, c2, c3, c4, c5, c6, c7⟩ := HE.out _ g8
  simp only at c0 c1 c2 c3 c4 c5 c6 c7
  go_wp2_with fail
  refine (r9 u8 (fW.trans g8)).mono ?_
  rintro e u9 ⟨rfl, f9⟩
  clear q9 r9 c0 c1 c2 c3 c4 c5 c6 c7
  have g9 := g8.trans f9
  clear f9 g8
  cases B9
  case true =>
    go_wp2_with fail
    go_ret
    exact ⟨rfl, fW.trans g9⟩
  go_wp2_with fail
  go_ret
  exact ⟨rfl, fW.trans g9⟩
end Go.Proofs.YtcofhmikdkkigaaGreatDoor
namespace Go.Proofs.YtcofhmikdkkigaaGreatDoor
open Go.RowKit

def closedB (c : Ch) (e : Ev) : Bool := if e.k = 7 ∨ e.k = 9 ∨ e.k = 10 then c.cl else if e.k = 11 then !c.cl else false

set_option maxRecDepth 20000 in
set_option maxHeartbeats 1000000 in
theorem isWronglyClosed_any (b b2 : Nat) (c : Ch) (e : Ev) (w : World) (hb : w.cell? ⟨b, 2, none⟩ = some (.map (some b2)))
    (hL : ∀ u, Fr w u → (Instr.lookup 132 (.map (some b2)) (.int .i64 e.o) false).run Tryz.prog u = .ok (.agg #[.int .i64 c.o, .int .i64 c.cap, .int .i64 c.sent, .int .i64 c.got, .bool c.cl]) u) :
    Calls Tryz.prog 119 #[.pointer (some ⟨b, 0, none⟩), .agg #[.int .i64 e.k, .int .i64 e.g, .int .i64 e.o, .int .i64 e.w, .int .i64 e.l, .int .i64 e.s, .int .i64 e.f, .int .i64 e.t]] w fun x w' => x = .returned (.bool (closedB c e)) ∧ Fr w w' := by
  have fW := Fr.alloc w (.cells #[.int .i64 e.k, .int .i64 e.g, .int .i64 e.o, .int .i64 e.w, .int .i64 e.l, .int .i64 e.s, .int .i64 e.f, .int .i64 e.t] 31)
  have kE := EvAt.new w e 31
  have hb := fW.cell hb
  obtain ⟨R, hR⟩ : ∃ R, R = closedB c e := ⟨_, rfl⟩
  rw [← hR]
  have HR : Hid (R = closedB c e) := hR
  clear hR
  obtain ⟨k, gr, o, wi, l, sz, f, t⟩ := e
  obtain ⟨co, cap, sent, got, cl⟩ := c
  simp only at fW kE hb hL ⊢
  go_enter Tryz.func119, Tryz.ntmps119
  go_wp2_with fail
  obtain ⟨W, hW⟩ : ∃ W, W = w.alloc (.cells #[.int .i64 k, .int .i64 gr, .int .i64 o, .int .i64 wi, .int .i64 l, .int .i64 sz, .int .i64 f, .int .i64 t] 31) := ⟨_, rfl⟩
  rw [← hW] at fW kE hb ⊢
  clear hW
  obtain ⟨c0, c1, c2, c3, c4, c5, c6, c7⟩ := kE
  simp only at c0 c2
  clear c1 c3 c4 c5 c6 c7
  have HL : Hid (∀ u, Fr w u → (Instr.lookup 132 (.map (some b2)) (.int .i64 o) false).run Tryz.prog u = .ok (.agg #[.int .i64 co, .int .i64 cap, .int .i64 sent, .int .i64 got, .bool cl]) u) := hL
  clear hL
  have l1 := HL.out _ (fW.trans (Fr.drew W))
  have l2 := HL.out _ ((fW.trans (Fr.alloc W (.cells #[.int .i64 0, .int .i64 0, .int .i64 0, .int .i64 0, .bool false] 89))).trans (Fr.drew _))
  go_region_held3 (fun u => u.cell? ⟨b, 2, none⟩ = some (.map (some b2)) ∧ u.cell? ⟨w.heap.size, 2, none⟩ = some (.int .i64 o)) (go_keep) (fail)
  all_goals (
    clear l1 l2 HL
    obtain ⟨V, hV⟩ : ∃ V, V = (W.alloc (.cells #[.int .i64 co, .int .i64 cap, .int .i64 sent, .int .i64 got, .bool cl] 89)).drew := ⟨_, rfl⟩
    have fA : Fr W V := by rw [hV]; exact (Fr.alloc _ _).trans (Fr.drew _)
    have fV : Fr w V := fW.trans fA
    have x0 := fA.cell c0
    have y1 : V.cell? ⟨W.heap.size, 1, none⟩ = some (.int .i64 cap) := by rw [hV]; simp [go_sem]
    have y2 : V.cell? ⟨W.heap.size, 2, none⟩ = some (.int .i64 sent) := by rw [hV]; simp [go_sem]
    have y3 : V.cell? ⟨W.heap.size, 3, none⟩ = some (.int .i64 got) := by rw [hV]; simp [go_sem]
    have y4 : V.cell? ⟨W.heap.size, 4, none⟩ = some (.bool cl) := by rw [hV]; simp [go_sem]
    rw [← hV]
    clear hV fA c0 c2 hb
    rcases (show k = 7 ∨ k = 9 ∨ k = 10 ∨ k = 11 ∨ (k ≠ 7 ∧ k ≠ 9 ∧ k ≠ 10 ∧ k ≠ 11) by omega) with rfl | rfl | rfl | rfl | hk
    · have HN : Hid (R = cl) := by show R = cl; rw [HR.out]; simp [closedB]
      go_wp2_with fail
      go_ret
      exact ⟨ret_bool HN.out.symm, fV⟩
    · have HN : Hid (R = cl) := by show R = cl; rw [HR.out]; simp [closedB]
      go_wp2_with fail
      go_ret
      exact ⟨ret_bool HN.out.symm, fV⟩
    · have HN : Hid (R = cl) := by show R = cl; rw [HR.out]; simp [closedB]
      go_wp2_with fail
      go_ret
      exact ⟨ret_bool HN.out.symm, fV⟩
    · have HN : Hid (R = !cl) := by show R = !cl; rw [HR.out]; simp [closedB]
      go_wp2_with fail
      go_ret
      exact ⟨ret_bool HN.out.symm, fV⟩
    · obtain ⟨h7, h9, h10, h11⟩ := hk
      have HN : Hid (R = false) := by show R = false; rw [HR.out]; simp [closedB, h7, h9, h10, h11]
      go_wp2_with fail
      go_ret
      exact ⟨ret_bool HN.out.symm, fV⟩)
end Go.Proofs.YtcofhmikdkkigaaGreatDoor
namespace Go.Proofs.YtcofhmikdkkigaaGreatDoor
open Go.RowKit

def fullB (c : Ch) (e : Ev) : Bool := decide (e.k = 7) && decide (c.sent - c.got = c.cap)
def emptyB (c : Ch) (e : Ev) : Bool := if e.k = 8 then decide (c.sent = c.got) else if e.k = 11 then decide (c.sent ≠ c.got) else false

set_option maxRecDepth 20000 in
set_option maxHeartbeats 1000000 in
theorem isFull_any (b b2 : Nat) (c : Ch) (e : Ev) (w : World) (hb : w.cell? ⟨b, 2, none⟩ = some (.map (some b2)))
    (hs : 0 ≤ c.got ∧ c.got ≤ c.sent ∧ c.sent ≤ 1000000) (hL : ∀ u, Fr w u → (Instr.lookup 132 (.map (some b2)) (.int .i64 e.o) false).run Tryz.prog u = .ok (.agg #[.int .i64 c.o, .int .i64 c.cap, .int .i64 c.sent, .int .i64 c.got, .bool c.cl]) u) :
    Calls Tryz.prog 120 #[.pointer (some ⟨b, 0, none⟩), .agg #[.int .i64 e.k, .int .i64 e.g, .int .i64 e.o, .int .i64 e.w, .int .i64 e.l, .int .i64 e.s, .int .i64 e.f, .int .i64 e.t]] w fun x w' => x = .returned (.bool (fullB c e)) ∧ Fr w w' := by
  have fW := Fr.alloc w (.cells #[.int .i64 e.k, .int .i64 e.g, .int .i64 e.o, .int .i64 e.w, .int .i64 e.l, .int .i64 e.s, .int .i64 e.f, .int .i64 e.t] 31)
  have kE := EvAt.new w e 31
  have hb := fW.cell hb
  obtain ⟨R, hR⟩ : ∃ R, R = fullB c e := ⟨_, rfl⟩
  rw [← hR]
  have HR : Hid (R = fullB c e) := hR
  clear hR
  obtain ⟨k, gr, o, wi, l, sz, f, t⟩ := e
  obtain ⟨co, cap, sent, got, cl⟩ := c
  simp only at fW kE hb hL hs ⊢
  go_enter Tryz.func120, Tryz.ntmps120
  go_wp2_with fail
  obtain ⟨W, hW⟩ : ∃ W, W = w.alloc (.cells #[.int .i64 k, .int .i64 gr, .int .i64 o, .int .i64 wi, .int .i64 l, .int .i64 sz, .int .i64 f, .int .i64 t] 31) := ⟨_, rfl⟩
  rw [← hW] at fW kE hb ⊢
  clear hW
  obtain ⟨c0, c1, c2, c3, c4, c5, c6, c7⟩ := kE
  simp only at c0 c2
  clear c1 c3 c4 c5 c6 c7
  have HL : Hid (∀ u, Fr w u → (Instr.lookup 132 (.map (some b2)) (.int .i64 o) false).run Tryz.prog u = .ok (.agg #[.int .i64 co, .int .i64 cap, .int .i64 sent, .int .i64 got, .bool cl]) u) := hL
  clear hL
  have l1 := HL.out _ (fW.trans (Fr.drew W))
  have l2 := HL.out _ ((fW.trans (Fr.alloc W (.cells #[.int .i64 0, .int .i64 0, .int .i64 0, .int .i64 0, .bool false] 89))).trans (Fr.drew _))
  go_region_held3 (fun u => u.cell? ⟨b, 2, none⟩ = some (.map (some b2)) ∧ u.cell? ⟨w.heap.size, 2, none⟩ = some (.int .i64 o)) (go_keep) (fail)
  all_goals (
    clear l1 l2 HL
    obtain ⟨V, hV⟩ : ∃ V, V = (W.alloc (.cells #[.int .i64 co, .int .i64 cap, .int .i64 sent, .int .i64 got, .bool cl] 89)).drew := ⟨_, rfl⟩
    have fA : Fr W V := by rw [hV]; exact (Fr.alloc _ _).trans (Fr.drew _)
    have fV : Fr w V := fW.trans fA
    have x0 := fA.cell c0
    have y1 : V.cell? ⟨W.heap.size, 1, none⟩ = some (.int .i64 cap) := by rw [hV]; simp [go_sem]
    have y2 : V.cell? ⟨W.heap.size, 2, none⟩ = some (.int .i64 sent) := by rw [hV]; simp [go_sem]
    have y3 : V.cell? ⟨W.heap.size, 3, none⟩ = some (.int .i64 got) := by rw [hV]; simp [go_sem]
    have y4 : V.cell? ⟨W.heap.size, 4, none⟩ = some (.bool cl) := by rw [hV]; simp [go_sem]
    rw [← hV]
    clear hV fA c0 c2 hb
    obtain ⟨s1, s2, s3⟩ := hs
    by_cases hk : k = 7
    · subst hk
      by_cases h2 : sent - got = cap
      · have HN : Hid (R = true) := by show R = true; rw [HR.out]; simp [fullB, h2]
        subst h2
        go_wp2_with fail
        go_ret
        exact ⟨ret_bool HN.out.symm, fV⟩
      · have HN : Hid (R = false) := by show R = false; rw [HR.out]; simp [fullB, h2]
        go_wp2_with fail
        go_ret
        first | exact ⟨ret_bool HN.out.symm, fV⟩ | exact ⟨ret_bool ((show (sent - got == cap) = false by simpa using h2).trans HN.out.symm), fV⟩
    · have HN : Hid (R = false) := by show R = false; rw [HR.out]; simp [fullB, hk]
      go_wp2_with fail
      go_ret
      exact ⟨ret_bool HN.out.symm, fV⟩)

set_option maxRecDepth 20000 in
set_option maxHeartbeats 1000000 in
theorem isWronglyEmpty_any (b b2 : Nat) (c : Ch) (e : Ev) (w : World) (hb : w.cell? ⟨b, 2, none⟩ = some (.map (some b2)))
    (hL : ∀ u, Fr w u → (Instr.lookup 132 (.map (some b2)) (.int .i64 e.o) false).run Tryz.prog u = .ok (.agg #[.int .i64 c.o, .int .i64 c.cap, .int .i64 c.sent, .int .i64 c.got, .bool c.cl]) u) :
    Calls Tryz.prog 121 #[.pointer (some ⟨b, 0, none⟩), .agg #[.int .i64 e.k, .int .i64 e.g, .int .i64 e.o, .int .i64 e.w, .int .i64 e.l, .int .i64 e.s, .int .i64 e.f, .int .i64 e.t]] w fun x w' => x = .returned (.bool (emptyB c e)) ∧ Fr w w' := by
  have fW := Fr.alloc w (.cells #[.int .i64 e.k, .int .i64 e.g, .int .i64 e.o, .int .i64 e.w, .int .i64 e.l, .int .i64 e.s, .int .i64 e.f, .int .i64 e.t] 31)
  have kE := EvAt.new w e 31
  have hb := fW.cell hb
  obtain ⟨R, hR⟩ : ∃ R, R = emptyB c e := ⟨_, rfl⟩
  rw [← hR]
  have HR : Hid (R = emptyB c e) := hR
  clear hR
  obtain ⟨k, gr, o, wi, l, sz, f, t⟩ := e
  obtain ⟨co, cap, sent, got, cl⟩ := c
  simp only at fW kE hb hL ⊢
  go_enter Tryz.func121, Tryz.ntmps121
  go_wp2_with fail
  obtain ⟨W, hW⟩ : ∃ W, W = w.alloc (.cells #[.int .i64 k, .int .i64 gr, .int .i64 o, .int .i64 wi, .int .i64 l, .int .i64 sz, .int .i64 f, .int .i64 t] 31) := ⟨_, rfl⟩
  rw [← hW] at fW kE hb ⊢
  clear hW
  obtain ⟨c0, c1, c2, c3, c4, c5, c6, c7⟩ := kE
  simp only at c0 c2
  clear c1 c3 c4 c5 c6 c7
  have HL : Hid (∀ u, Fr w u → (Instr.lookup 132 (.map (some b2)) (.int .i64 o) false).run Tryz.prog u = .ok (.agg #[.int .i64 co, .int .i64 cap, .int .i64 sent, .int .i64 got, .bool cl]) u) := hL
  clear hL
  have l1 := HL.out _ (fW.trans (Fr.drew W))
  have l2 := HL.out _ ((fW.trans (Fr.alloc W (.cells #[.int .i64 0, .int .i64 0, .int .i64 0, .int .i64 0, .bool false] 89))).trans (Fr.drew _))
  go_region_held3 (fun u => u.cell? ⟨b, 2, none⟩ = some (.map (some b2)) ∧ u.cell? ⟨w.heap.size, 2, none⟩ = some (.int .i64 o)) (go_keep) (fail)
  all_goals (
    clear l1 l2 HL
    obtain ⟨V, hV⟩ : ∃ V, V = (W.alloc (.cells #[.int .i64 co, .int .i64 cap, .int .i64 sent, .int .i64 got, .bool cl] 89)).drew := ⟨_, rfl⟩
    have fA : Fr W V := by rw [hV]; exact (Fr.alloc _ _).trans (Fr.drew _)
    have fV : Fr w V := fW.trans fA
    have x0 := fA.cell c0
    have y1 : V.cell? ⟨W.heap.size, 1, none⟩ = some (.int .i64 cap) := by rw [hV]; simp [go_sem]
    have y2 : V.cell? ⟨W.heap.size, 2, none⟩ = some (.int .i64 sent) := by rw [hV]; simp [go_sem]
    have y3 : V.cell? ⟨W.heap.size, 3, none⟩ = some (.int .i64 got) := by rw [hV]; simp [go_sem]
    have y4 : V.cell? ⟨W.heap.size, 4, none⟩ = some (.bool cl) := by rw [hV]; simp [go_sem]
    rw [← hV]
    clear hV fA c0 c2 hb
    rcases (show k = 8 ∨ k = 11 ∨ (k ≠ 8 ∧ k ≠ 11) by omega) with rfl | rfl | hk
    · by_cases h2 : sent = got
      · have HN : Hid (R = true) := by show R = true; rw [HR.out]; simp [emptyB, h2]
        subst h2
        go_wp2_with fail
        go_ret
        exact ⟨ret_bool HN.out.symm, fV⟩
      · have HN : Hid (R = false) := by show R = false; rw [HR.out]; simp [emptyB, h2]
        go_wp2_with fail
        go_ret
        first | exact ⟨ret_bool HN.out.symm, fV⟩ | exact ⟨ret_bool ((show (sent == got) = false by simpa using h2).trans HN.out.symm), fV⟩
    · by_cases h2 : sent = got
      · have HN : Hid (R = false) := by show R = false; rw [HR.out]; simp [emptyB, h2]
        subst h2
        go_wp2_with fail
        go_ret
        exact ⟨ret_bool HN.out.symm, fV⟩
      · have HN : Hid (R = true) := by show R = true; rw [HR.out]; simp [emptyB, h2]
        go_wp2_with fail
        go_ret
        first | exact ⟨ret_bool HN.out.symm, fV⟩ | exact ⟨ret_bool ((show (sent != got) = true by simpa using h2).trans HN.out.symm), fV⟩
    · obtain ⟨h8, h11⟩ := hk
      have HN : Hid (R = false) := by show R = false; rw [HR.out]; simp [emptyB, h8, h11]
      go_wp2_with fail
      go_ret
      exact ⟨ret_bool HN.out.symm, fV⟩)
end Go.Proofs.YtcofhmikdkkigaaGreatDoor
namespace Go.Proofs.YtcofhmikdkkigaaGreatDoor
open Go.RowKit

def countB (had : Bool) (n sent : Int) (e : Ev) : Bool := if e.k = 13 then !had else if e.k = 14 then had else if e.k = 12 then decide (1000000 < n + e.s) else if e.k = 7 then decide (sent = 1000000) else false

theorem field_sent (a b c d : Int) (q : Bool) (u : World) : Sem.run Tryz.prog (Instr.field 89 (.agg #[.int .i64 a, .int .i64 b, .int .i64 c, .int .i64 d, .bool q]) 2) u = .ok (.int .i64 c) u := by
  have hu := run_underlying (w := u) Tryz.underlying89
  simp [Instr.field, asAgg, hu, go_sem]

set_option maxRecDepth 20000 in
set_option maxHeartbeats 1000000 in
theorem isMiscounted_any (b b2 b3 : Nat) (had : Bool) (no n : Int) (c : Ch) (e : Ev) (w : World) (hb : w.cell? ⟨b, 3, none⟩ = some (.map (some b3))) (hb2 : w.cell? ⟨b, 2, none⟩ = some (.map (some b2)))
    (hn : 0 ≤ n ∧ n ≤ 1000000) (hs : 0 ≤ e.s ∧ e.s ≤ 1000000000)
    (hL : ∀ u, Fr w u → (Instr.lookup 135 (.map (some b3)) (.int .i64 e.o) true).run Tryz.prog u = .ok (.tuple #[.agg #[.int .i64 no, .int .i64 n], .bool had]) u)
    (hC : ∀ u, Fr w u → (Instr.lookup 132 (.map (some b2)) (.int .i64 e.o) false).run Tryz.prog u = .ok (.agg #[.int .i64 c.o, .int .i64 c.cap, .int .i64 c.sent, .int .i64 c.got, .bool c.cl]) u) :
    Calls Tryz.prog 122 #[.pointer (some ⟨b, 0, none⟩), .agg #[.int .i64 e.k, .int .i64 e.g, .int .i64 e.o, .int .i64 e.w, .int .i64 e.l, .int .i64 e.s, .int .i64 e.f, .int .i64 e.t]] w fun x w' => x = .returned (.bool (countB had n c.sent e)) ∧ Fr w w' := by
  have fW := Fr.alloc w (.cells #[.int .i64 e.k, .int .i64 e.g, .int .i64 e.o, .int .i64 e.w, .int .i64 e.l, .int .i64 e.s, .int .i64 e.f, .int .i64 e.t] 31)
  have kE := EvAt.new w e 31
  have hb := fW.cell hb
  have hb2 := fW.cell hb2
  obtain ⟨R, hR⟩ : ∃ R, R = countB had n c.sent e := ⟨_, rfl⟩
  rw [← hR]
  have HR : Hid (R = countB had n c.sent e) := hR
  clear hR
  obtain ⟨k, gr, o, wi, l, sz, f, t⟩ := e
  obtain ⟨co, cap, sent, got, cl⟩ := c
  simp only at fW kE hb hb2 hL hC hs HR ⊢
  have HC : Hid (∀ u, Fr w u → (Instr.lookup 132 (.map (some b2)) (.int .i64 o) false).run Tryz.prog u = .ok (.agg #[.int .i64 co, .int .i64 cap, .int .i64 sent, .int .i64 got, .bool cl]) u) := hC
  clear hC
  go_enter Tryz.func122, Tryz.ntmps122
  go_wp2_with fail
  obtain ⟨W, hW⟩ : ∃ W, W = w.alloc (.cells #[.int .i64 k, .int .i64 gr, .int .i64 o, .int .i64 wi, .int .i64 l, .int .i64 sz, .int .i64 f, .int .i64 t] 31) := ⟨_, rfl⟩
  rw [← hW] at fW kE hb hb2 ⊢
  clear hW
  obtain ⟨c0, c1, c2, c3, c4, c5, c6, c7⟩ := kE
  simp only at c0 c2 c5
  clear c1 c3 c4 c6 c7
  have l1 := hL _ (fW.trans (Fr.drew W))
  have l2 := hL _ ((fW.trans (Fr.alloc W (.cells #[.int .i64 0, .int .i64 0] 92))).trans (Fr.drew _))
  clear hL
  go_region_held3 (fun u => u.cell? ⟨b, 3, none⟩ = some (.map (some b3)) ∧ u.cell? ⟨w.heap.size, 2, none⟩ = some (.int .i64 o)) (go_keep) (fail)
  all_goals (
    clear l1 l2
    obtain ⟨V, hV⟩ : ∃ V, V = (W.alloc (.cells #[.int .i64 no, .int .i64 n] 92)).drew := ⟨_, rfl⟩
    have fA : Fr W V := by rw [hV]; exact (Fr.alloc _ _).trans (Fr.drew _)
    have fV : Fr w V := fW.trans fA
    have x0 := fA.cell c0
    have x2 := fA.cell c2
    have x5 := fA.cell c5
    have xb := fA.cell hb2
    have y1 : V.cell? ⟨W.heap.size, 1, none⟩ = some (.int .i64 n) := by rw [hV]; simp [go_sem]
    rw [← hV]
    clear hV fA c0 c2 c5 hb hb2
    rcases (show k = 13 ∨ k = 14 ∨ k = 12 ∨ k = 7 ∨ (k ≠ 13 ∧ k ≠ 14 ∧ k ≠ 12 ∧ k ≠ 7) by omega) with rfl | rfl | rfl | rfl | hk
    · have HN : Hid (R = !had) := by show R = !had; rw [HR.out]; simp [countB]
      go_wp2_with fail
      go_ret
      exact ⟨ret_bool HN.out.symm, fV⟩
    · have HN : Hid (R = had) := by show R = had; rw [HR.out]; simp [countB]
      go_wp2_with fail
      go_ret
      exact ⟨ret_bool HN.out.symm, fV⟩
    · obtain ⟨n0, n1⟩ := hn
      obtain ⟨s0, s1⟩ := hs
      by_cases h2 : 1000000 < n + sz
      · have HN : Hid (R = true) := by show R = true; rw [HR.out]; simp [countB, h2]
        go_wp2_with fail
        go_ret
        first | exact ⟨ret_bool HN.out.symm, fV⟩ | exact ⟨ret_bool ((show decide (1000000 < n + sz) = true by simpa using h2).trans HN.out.symm), fV⟩
      · have HN : Hid (R = false) := by show R = false; rw [HR.out]; simp only [countB]; simp; omega
        go_wp2_with fail
        go_ret
        first | exact ⟨ret_bool HN.out.symm, fV⟩ | exact ⟨ret_bool ((show decide (1000000 < n + sz) = false by simpa using h2).trans HN.out.symm), fV⟩
    · have l3 := HC.out _ (fV.trans (Fr.drew V))
      have l4 := field_sent co cap sent got cl
      by_cases h2 : sent = 1000000
      · have HN : Hid (R = true) := by show R = true; rw [HR.out]; simp [countB, h2]
        subst h2
        go_wp2_with fail
        go_region_held3 (fun u => u.cell? ⟨b, 2, none⟩ = some (.map (some b2)) ∧ u.cell? ⟨w.heap.size, 2, none⟩ = some (.int .i64 o)) (go_keep) (fail)
        go_wp2_with fail
        go_ret
        exact ⟨ret_bool HN.out.symm, fV.trans (Fr.drew V)⟩
      · have HN : Hid (R = false) := by show R = false; rw [HR.out]; simp [countB, h2]
        go_wp2_with fail
        go_region_held3 (fun u => u.cell? ⟨b, 2, none⟩ = some (.map (some b2)) ∧ u.cell? ⟨w.heap.size, 2, none⟩ = some (.int .i64 o)) (go_keep) (fail)
        go_wp2_with fail
        go_ret
        first | exact ⟨ret_bool HN.out.symm, fV.trans (Fr.drew V)⟩ | exact ⟨ret_bool ((show (sent == 1000000) = false by simpa using h2).trans HN.out.symm), fV.trans (Fr.drew V)⟩
    · obtain ⟨h1, h2, h3, h4⟩ := hk
      have HN : Hid (R = false) := by show R = false; rw [HR.out]; simp [countB, h1, h2, h3, h4]
      go_wp2_with fail
      go_ret
      exact ⟨ret_bool HN.out.symm, fV⟩)
end Go.Proofs.YtcofhmikdkkigaaGreatDoor
