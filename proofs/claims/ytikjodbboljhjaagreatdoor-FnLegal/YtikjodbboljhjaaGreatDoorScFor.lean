/-
  codeFor: the program's code of an event on a board.
-/
import Derived.Test.YtikjodbboljhjaaGreatDoorScAsk
namespace Go.Proofs.YtikjodbboljhjaaGreatDoor
open Go.RowKit

def codeC (B0 B1 B2 B3 B4 B5 B6 B7 B8 B9 : Bool) : Int := if B0 = false then 1 else if B1 = true then 2 else if B2 = true then 3 else if B3 = true then 4 else if B4 = true then 5 else if B5 = true then 6 else if B6 = true then 7 else if B7 = true then 8 else if B8 = true then 9 else if B9 = true then 10 else 0

set_option maxHeartbeats 2000000 in
theorem codeFor_any (b : Nat) (e : Ev) (w : World) (B0 B1 B2 B3 B4 B5 B6 B7 B8 B9 : Bool)
    (q0 : ∀ u, Fr w u → Calls Tryz.prog 111 #[.agg #[.int .i64 e.k, .int .i64 e.g, .int .i64 e.o, .int .i64 e.w, .int .i64 e.l, .int .i64 e.s, .int .i64 e.f, .int .i64 e.t]] u fun x w' => x = .returned (.bool B0) ∧ Fr u w')
    (q1 : Hid (B0 = true → ∀ u, Fr w u → Calls Tryz.prog 112 #[.pointer (some ⟨b, 0, none⟩), .agg #[.int .i64 e.k, .int .i64 e.g, .int .i64 e.o, .int .i64 e.w, .int .i64 e.l, .int .i64 e.s, .int .i64 e.f, .int .i64 e.t]] u fun x w' => x = .returned (.bool B1) ∧ Fr u w'))
    (q2 : Hid (B0 = true → ∀ u, Fr w u → Calls Tryz.prog 113 #[.pointer (some ⟨b, 0, none⟩), .agg #[.int .i64 e.k, .int .i64 e.g, .int .i64 e.o, .int .i64 e.w, .int .i64 e.l, .int .i64 e.s, .int .i64 e.f, .int .i64 e.t]] u fun x w' => x = .returned (.bool B2) ∧ Fr u w'))
    (q3 : Hid (B0 = true → ∀ u, Fr w u → Calls Tryz.prog 114 #[.pointer (some ⟨b, 0, none⟩), .agg #[.int .i64 e.k, .int .i64 e.g, .int .i64 e.o, .int .i64 e.w, .int .i64 e.l, .int .i64 e.s, .int .i64 e.f, .int .i64 e.t]] u fun x w' => x = .returned (.bool B3) ∧ Fr u w'))
    (q4 : Hid (B0 = true → ∀ u, Fr w u → Calls Tryz.prog 115 #[.pointer (some ⟨b, 0, none⟩), .agg #[.int .i64 e.k, .int .i64 e.g, .int .i64 e.o, .int .i64 e.w, .int .i64 e.l, .int .i64 e.s, .int .i64 e.f, .int .i64 e.t]] u fun x w' => x = .returned (.bool B4) ∧ Fr u w'))
    (q5 : Hid (B0 = true → ∀ u, Fr w u → Calls Tryz.prog 116 #[.pointer (some ⟨b, 0, none⟩), .agg #[.int .i64 e.k, .int .i64 e.g, .int .i64 e.o, .int .i64 e.w, .int .i64 e.l, .int .i64 e.s, .int .i64 e.f, .int .i64 e.t]] u fun x w' => x = .returned (.bool B5) ∧ Fr u w'))
    (q6 : Hid (B0 = true → ∀ u, Fr w u → Calls Tryz.prog 117 #[.pointer (some ⟨b, 0, none⟩), .agg #[.int .i64 e.k, .int .i64 e.g, .int .i64 e.o, .int .i64 e.w, .int .i64 e.l, .int .i64 e.s, .int .i64 e.f, .int .i64 e.t]] u fun x w' => x = .returned (.bool B6) ∧ Fr u w'))
    (q7 : Hid (B0 = true → ∀ u, Fr w u → Calls Tryz.prog 118 #[.pointer (some ⟨b, 0, none⟩), .agg #[.int .i64 e.k, .int .i64 e.g, .int .i64 e.o, .int .i64 e.w, .int .i64 e.l, .int .i64 e.s, .int .i64 e.f, .int .i64 e.t]] u fun x w' => x = .returned (.bool B7) ∧ Fr u w'))
    (q8 : Hid (B0 = true → ∀ u, Fr w u → Calls Tryz.prog 119 #[.pointer (some ⟨b, 0, none⟩), .agg #[.int .i64 e.k, .int .i64 e.g, .int .i64 e.o, .int .i64 e.w, .int .i64 e.l, .int .i64 e.s, .int .i64 e.f, .int .i64 e.t]] u fun x w' => x = .returned (.bool B8) ∧ Fr u w'))
    (q9 : Hid (B0 = true → ∀ u, Fr w u → Calls Tryz.prog 120 #[.pointer (some ⟨b, 0, none⟩), .agg #[.int .i64 e.k, .int .i64 e.g, .int .i64 e.o, .int .i64 e.w, .int .i64 e.l, .int .i64 e.s, .int .i64 e.f, .int .i64 e.t]] u fun x w' => x = .returned (.bool B9) ∧ Fr u w')) :
    Calls Tryz.prog 47 #[.pointer (some ⟨b, 0, none⟩), .agg #[.int .i64 e.k, .int .i64 e.g, .int .i64 e.o, .int .i64 e.w, .int .i64 e.l, .int .i64 e.s, .int .i64 e.f, .int .i64 e.t]] w fun x w' => x = .returned (.int .i64 (codeC B0 B1 B2 B3 B4 B5 B6 B7 B8 B9)) ∧ Fr w w' := by
  have fW := Fr.alloc w (.cells #[.int .i64 e.k, .int .i64 e.g, .int .i64 e.o, .int .i64 e.w, .int .i64 e.l, .int .i64 e.s, .int .i64 e.f, .int .i64 e.t] 31)
  have kE := EvAt.new w e 31
  obtain ⟨k, gr, o, wi, l, sz, f, t⟩ := e
  simp only at fW kE q0 ⊢
  go_enter Tryz.func47, Tryz.ntmps47
  go_wp2_with fail
  obtain ⟨W, hW⟩ : ∃ W, W = w.alloc (.cells #[.int .i64 k, .int .i64 gr, .int .i64 o, .int .i64 wi, .int .i64 l, .int .i64 sz, .int .i64 f, .int .i64 t] 31) := ⟨_, rfl⟩
  rw [← hW] at fW kE ⊢
  clear hW
  have HE : Hid (∀ u, Fr W u → EvAt u w.heap.size ⟨k, gr, o, wi, l, sz, f, t⟩) := fun u f => kE.fr f
  clear kE
  refine (q0 W fW).mono ?_
  rintro x u0 ⟨rfl, f0⟩
  clear q0
  cases B0
  · go_wp2_with fail
    go_ret
    exact ⟨rfl, fW.trans f0⟩
  have g0 := f0
  clear f0
  have r1 := q1.out (by trivial)
  obtain ⟨c0, c1, c2, c3, c4, c5, c6, c7⟩ := HE.out _ g0
  simp only at c0 c1 c2 c3 c4 c5 c6 c7
  go_wp2_with fail
  refine (r1 u0 (fW.trans g0)).mono ?_
  rintro e u1 ⟨rfl, f1⟩
  clear q1 r1 c0 c1 c2 c3 c4 c5 c6 c7
  have g1 := g0.trans f1
  clear f1 g0
  cases B1
  case true =>
    go_wp2_with fail
    go_ret
    exact ⟨rfl, fW.trans g1⟩
  have r2 := q2.out (by trivial)
  obtain ⟨c0, c1, c2, c3, c4, c5, c6, c7⟩ := HE.out _ g1
  simp only at c0 c1 c2 c3 c4 c5 c6 c7
  go_wp2_with fail
  refine (r2 u1 (fW.trans g1)).mono ?_
  rintro e u2 ⟨rfl, f2⟩
  clear q2 r2 c0 c1 c2 c3 c4 c5 c6 c7
  have g2 := g1.trans f2
  clear f2 g1
  cases B2
  case true =>
    go_wp2_with fail
    go_ret
    exact ⟨rfl, fW.trans g2⟩
  have r3 := q3.out (by trivial)
  obtain ⟨c0, c1, c2, c3, c4, c5, c6, c7⟩ := HE.out _ g2
  simp only at c0 c1 c2 c3 c4 c5 c6 c7
  go_wp2_with fail
  refine (r3 u2 (fW.trans g2)).mono ?_
  rintro e u3 ⟨rfl, f3⟩
  clear q3 r3 c0 c1 c2 c3 c4 c5 c6 c7
  have g3 := g2.trans f3
  clear f3 g2
  cases B3
  case true =>
    go_wp2_with fail
    go_ret
    exact ⟨rfl, fW.trans g3⟩
  have r4 := q4.out (by trivial)
  obtain ⟨c0, c1, c2, c3, c4, c5, c6, c7⟩ := HE.out _ g3
  simp only at c0 c1 c2 c3 c4 c5 c6 c7
  go_wp2_with fail
  refine (r4 u3 (fW.trans g3)).mono ?_
  rintro e u4 ⟨rfl, f4⟩
  clear q4 r4 c0 c1 c2 c3 c4 c5 c6 c7
  have g4 := g3.trans f4
  clear f4 g3
  cases B4
  case true =>
    go_wp2_with fail
    go_ret
    exact ⟨rfl, fW.trans g4⟩
  have r5 := q5.out (by trivial)
  obtain ⟨c0, c1, c2, c3, c4, c5, c6, c7⟩ := HE.out _ g4
  simp only at c0 c1 c2 c3 c4 c5 c6 c7
  go_wp2_with fail
  refine (r5 u4 (fW.trans g4)).mono ?_
  rintro e u5 ⟨rfl, f5⟩
  clear q5 r5 c0 c1 c2 c3 c4 c5 c6 c7
  have g5 := g4.trans f5
  clear f5 g4
  cases B5
  case true =>
    go_wp2_with fail
    go_ret
    exact ⟨rfl, fW.trans g5⟩
  have r6 := q6.out (by trivial)
  obtain ⟨c0, c1, c2, c3, c4, c5, c6, c7⟩ := HE.out _ g5
  simp only at c0 c1 c2 c3 c4 c5 c6 c7
  go_wp2_with fail
  refine (r6 u5 (fW.trans g5)).mono ?_
  rintro e u6 ⟨rfl, f6⟩
  clear q6 r6 c0 c1 c2 c3 c4 c5 c6 c7
  have g6 := g5.trans f6
  clear f6 g5
  cases B6
  case true =>
    go_wp2_with fail
    go_ret
    exact ⟨rfl, fW.trans g6⟩
  have r7 := q7.out (by trivial)
  obtain ⟨c0, c1, c2, c3, c4, c5, c6, c7⟩ := HE.out _ g6
  simp only at c0 c1 c2 c3 c4 c5 c6 c7
  go_wp2_with fail
  refine (r7 u6 (fW.trans g6)).mono ?_
  rintro e u7 ⟨rfl, f7⟩
  clear q7 r7 c0 c1 c2 c3 c4 c5 c6 c7
  have g7 := g6.trans f7
  clear f7 g6
  cases B7
  case true =>
    go_wp2_with fail
    go_ret
    exact ⟨rfl, fW.trans g7⟩
  have r8 := q8.out (by trivial)
  obtain ⟨c0, c1, c2, c3, c4, c5, c6, c7⟩ := HE.out _ g7
  simp only at c0 c1 c2 c3 c4 c5 c6 c7
  go_wp2_with fail
  refine (r8 u7 (fW.trans g7)).mono ?_
  rintro e u8 ⟨rfl, f8⟩
  clear q8 r8 c0 c1 c2 c3 c4 c5 c6 c7
  have g8 := g7.trans f8
  clear f8 g7
  cases B8
  case true =>
    go_wp2_with fail
    go_ret
    exact ⟨rfl, fW.trans g8⟩
  have r9 := q9.out (by trivial)
  obtain ⟨c0, c1, c2, c3, c4, c5, c6, c7⟩ := HE.out _ g8
  simp only at c0 c1 c2 c3 c4 c5 c6 c7
  go_wp2_with fail
  refine (r9 u8 (fW.trans g8)).mono ?_
  rintro e u9 ⟨rfl, f9⟩
  clear q9 r9 c0 c1 c2 c3 c4 c5 c6 c7
  have g9 := g8.trans f9
  clear f9 g8
  cases B9
  case true =>
    go_wp2_with fail
    go_ret
    exact ⟨rfl, fW.trans g9⟩
  go_wp2_with fail
  go_ret
  exact ⟨rfl, fW.trans g9⟩
end Go.Proofs.YtikjodbboljhjaaGreatDoor
