/-
  Pack AL: ScFor, ScAsk4, ScAsk5.
-/
import Derived.Test.YtcofhmikdkkigaaGreatDoorPackAH
import Derived.Test.YtcofhmikdkkigaaGreatDoorPackAA
import Derived.Test.YtcofhmikdkkigaaGreatDoorPackAE
import Derived.Deep.CutBlock
import Derived.Test.YtcofhmikdkkigaaGreatDoorPackAI
namespace Go.Proofs.YtcofhmikdkkigaaGreatDoor
open Go.RowKit

def codeC (B0 B1 B2 B3 B4 B5 B6 B7 B8 B9 : Bool) : Int := if B0 = false then 1 else if B1 = true then 2 else if B2 = true then 3 else if B3 = true then 4 else if B4 = true then 5 else if B5 = true then 6 else if B6 = true then 7 else if B7 = true then 8 else if B8 = true then 9 else if B9 = true then 10 else 0

set_option maxHeartbeats 2000000 in
theorem codeFor_any (b : Nat) (e : Ev) (w : World) (B0 B1 B2 B3 B4 B5 B6 B7 B8 B9 : Bool)
    (q0 : ∀ u, Fr w u → Calls Tryz.prog 114 #[.agg #[.int .i64 e.k, .int .i64 e.g, .int .i64 e.o, .int .i64 e.w, .int .i64 e.l, .int .i64 e.s, .int .i64 e.f, .int .i64 e.t]] u fun x w' => x = .returned (.bool B0) ∧ Fr u w')
    (q1 : Hid (B0 = true → ∀ u, Fr w u → Calls Tryz.prog 115 #[.pointer (some ⟨b, 0, none⟩), .agg #[.int .i64 e.k, .int .i64 e.g, .int .i64 e.o, .int .i64 e.w, .int .i64 e.l, .int .i64 e.s, .int .i64 e.f, .int .i64 e.t]] u fun x w' => x = .returned (.bool B1) ∧ Fr u w'))
    (q2 : Hid (B0 = true → ∀ u, Fr w u → Calls Tryz.prog 116 #[.pointer (some ⟨b, 0, none⟩), .agg #[.int .i64 e.k, .int .i64 e.g, .int .i64 e.o, .int .i64 e.w, .int .i64 e.l, .int .i64 e.s, .int .i64 e.f, .int .i64 e.t]] u fun x w' => x = .returned (.bool B2) ∧ Fr u w'))
    (q3 : Hid (B0 = true → ∀ u, Fr w u → Calls Tryz.prog 117 #[.pointer (some ⟨b, 0, none⟩), .agg #[.int .i64 e.k, .int .i64 e.g, .int .i64 e.o, .int .i64 e.w, .int .i64 e.l, .int .i64 e.s, .int .i64 e.f, .int .i64 e.t]] u fun x w' => x = .returned (.bool B3) ∧ Fr u w'))
    (q4 : Hid (B0 = true → ∀ u, Fr w u → Calls Tryz.prog 118 #[.pointer (some ⟨b, 0, none⟩), .agg #[.int .i64 e.k, .int .i64 e.g, .int .i64 e.o, .int .i64 e.w, .int .i64 e.l, .int .i64 e.s, .int .i64 e.f, .int .i64 e.t]] u fun x w' => x = .returned (.bool B4) ∧ Fr u w'))
    (q5 : Hid (B0 = true → ∀ u, Fr w u → Calls Tryz.prog 119 #[.pointer (some ⟨b, 0, none⟩), .agg #[.int .i64 e.k, .int .i64 e.g, .int .i64 e.o, .int .i64 e.w, .int .i64 e.l, .int .i64 e.s, .int .i64 e.f, .int .i64 e.t]] u fun x w' => x = .returned (.bool B5) ∧ Fr u w'))
    (q6 : Hid (B0 = true → ∀ u, Fr w u → Calls Tryz.prog 120 #[.pointer (some ⟨b, 0, none⟩), .agg #[.int .i64 e.k, .int .i64 e.g, .int .i64 e.o, .int .i64 e.w, .int .i64 e.l, .int .i64 e.s, .int .i64 e.f, .int .i64 e.t]] u fun x w' => x = .returned (.bool B6) ∧ Fr u w'))
    (q7 : Hid (B0 = true → ∀ u, Fr w u → Calls Tryz.prog 121 #[.pointer (some ⟨b, 0, none⟩), .agg #[.int .i64 e.k, .int .i64 e.g, .int .i64 e.o, .int .i64 e.w, .int .i64 e.l, .int .i64 e.s, .int .i64 e.f, .int .i64 e.t]] u fun x w' => x = .returned (.bool B7) ∧ Fr u w'))
    (q8 : Hid (B0 = true → ∀ u, Fr w u → Calls Tryz.prog 122 #[.pointer (some ⟨b, 0, none⟩), .agg #[.int .i64 e.k, .int .i64 e.g, .int .i64 e.o, .int .i64 e.w, .int .i64 e.l, .int .i64 e.s, .int .i64 e.f, .int .i64 e.t]] u fun x w' => x = .returned (.bool B8) ∧ Fr u w'))
    (q9 : Hid (B0 = true → ∀ u, Fr w u → Calls Tryz.prog 123 #[.pointer (some ⟨b, 0, none⟩), .agg #[.int .i64 e.k, .int .i64 e.g, .int .i64 e.o, .int .i64 e.w, .int .i64 e.l, .int .i64 e.s, .int .i64 e.f, .int .i64 e.t]] u fun x w' => x = .returned (.bool B9) ∧ Fr u w')) :
    Calls Tryz.prog 59 #[.pointer (some ⟨b, 0, none⟩), .agg #[.int .i64 e.k, .int .i64 e.g, .int .i64 e.o, .int .i64 e.w, .int .i64 e.l, .int .i64 e.s, .int .i64 e.f, .int .i64 e.t]] w fun x w' => x = .returned (.int .i64 (codeC B0 B1 B2 B3 B4 B5 B6 B7 B8 B9)) ∧ Fr w w' := by
  have fW := Fr.alloc w (.cells #[.int .i64 e.k, .int .i64 e.g, .int .i64 e.o, .int .i64 e.w, .int .i64 e.l, .int .i64 e.s, .int .i64 e.f, .int .i64 e.t] 31)
  have kE := EvAt.new w e 31
  obtain ⟨k, gr, o, wi, l, sz, f, t⟩ := e
  simp only at fW kE q0 ⊢
  go_enter Tryz.func59, Tryz.ntmps59
  go_wp2_with fail
  obtain ⟨W, hW⟩ : ∃ W, W = w.alloc (.cells #[.int .i64 k, .int .i64 gr, .int .i64 o, .int .i64 wi, .int .i64 l, .int .i64 sz, .int .i64 f, .int .i64 t] 31) := ⟨_, rfl⟩
  rw [← hW] at fW kE ⊢
  clear hW
  have HE : Hid (∀ u, Fr W u → EvAt u w.heap.size ⟨k, gr, o, wi, l, sz, f, t⟩) := fun u f => kE.fr f
  clear kE
  refine (q0 W fW).mono ?_
  rintro x u0 ⟨rfl, f0⟩
  clear q0
  cases B0
  · go_wp2_with fail
    go_ret
    exact ⟨rfl, fW.trans f0⟩
  have g0 := f0
  clear f0
  have r1 := q1.out (by trivial)
  obtain ⟨c0, c1, c2, c3, c4, c5, c6, c7⟩ := HE.out _ g0
  simp only at c0 c1 c2 c3 c4 c5 c6 c7
  go_wp2_with fail
  refine (r1 u0 (fW.trans g0)).mono ?_
  rintro e u1 ⟨rfl, f1⟩
  clear q1 r1 c0 c1 c2 c3 c4 c5 c6 c7
  have g1 := g0.trans f1
  clear f1 g0
  cases B1
  case true =>
    go_wp2_with fail
    go_ret
    exact ⟨rfl, fW.trans g1⟩
  have r2 := q2.out (by trivial)
  obtain ⟨c0, c1, c2, c3, c4, c5, c6, c7⟩ := HE.out _ g1
  simp only at c0 c1 c2 c3 c4 c5 c6 c7
  go_wp2_with fail
  refine (r2 u1 (fW.trans g1)).mono ?_
  rintro e u2 ⟨rfl, f2⟩
  clear q2 r2 c0 c1 c2 c3 c4 c5 c6 c7
  have g2 := g1.trans f2
  clear f2 g1
  cases B2
  case true =>
    go_wp2_with fail
    go_ret
    exact ⟨rfl, fW.trans g2⟩
  have r3 := q3.out (by trivial)
  obtain ⟨c0, c1, c2, c3, c4, c5, c6, c7⟩ := HE.out _ g2
  simp only at c0 c1 c2 c3 c4 c5 c6 c7
  go_wp2_with fail
  refine (r3 u2 (fW.trans g2)).mono ?_
  rintro e u3 ⟨rfl, f3⟩
  clear q3 r3 c0 c1 c2 c3 c4 c5 c6 c7
  have g3 := g2.trans f3
  clear f3 g2
  cases B3
  case true =>
    go_wp2_with fail
    go_ret
    exact ⟨rfl, fW.trans g3⟩
  have r4 := q4.out (by trivial)
  obtain ⟨c0, c1, c2, c3, c4, c5, c6, c7⟩ := HE.out _ g3
  simp only at c0 c1 c2 c3 c4 c5 c6 c7
  go_wp2_with fail
  refine (r4 u3 (fW.trans g3)).mono ?_
  rintro e u4 ⟨rfl, f4⟩
  clear q4 r4 c0 c1 c2 c3 c4 c5 c6 c7
  have g4 := g3.trans f4
  clear f4 g3
  cases B4
  case true =>
    go_wp2_with fail
    go_ret
    exact ⟨rfl, fW.trans g4⟩
  have r5 := q5.out (by trivial)
  obtain ⟨c0, c1, c2, c3, c4, c5, c6, c7⟩ := HE.out _ g4
  simp only at c0 c1 c2 c3 c4 c5 c6 c7
  go_wp2_with fail
  refine (r5 u4 (fW.trans g4)).mono ?_
  rintro e u5 ⟨rfl, f5⟩
  clear q5 r5 c0 c1 c2 c3 c4 c5 c6 c7
  have g5 := g4.trans f5
  clear f5 g4
  cases B5
  case true =>
    go_wp2_with fail
    go_ret
    exact ⟨rfl, fW.trans g5⟩
  have r6 := q6.out (by trivial)
  obtain ⟨c0, c1, c2, c3, c4, c5, c6, c7⟩ := HE.out _ g5
  simp only at c0 c1 c2 c3 c4 c5 c6 c7
  go_wp2_with fail
  refine (r6 u5 (fW.trans g5)).mono ?_
  rintro e u6 ⟨rfl, f6⟩
  clear q6 r6 c0 c1 c2 c3 c4 c5 c6 c7
  have g6 := g5.trans f6
  clear f6 g5
  cases B6
  case true =>
    go_wp2_with fail
    go_ret
    exact ⟨rfl, fW.trans g6⟩
  have r7 := q7.out (by trivial)
  obtain ⟨c0, c1, c2, c3, c4, c5, c6, c7⟩ := HE.out _ g6
  simp only at c0 c1 c2 c3 c4 c5 c6 c7
  go_wp2_with fail
  refine (r7 u6 (fW.trans g6)).mono ?_
  rintro e u7 ⟨rfl, f7⟩
  clear q7 r7 c0 c1 c2 c3 c4 c5 c6 c7
  have g7 := g6.trans f7
  clear f7 g6
  cases B7
  case true =>
    go_wp2_with fail
    go_ret
    exact ⟨rfl, fW.trans g7⟩
  have r8 := q8.out (by trivial)
  obtain ⟨c0, c1, c2, c3, c4, c5, c6, c7⟩ := HE.out _ g7
  simp only at c0 c1 c2 c3 c4 c5 c6 c7
  go_wp2_with fail
  refine (r8 u7 (fW.trans g7)).mono ?_
  rintro e u8 ⟨rfl, f8⟩
  clear q8 r8 c0 c1 c2 c3 c4 c5 c6 c7
  have g8 := g7.trans f8
  clear f8 g7
  cases B8
  case true =>
    go_wp2_with fail
    go_ret
    exact ⟨rfl, fW.trans g8⟩
  have r9 := q9.out (by trivial)
  obtain ⟨c0, c1, c2, c3, c4, c5, c6, c7⟩ := HE.out _ g8
  simp only at c0 c1 c2 c3 c4 c5 c6 c7
  go_wp2_with fail
  refine (r9 u8 (fW.trans g8)).mono ?_
  rintro e u9 ⟨rfl, f9⟩
  clear q9 r9 c0 c1 c2 c3 c4 c5 c6 c7
  have g9 := g8.trans f9
  clear f9 g8
  cases B9
  case true =>
    go_wp2_with fail
    go_ret
    exact ⟨rfl, fW.trans g9⟩
  go_wp2_with fail
  go_ret
  exact ⟨rfl, fW.trans g9⟩
end Go.Proofs.YtcofhmikdkkigaaGreatDoor
namespace Go.Proofs.YtcofhmikdkkigaaGreatDoor
open Go.RowKit

def wchanB (had : Bool) (c : Ch) (e : Ev) : Bool := if e.k = 6 then had else if e.k = 7 ∨ e.k = 8 then !had || decide (c.cap = 0) else if e.k = 9 then !had || decide (c.cap ≠ 0) else if e.k = 10 ∨ e.k = 11 then !had else false
def onceB (had : Bool) (e : Ev) : Bool := if e.k = 15 then had else if e.k = 16 then !had else false

set_option maxRecDepth 20000 in
set_option maxHeartbeats 1000000 in
theorem isWrongChan_any (b b2 : Nat) (had : Bool) (c : Ch) (e : Ev) (w : World) (hb : w.cell? ⟨b, 2, none⟩ = some (.map (some b2)))
    (hL : ∀ u, Fr w u → (Instr.lookup 132 (.map (some b2)) (.int .i64 e.o) true).run Tryz.prog u = .ok (.tuple #[.agg #[.int .i64 c.o, .int .i64 c.cap, .int .i64 c.sent, .int .i64 c.got, .bool c.cl], .bool had]) u) :
    Calls Tryz.prog 118 #[.pointer (some ⟨b, 0, none⟩), .agg #[.int .i64 e.k, .int .i64 e.g, .int .i64 e.o, .int .i64 e.w, .int .i64 e.l, .int .i64 e.s, .int .i64 e.f, .int .i64 e.t]] w fun x w' => x = .returned (.bool (wchanB had c e)) ∧ Fr w w' := by
  have fW := Fr.alloc w (.cells #[.int .i64 e.k, .int .i64 e.g, .int .i64 e.o, .int .i64 e.w, .int .i64 e.l, .int .i64 e.s, .int .i64 e.f, .int .i64 e.t] 31)
  have kE := EvAt.new w e 31
  have hb := fW.cell hb
  obtain ⟨R, hR⟩ : ∃ R, R = wchanB had c e := ⟨_, rfl⟩
  rw [← hR]
  have HR : Hid (R = wchanB had c e) := hR
  clear hR
  obtain ⟨k, gr, o, wi, l, sz, f, t⟩ := e
  obtain ⟨co, cap, sent, got, cl⟩ := c
  simp only at fW kE hb hL ⊢
  go_enter Tryz.func118, Tryz.ntmps118
  go_wp2_with fail
  obtain ⟨W, hW⟩ : ∃ W, W = w.alloc (.cells #[.int .i64 k, .int .i64 gr, .int .i64 o, .int .i64 wi, .int .i64 l, .int .i64 sz, .int .i64 f, .int .i64 t] 31) := ⟨_, rfl⟩
  rw [← hW] at fW kE hb ⊢
  clear hW
  obtain ⟨c0, c1, c2, c3, c4, c5, c6, c7⟩ := kE
  simp only at c0 c2
  clear c1 c3 c4 c5 c6 c7
  have HL : Hid (∀ u, Fr w u → (Instr.lookup 132 (.map (some b2)) (.int .i64 o) true).run Tryz.prog u = .ok (.tuple #[.agg #[.int .i64 co, .int .i64 cap, .int .i64 sent, .int .i64 got, .bool cl], .bool had]) u) := hL
  clear hL
  have l1 := HL.out _ (fW.trans (Fr.drew W))
  have l2 := HL.out _ ((fW.trans (Fr.alloc W (.cells #[.int .i64 0, .int .i64 0, .int .i64 0, .int .i64 0, .bool false] 89))).trans (Fr.drew _))
  go_region_held3 (fun u => u.cell? ⟨b, 2, none⟩ = some (.map (some b2)) ∧ u.cell? ⟨w.heap.size, 2, none⟩ = some (.int .i64 o)) (go_keep) (fail)
  all_goals (
    clear l1 l2 HL
    obtain ⟨V, hV⟩ : ∃ V, V = (W.alloc (.cells #[.int .i64 co, .int .i64 cap, .int .i64 sent, .int .i64 got, .bool cl] 89)).drew := ⟨_, rfl⟩
    have fA : Fr W V := by rw [hV]; exact (Fr.alloc _ _).trans (Fr.drew _)
    have fV : Fr w V := fW.trans fA
    have x0 := fA.cell c0
    have y1 : V.cell? ⟨W.heap.size, 1, none⟩ = some (.int .i64 cap) := by rw [hV]; simp [go_sem]
    have y2 : V.cell? ⟨W.heap.size, 2, none⟩ = some (.int .i64 sent) := by rw [hV]; simp [go_sem]
    have y3 : V.cell? ⟨W.heap.size, 3, none⟩ = some (.int .i64 got) := by rw [hV]; simp [go_sem]
    have y4 : V.cell? ⟨W.heap.size, 4, none⟩ = some (.bool cl) := by rw [hV]; simp [go_sem]
    rw [← hV]
    clear hV fA c0 c2 hb
    rcases (show k = 6 ∨ k = 7 ∨ k = 8 ∨ k = 9 ∨ k = 10 ∨ k = 11 ∨ (k ≠ 6 ∧ k ≠ 7 ∧ k ≠ 8 ∧ k ≠ 9 ∧ k ≠ 10 ∧ k ≠ 11) by omega) with rfl | rfl | rfl | rfl | rfl | rfl | hk
    · have HN : Hid (R = had) := by show R = had; rw [HR.out]; simp [wchanB]
      go_wp2_with fail
      go_ret
      exact ⟨ret_bool HN.out.symm, fV⟩
    · cases had
      · have HN : Hid (R = true) := by show R = true; rw [HR.out]; simp [wchanB]
        go_wp2_with fail
        go_ret
        exact ⟨ret_bool HN.out.symm, fV⟩
      · by_cases h2 : cap = 0
        · have HN : Hid (R = true) := by show R = true; rw [HR.out]; simp [wchanB, h2]
          subst h2
          go_wp2_with fail
          go_ret
          exact ⟨ret_bool HN.out.symm, fV⟩
        · have HN : Hid (R = false) := by show R = false; rw [HR.out]; simp [wchanB, h2]
          go_wp2_with fail
          go_ret
          first | exact ⟨ret_bool HN.out.symm, fV⟩ | exact ⟨ret_bool ((show (cap == 0) = false by simpa using h2).trans HN.out.symm), fV⟩
    · cases had
      · have HN : Hid (R = true) := by show R = true; rw [HR.out]; simp [wchanB]
        go_wp2_with fail
        go_ret
        exact ⟨ret_bool HN.out.symm, fV⟩
      · by_cases h2 : cap = 0
        · have HN : Hid (R = true) := by show R = true; rw [HR.out]; simp [wchanB, h2]
          subst h2
          go_wp2_with fail
          go_ret
          exact ⟨ret_bool HN.out.symm, fV⟩
        · have HN : Hid (R = false) := by show R = false; rw [HR.out]; simp [wchanB, h2]
          go_wp2_with fail
          go_ret
          first | exact ⟨ret_bool HN.out.symm, fV⟩ | exact ⟨ret_bool ((show (cap == 0) = false by simpa using h2).trans HN.out.symm), fV⟩
    · cases had
      · have HN : Hid (R = true) := by show R = true; rw [HR.out]; simp [wchanB]
        go_wp2_with fail
        go_ret
        exact ⟨ret_bool HN.out.symm, fV⟩
      · by_cases h2 : cap = 0
        · have HN : Hid (R = false) := by show R = false; rw [HR.out]; simp [wchanB, h2]
          subst h2
          go_wp2_with fail
          go_ret
          exact ⟨ret_bool HN.out.symm, fV⟩
        · have HN : Hid (R = true) := by show R = true; rw [HR.out]; simp [wchanB, h2]
          go_wp2_with fail
          go_ret
          first | exact ⟨ret_bool HN.out.symm, fV⟩ | exact ⟨ret_bool ((show (cap != 0) = true by simpa using h2).trans HN.out.symm), fV⟩
    · have HN : Hid (R = !had) := by show R = !had; rw [HR.out]; simp [wchanB]
      go_wp2_with fail
      go_ret
      exact ⟨ret_bool HN.out.symm, fV⟩
    · have HN : Hid (R = !had) := by show R = !had; rw [HR.out]; simp [wchanB]
      go_wp2_with fail
      go_ret
      exact ⟨ret_bool HN.out.symm, fV⟩
    · obtain ⟨h6, h7, h8, h9, h10, h11⟩ := hk
      have HN : Hid (R = false) := by show R = false; rw [HR.out]; simp [wchanB, h6, h7, h8, h9, h10, h11]
      go_wp2_with fail
      go_ret
      exact ⟨ret_bool HN.out.symm, fV⟩)

set_option maxRecDepth 20000 in
set_option maxHeartbeats 1000000 in
theorem isWrongOnce_any (b b4 : Nat) (had : Bool) (z : Int) (e : Ev) (w : World) (hb : w.cell? ⟨b, 4, none⟩ = some (.map (some b4)))
    (hL : ∀ u, Fr w u → (Instr.lookup 138 (.map (some b4)) (.int .i64 e.o) true).run Tryz.prog u = .ok (.tuple #[.int .i64 z, .bool had]) u) :
    Calls Tryz.prog 123 #[.pointer (some ⟨b, 0, none⟩), .agg #[.int .i64 e.k, .int .i64 e.g, .int .i64 e.o, .int .i64 e.w, .int .i64 e.l, .int .i64 e.s, .int .i64 e.f, .int .i64 e.t]] w fun x w' => x = .returned (.bool (onceB had e)) ∧ Fr w w' := by
  have fW := Fr.alloc w (.cells #[.int .i64 e.k, .int .i64 e.g, .int .i64 e.o, .int .i64 e.w, .int .i64 e.l, .int .i64 e.s, .int .i64 e.f, .int .i64 e.t] 31)
  have kE := EvAt.new w e 31
  have hb := fW.cell hb
  obtain ⟨R, hR⟩ : ∃ R, R = onceB had e := ⟨_, rfl⟩
  rw [← hR]
  have HR : Hid (R = onceB had e) := hR
  clear hR
  obtain ⟨k, gr, o, wi, l, sz, f, t⟩ := e
  simp only at fW kE hb hL ⊢
  go_enter Tryz.func123, Tryz.ntmps123
  go_wp2_with fail
  obtain ⟨W, hW⟩ : ∃ W, W = w.alloc (.cells #[.int .i64 k, .int .i64 gr, .int .i64 o, .int .i64 wi, .int .i64 l, .int .i64 sz, .int .i64 f, .int .i64 t] 31) := ⟨_, rfl⟩
  rw [← hW] at fW kE hb ⊢
  clear hW
  obtain ⟨c0, c1, c2, c3, c4, c5, c6, c7⟩ := kE
  simp only at c0 c2
  clear c1 c3 c4 c5 c6 c7
  have l1 := hL _ (fW.trans (Fr.drew W))
  clear hL
  go_region_held3 (fun u => u.cell? ⟨b, 4, none⟩ = some (.map (some b4)) ∧ u.cell? ⟨w.heap.size, 2, none⟩ = some (.int .i64 o)) (go_keep) (fail)
  all_goals (
    clear l1
    obtain ⟨V, hV⟩ : ∃ V, V = W.drew := ⟨_, rfl⟩
    have fA : Fr W V := by rw [hV]; exact Fr.drew _
    have fV : Fr w V := fW.trans fA
    have x0 := fA.cell c0
    rw [← hV]
    clear hV fA c0 c2 hb
    rcases (show k = 15 ∨ k = 16 ∨ (k ≠ 15 ∧ k ≠ 16) by omega) with rfl | rfl | hk
    · have HN : Hid (R = had) := by show R = had; rw [HR.out]; simp [onceB]
      go_wp2_with fail
      go_ret
      exact ⟨ret_bool HN.out.symm, fV⟩
    · have HN : Hid (R = !had) := by show R = !had; rw [HR.out]; simp [onceB]
      go_wp2_with fail
      go_ret
      exact ⟨ret_bool HN.out.symm, fV⟩
    · obtain ⟨h1, h2⟩ := hk
      have HN : Hid (R = false) := by show R = false; rw [HR.out]; simp [onceB, h1, h2]
      go_wp2_with fail
      go_ret
      exact ⟨ret_bool HN.out.symm, fV⟩)
end Go.Proofs.YtcofhmikdkkigaaGreatDoor
namespace Go.Proofs.YtcofhmikdkkigaaGreatDoor
open Go.RowKit

def countB (had : Bool) (n sent : Int) (e : Ev) : Bool := if e.k = 13 then !had else if e.k = 14 then had else if e.k = 12 then decide (1000000 < n + e.s) else if e.k = 7 then decide (sent = 1000000) else false

theorem field_sent (a b c d : Int) (q : Bool) (u : World) : Sem.run Tryz.prog (Instr.field 89 (.agg #[.int .i64 a, .int .i64 b, .int .i64 c, .int .i64 d, .bool q]) 2) u = .ok (.int .i64 c) u := by
  have hu := run_underlying (w := u) Tryz.underlying89
  simp [Instr.field, asAgg, hu, go_sem]

set_option maxRecDepth 20000 in
set_option maxHeartbeats 1000000 in
theorem isMiscounted_any (b b2 b3 : Nat) (had : Bool) (no n : Int) (c : Ch) (e : Ev) (w : World) (hb : w.cell? ⟨b, 3, none⟩ = some (.map (some b3))) (hb2 : w.cell? ⟨b, 2, none⟩ = some (.map (some b2)))
    (hn : 0 ≤ n ∧ n ≤ 1000000) (hs : 0 ≤ e.s ∧ e.s ≤ 1000000000)
    (hL : ∀ u, Fr w u → (Instr.lookup 135 (.map (some b3)) (.int .i64 e.o) true).run Tryz.prog u = .ok (.tuple #[.agg #[.int .i64 no, .int .i64 n], .bool had]) u)
    (hC : ∀ u, Fr w u → (Instr.lookup 132 (.map (some b2)) (.int .i64 e.o) false).run Tryz.prog u = .ok (.agg #[.int .i64 c.o, .int .i64 c.cap, .int .i64 c.sent, .int .i64 c.got, .bool c.cl]) u) :
    Calls Tryz.prog 122 #[.pointer (some ⟨b, 0, none⟩), .agg #[.int .i64 e.k, .int .i64 e.g, .int .i64 e.o, .int .i64 e.w, .int .i64 e.l, .int .i64 e.s, .int .i64 e.f, .int .i64 e.t]] w fun x w' => x = .returned (.bool (countB had n c.sent e)) ∧ Fr w w' := by
  have fW := Fr.alloc w (.cells #[.int .i64 e.k, .int .i64 e.g, .int .i64 e.o, .int .i64 e.w, .int .i64 e.l, .int .i64 e.s, .int .i64 e.f, .int .i64 e.t] 31)
  have kE := EvAt.new w e 31
  have hb := fW.cell hb
  have hb2 := fW.cell hb2
  obtain ⟨R, hR⟩ : ∃ R, R = countB had n c.sent e := ⟨_, rfl⟩
  rw [← hR]
  have HR : Hid (R = countB had n c.sent e) := hR
  clear hR
  obtain ⟨k, gr, o, wi, l, sz, f, t⟩ := e
  obtain ⟨co, cap, sent, got, cl⟩ := c
  simp only at fW kE hb hb2 hL hC hs HR ⊢
  have HC : Hid (∀ u, Fr w u → (Instr.lookup 132 (.map (some b2)) (.int .i64 o) false).run Tryz.prog u = .ok (.agg #[.int .i64 co, .int .i64 cap, .int .i64 sent, .int .i64 got, .bool cl]) u) := hC
  clear hC
  go_enter Tryz.func122, Tryz.ntmps122
  go_wp2_with fail
  obtain ⟨W, hW⟩ : ∃ W, W = w.alloc (.cells #[.int .i64 k, .int .i64 gr, .int .i64 o, .int .i64 wi, .int .i64 l, .int .i64 sz, .int .i64 f, .int .i64 t] 31) := ⟨_, rfl⟩
  rw [← hW] at fW kE hb hb2 ⊢
  clear hW
  obtain ⟨c0, c1, c2, c3, c4, c5, c6, c7⟩ := kE
  simp only at c0 c2 c5
  clear c1 c3 c4 c6 c7
  have l1 := hL _ (fW.trans (Fr.drew W))
  have l2 := hL _ ((fW.trans (Fr.alloc W (.cells #[.int .i64 0, .int .i64 0] 92))).trans (Fr.drew _))
  clear hL
  go_region_held3 (fun u => u.cell? ⟨b, 3, none⟩ = some (.map (some b3)) ∧ u.cell? ⟨w.heap.size, 2, none⟩ = some (.int .i64 o)) (go_keep) (fail)
  all_goals (
    clear l1 l2
    obtain ⟨V, hV⟩ : ∃ V, V = (W.alloc (.cells #[.int .i64 no, .int .i64 n] 92)).drew := ⟨_, rfl⟩
    have fA : Fr W V := by rw [hV]; exact (Fr.alloc _ _).trans (Fr.drew _)
    have fV : Fr w V := fW.trans fA
    have x0 := fA.cell c0
    have x2 := fA.cell c2
    have x5 := fA.cell c5
    have xb := fA.cell hb2
    have y1 : V.cell? ⟨W.heap.size, 1, none⟩ = some (.int .i64 n) := by rw [hV]; simp [go_sem]
    rw [← hV]
    clear hV fA c0 c2 c5 hb hb2
    rcases (show k = 13 ∨ k = 14 ∨ k = 12 ∨ k = 7 ∨ (k ≠ 13 ∧ k ≠ 14 ∧ k ≠ 12 ∧ k ≠ 7) by omega) with rfl | rfl | rfl | rfl | hk
    · have HN : Hid (R = !had) := by show R = !had; rw [HR.out]; simp [countB]
      go_wp2_with fail
      go_ret
      exact ⟨ret_bool HN.out.symm, fV⟩
    · have HN : Hid (R = had) := by show R = had; rw [HR.out]; simp [countB]
      go_wp2_with fail
      go_ret
      exact ⟨ret_bool HN.out.symm, fV⟩
    · obtain ⟨n0, n1⟩ := hn
      obtain ⟨s0, s1⟩ := hs
      by_cases h2 : 1000000 < n + sz
      · have HN : Hid (R = true) := by show R = true; rw [HR.out]; simp [countB, h2]
        go_wp2_with fail
        go_ret
        first | exact ⟨ret_bool HN.out.symm, fV⟩ | exact ⟨ret_bool ((show decide (1000000 < n + sz) = true by simpa using h2).trans HN.out.symm), fV⟩
      · have HN : Hid (R = false) := by show R = false; rw [HR.out]; simp only [countB]; simp; omega
        go_wp2_with fail
        go_ret
        first | exact ⟨ret_bool HN.out.symm, fV⟩ | exact ⟨ret_bool ((show decide (1000000 < n + sz) = false by simpa using h2).trans HN.out.symm), fV⟩
    · have l3 := HC.out _ (fV.trans (Fr.drew V))
      have l4 := field_sent co cap sent got cl
      by_cases h2 : sent = 1000000
      · have HN : Hid (R = true) := by show R = true; rw [HR.out]; simp [countB, h2]
        subst h2
        go_wp2_with fail
        go_region_held3 (fun u => u.cell? ⟨b, 2, none⟩ = some (.map (some b2)) ∧ u.cell? ⟨w.heap.size, 2, none⟩ = some (.int .i64 o)) (go_keep) (fail)
        go_wp2_with fail
        go_ret
        exact ⟨ret_bool HN.out.symm, fV.trans (Fr.drew V)⟩
      · have HN : Hid (R = false) := by show R = false; rw [HR.out]; simp [countB, h2]
        go_wp2_with fail
        go_region_held3 (fun u => u.cell? ⟨b, 2, none⟩ = some (.map (some b2)) ∧ u.cell? ⟨w.heap.size, 2, none⟩ = some (.int .i64 o)) (go_keep) (fail)
        go_wp2_with fail
        go_ret
        first | exact ⟨ret_bool HN.out.symm, fV.trans (Fr.drew V)⟩ | exact ⟨ret_bool ((show (sent == 1000000) = false by simpa using h2).trans HN.out.symm), fV.trans (Fr.drew V)⟩
    · obtain ⟨h1, h2, h3, h4⟩ := hk
      have HN : Hid (R = false) := by show R = false; rw [HR.out]; simp [countB, h1, h2, h3, h4]
      go_wp2_with fail
      go_ret
      exact ⟨ret_bool HN.out.symm, fV⟩)
end Go.Proofs.YtcofhmikdkkigaaGreatDoor
/-
  Pack AH: Switch, TchI, TchIe, ScAsk2, ScAsk3, ScAsk6.
-/
namespace Go.Proofs.YtcofhmikdkkigaaGreatDoor
open Go.RowKit

def nestC : List (Nat × Code) → Code → Code
  | [], c => c
  | (n, t) :: r, c => nestC r ((Code.block n c).seq t)
def postC (P : Program) (Q : Exit → Act → World → Prop) : List (Nat × Code) → Exit → Act → World → Prop
  | [] => Q
  | (n, t) :: r => Exit.inBlock n (Exit.then (t.wp P (postC P Q r)) (postC P Q r))
theorem wp_nestC {P : Program} {Q : Exit → Act → World → Prop} {a : Act} {w : World} : ∀ (L : List (Nat × Code)) (c : Code), c.wp P (postC P Q L) a w → (nestC L c).wp P Q a w
  | [], _, h => h
  | (_, _) :: r, _, h => wp_nestC r _ (wp_seq (wp_block h))
theorem wp_opaque {P : Program} {c : Code} {Q : Exit → Act → World → Prop} {a : Act} {w : World} (h : ∀ Q0 : Exit → Act → World → Prop, (∀ e a w, Q e a w → Q0 e a w) → c.wp P Q0 a w) : c.wp P Q a w := h Q fun _ _ _ h => h
theorem postC_at {P : Program} {Q : Exit → Act → World → Prop} {a : Act} {w : World} {m : Nat} {t : Code} {r : List (Nat × Code)} : ∀ (L : List (Nat × Code)), (L.all fun x => x.1 != m) = true → t.wp P (postC P Q r) a w → postC P Q (L ++ (m, t) :: r) (.exit m) a w
  | [], _, h => by
    show Exit.inBlock m (Exit.then (t.wp P (postC P Q r)) (postC P Q r)) (.exit m) a w
    simpa [Exit.inBlock, Exit.then] using h
  | (n, c) :: L, hL, h => by
    simp only [List.all_cons, Bool.and_eq_true, bne_iff_ne, ne_eq] at hL
    have ih := postC_at (P := P) (Q := Q) (a := a) (w := w) (m := m) (t := t) (r := r) L hL.2 h
    show Exit.inBlock n (Exit.then (c.wp P (postC P Q (L ++ (m, t) :: r))) (postC P Q (L ++ (m, t) :: r))) (.exit m) a w
    have hne : ¬ m = n := fun q => hL.1 q.symm
    simpa [Exit.inBlock, Exit.then, hne] using ih
theorem postC_out {P : Program} {Q : Exit → Act → World → Prop} {a : Act} {w : World} {m : Nat} : ∀ (L : List (Nat × Code)), (L.all fun x => x.1 != m) = true → Q (.exit m) a w → postC P Q L (.exit m) a w
  | [], _, h => h
  | (n, c) :: L, hL, h => by
    simp only [List.all_cons, Bool.and_eq_true, bne_iff_ne, ne_eq] at hL
    have ih := postC_out (P := P) (Q := Q) (a := a) (w := w) (m := m) L hL.2 h
    show Exit.inBlock n (Exit.then (c.wp P (postC P Q L)) (postC P Q L)) (.exit m) a w
    have hne : ¬ m = n := fun q => hL.1 q.symm
    simpa [Exit.inBlock, Exit.then, hne] using ih
theorem postC_ret {P : Program} {Q : Exit → Act → World → Prop} {a : Act} {w : World} : ∀ (L : List (Nat × Code)), Q .ret a w → postC P Q L .ret a w
  | [], h => h
  | (_, _) :: L, h => postC_ret (P := P) L h
theorem postC_on {P : Program} {Q : Exit → Act → World → Prop} {a : Act} {w : World} {n : Nat} {t : Code} {r : List (Nat × Code)} (h : t.wp P (postC P Q r) a w) : postC P Q ((n, t) :: r) .normal a w := h
theorem inBlock_same {Q : Exit → Act → World → Prop} {a : Act} {w : World} {n : Nat} (h : Q .normal a w) : Exit.inBlock n Q (.exit n) a w := by
  simpa [Exit.inBlock] using h
theorem inBlock_ret {Q : Exit → Act → World → Prop} {a : Act} {w : World} {n : Nat} (h : Q .ret a w) : Exit.inBlock n Q .ret a w := h
theorem then_ret {K : Act → World → Prop} {Q : Exit → Act → World → Prop} {a : Act} {w : World} (h : Q .ret a w) : Exit.then K Q .ret a w := h
end Go.Proofs.YtcofhmikdkkigaaGreatDoor
namespace Go.Proofs.YtcofhmikdkkigaaGreatDoor
open Go.RowKit

theorem Tryz.infoT : (Tryz.prog.info? 226).map (fun i => (i.zero, i.size, i.bytes)) = some (some (.agg #[.int .i64 0, .int .i64 0, .int .i64 0, .bool false, .bool false]), 5, 32) := by kernel_rfl
def TchJ (w : World) (b : Nat) (c : Tch) : Prop := w.heap[b]? = some (.cells #[.int .i64 c.sp, .int .i64 c.ob, .int .i64 c.sl, .bool c.tk, .bool c.gv] 226 (0, 0))
theorem TchJ.lt {w : World} {b : Nat} {c : Tch} (h : TchJ w b c) : b < w.heap.size := (Array.getElem?_eq_some_iff.1 h).1
theorem TchJ.keep {w w' : World} {b : Nat} {c : Tch} {row : Option Nat} (h : TchJ w b c) (k : w.grownBy w' row) (hr : some b ≠ row) : TchJ w' b c := (k.block b h.lt hr).trans h
theorem TchJ.free {w : World} {b : Nat} {c : Tch} (h : TchJ w b c) (i : Nat) : w.frozen? ⟨b, i, none⟩ = false := frozen_of_row w b i _ _ h
theorem TchJ.at {w : World} {b : Nat} {c : Tch} (h : TchJ w b c) : w.cell? ⟨b, 0, none⟩ = some (.int .i64 c.sp) ∧ w.cell? ⟨b, 1, none⟩ = some (.int .i64 c.ob) ∧ w.cell? ⟨b, 2, none⟩ = some (.int .i64 c.sl) ∧ w.cell? ⟨b, 3, none⟩ = some (.bool c.tk) ∧ w.cell? ⟨b, 4, none⟩ = some (.bool c.gv) :=
  ⟨cell_of_row w b 0 _ _ _ h, cell_of_row w b 1 _ _ _ h, cell_of_row w b 2 _ _ _ h, cell_of_row w b 3 _ _ _ h, cell_of_row w b 4 _ _ _ h⟩
theorem litK_reads {α : Type} (L : Lay α) (w : World) (xs : List α) (hl : xs.length ≤ 1000) (o : Obj) (ho : o = .cells (xs.flatMap L.cs).toArray L.ty (0, 0)) (k : Nat) (hk : w.heap.size = k) : ReadsG L (w.alloc o) (some ⟨k, 0, none⟩) xs := by
  obtain ⟨g, c, e, h1, h2⟩ := ownG_litK L w xs hl o ho k 0 hk (Nat.zero_le _)
  simp only [Value.slice.injEq, Option.some.injEq, Addr.mk.injEq, and_true, true_and] at e
  obtain ⟨rfl, -⟩ := e
  exact own_readsG h1 h2
end Go.Proofs.YtcofhmikdkkigaaGreatDoor
namespace Go.Proofs.YtcofhmikdkkigaaGreatDoor
open Go.RowKit

set_option maxRecDepth 20000 in
set_option maxHeartbeats 2000000 in
theorem tchI_2 (b b2 : Nat) (co cap sent got : Int) (cl : Bool) (gr o wi l sz f t : Int) (w : World) (hb : w.cell? ⟨b, 2, none⟩ = some (.map (some b2)))
    (hL : ∀ u, Fr w u → (Instr.lookup 132 (.map (some b2)) (.int .i64 o) false).run Tryz.prog u = .ok (.agg #[.int .i64 co, .int .i64 cap, .int .i64 sent, .int .i64 got, .bool cl]) u) :
    Calls Tryz.prog 194 #[.pointer (some ⟨b, 0, none⟩), .agg #[.int .i64 2, .int .i64 gr, .int .i64 o, .int .i64 wi, .int .i64 l, .int .i64 sz, .int .i64 f, .int .i64 t]] w fun x w' => ∃ v, x = .returned v ∧ OwnG layT w' w.heap.size v [⟨1, o, 0, true, false⟩, ⟨2, o, 0, true, false⟩] ∧ Fr w w' := by
  have fW := Fr.alloc w (.cells #[.int .i64 2, .int .i64 gr, .int .i64 o, .int .i64 wi, .int .i64 l, .int .i64 sz, .int .i64 f, .int .i64 t] 31)
  have kE := EvAt.new w ⟨2, gr, o, wi, l, sz, f, t⟩ 31
  have hb := fW.cell hb
  simp only at kE
  go_enter Tryz.func194, Tryz.ntmps194
  go_wp2_with fail
  obtain ⟨W, hW⟩ : ∃ W, W = w.alloc (.cells #[.int .i64 2, .int .i64 gr, .int .i64 o, .int .i64 wi, .int .i64 l, .int .i64 sz, .int .i64 f, .int .i64 t] 31) := ⟨_, rfl⟩
  rw [← hW] at fW kE hb ⊢
  clear hW
  obtain ⟨c0, c1, c2, c3, c4, c5, c6, c7⟩ := kE
  simp only at c0 c2
  clear c1 c3 c4 c5 c6 c7
  have HL : Hid (∀ u, Fr w u → (Instr.lookup 132 (.map (some b2)) (.int .i64 o) false).run Tryz.prog u = .ok (.agg #[.int .i64 co, .int .i64 cap, .int .i64 sent, .int .i64 got, .bool cl]) u) := hL
  clear hL
  have l1 := HL.out _ (fW.trans (Fr.drew W))
  have l2 := HL.out _ ((fW.trans (Fr.alloc W (.cells #[.int .i64 0, .int .i64 0, .int .i64 0, .int .i64 0, .bool false] 89))).trans (Fr.drew _))
  go_region_held3 (fun u => u.cell? ⟨b, 2, none⟩ = some (.map (some b2)) ∧ u.cell? ⟨w.heap.size, 2, none⟩ = some (.int .i64 o)) (go_keep) (fail)
  all_goals (
    clear l1 l2 HL
    obtain ⟨V, hV⟩ : ∃ V, V = (W.alloc (.cells #[.int .i64 co, .int .i64 cap, .int .i64 sent, .int .i64 got, .bool cl] 89)).drew := ⟨_, rfl⟩
    have fA : Fr W V := by rw [hV]; exact (Fr.alloc _ _).trans (Fr.drew _)
    have fV : Fr w V := fW.trans fA
    have x0 := fA.cell c0
    have x2 := fA.cell c2
    have y1 : V.cell? ⟨W.heap.size, 1, none⟩ = some (.int .i64 cap) := by rw [hV]; simp [go_sem]
    have y2 : V.cell? ⟨W.heap.size, 2, none⟩ = some (.int .i64 sent) := by rw [hV]; simp [go_sem]
    have y3 : V.cell? ⟨W.heap.size, 3, none⟩ = some (.int .i64 got) := by rw [hV]; simp [go_sem]
    rw [← hV]
    have hbV : w.heap.size ≤ V.heap.size := fV.size
    have z1 : w.heap.size < V.heap.size := World.block_lt_of_cell? V _ x0
    have z2 : W.heap.size < V.heap.size := World.block_lt_of_cell? V _ y1
    have n1 : ¬ w.heap.size = V.heap.size := by omega
    have n2 : ¬ w.heap.size = V.heap.size + 1 := by omega
    have n3 : ¬ W.heap.size = V.heap.size := by omega
    have n4 : ¬ W.heap.size = V.heap.size + 1 := by omega
    clear hV fA c0 c2 hb
    go_upto_block 0 with fail
    refine wp_block ?_
    refine wp_nestC [(1, _), (2, _), (3, _), (4, _), (5, _), (6, _), (7, _), (8, _), (9, _), (10, _), (11, _), (12, _), (13, _), (14, _), (15, _), (16, _)] _ ?_
    refine wp_opaque (fun Q0 hQ0 => ?_)
    have HQ0 : Hid _ := hQ0
    clear hQ0
    go_wp2_with fail
    refine HQ0.out _ _ _ (postC_at [] (by rfl) ?_)
    clear HQ0
    refine wp_opaque (fun Q1 hQ1 => ?_)
    have HQ1 : Hid _ := hQ1
    clear hQ1
    have HO : OwnG layT (((V.alloc (.cells #[.int .i64 0, .int .i64 o, .int .i64 0, .bool false, .bool false] 226)).alloc (.cells #[] 226)).alloc (.cells #[.int .i64 2, .int .i64 o, .int .i64 0, .bool true, .bool false] 226)) w.heap.size (.slice (some ⟨V.heap.size + 1, 0, none⟩) 0 0) [] := (ownG_litK layT _ [] (by simp) _ rfl _ _ (by simp) (by omega)).fr (Fr.alloc _ _)
    have HX := news_of_reads (litK_reads layT ((V.alloc (.cells #[.int .i64 0, .int .i64 o, .int .i64 0, .bool false, .bool false] 226)).alloc (.cells #[] 226)) [⟨2, o, 0, true, false⟩] (by simp) (.cells #[.int .i64 2, .int .i64 o, .int .i64 0, .bool true, .bool false] 226) rfl (V.heap.size + 1 + 1) (by simp))
    have HJ : TchJ (((V.alloc (.cells #[.int .i64 0, .int .i64 o, .int .i64 0, .bool false, .bool false] 226)).alloc (.cells #[] 226)).alloc (.cells #[.int .i64 2, .int .i64 o, .int .i64 0, .bool true, .bool false] 226)) V.heap.size ⟨0, o, 0, false, false⟩ := by
      have h1 := heap_alloc_new V (.cells #[.int .i64 0, .int .i64 o, .int .i64 0, .bool false, .bool false] 226)
      have h2 : TchJ (V.alloc (.cells #[.int .i64 0, .int .i64 o, .int .i64 0, .bool false, .bool false] 226)) V.heap.size ⟨0, o, 0, false, false⟩ := h1
      exact (h2.keep (Fr.alloc _ _) (by simp)).keep (Fr.alloc _ _) (by simp)
    have HO : Hid _ := HO
    have HX : Hid _ := HX
    have HJ : Hid _ := HJ
    go_wp2_with (at_builtin; refine appGL layT _ rfl _ _ 207 _ 32 rfl Tryz.underlying207 Tryz.infoT rfl (by decide) w.heap.size (.slice (some ⟨V.heap.size + 1, 0, none⟩) 0 0) [] [⟨2, o, 0, true, false⟩] rfl HO.out ⟨V.heap.size + 1 + 1, 0, none⟩ 1 rfl HX.out (by simp) (by simp; omega) ?_; intro v4 w4 hv4 hg4 hat4)
    refine HQ1.out _ _ _ (postC_on ?_)
    clear HQ1
    refine wp_opaque (fun Q1 hQ1 => ?_)
    have HQ1 : Hid _ := hQ1
    clear hQ1
    have HJ4 : TchJ w4 V.heap.size ⟨0, o, 0, false, false⟩ := TchJ.keep (c := ⟨0, o, 0, false, false⟩) HJ.out hg4 (by simp [Value.ownBlock])
    have hf4 : Fr w w4 := (((fV.trans (Fr.alloc _ _)).trans (Fr.alloc _ _)).trans (Fr.alloc _ _)).then hg4 (fun j hj => by simp only [Value.ownBlock, Option.some.injEq] at hj; omega)
    obtain ⟨g4, cap4, rfl, h4, l4⟩ := hv4
    have hgn : V.heap.size ≠ g4 := by
      simp only [Value.ownBlock, Option.some.injEq, World.size_alloc] at hat4
      omega
    have hs4 : w.heap.size ≤ w4.heap.size := hf4.size
    have HU : Hid (∀ a b, ReadsG layT ((w4.setCell ⟨V.heap.size, 0, none⟩ a).setCell ⟨V.heap.size, 3, none⟩ b) (some ⟨g4, 0, none⟩) [⟨2, o, 0, true, false⟩] ∧ Fr w ((w4.setCell ⟨V.heap.size, 0, none⟩ a).setCell ⟨V.heap.size, 3, none⟩ b)) := fun a b => ⟨((own_readsG h4 l4).keep (grown_set _ _ _ _) (.inr (fun q => hgn (by simpa [blk] using q.symm)))).keep (grown_set _ _ _ _) (.inr (fun q => hgn (by simpa [blk] using q.symm))), (hf4.then (grown_set _ _ _ _) (fun j hj => by simp only [Option.some.injEq] at hj; omega)).then (grown_set _ _ _ _) (fun j hj => by simp only [Option.some.injEq] at hj; omega)⟩
    obtain ⟨t0, t1, t2, t3, t4⟩ := TchJ.at HJ4
    simp only at t0 t1 t2 t3 t4
    have tf := fun i => TchJ.free HJ4 i
    clear HO HX HJ HJ4 hg4 hat4 h4 l4 x0 x2 y1 y2 y3
    go_wp2_with fail
    refine HQ1.out _ _ _ (postC_out _ (by rfl) (inBlock_same ?_))
    clear HQ1
    have HU := HU.out (.int .i64 1) (.bool true)
    have HU : Hid _ := HU
    go_wp2_with (at_builtin; refine appGL layT _ rfl _ _ 207 _ 32 rfl Tryz.underlying207 Tryz.infoT rfl (by decide) w.heap.size (.slice (some ⟨w4.heap.size, 0, none⟩) 1 1) [⟨1, o, 0, true, false⟩] [⟨2, o, 0, true, false⟩] rfl (ownG_litK layT _ [⟨1, o, 0, true, false⟩] (by simp) _ rfl _ _ (by simp) (by omega)) ⟨g4, 0, none⟩ cap4 rfl (news_of_reads (HU.out.1.fr (Fr.alloc _ _))) (by simp) (by simp; omega) ?_; intro v5 w5 hv5 hg5 hat5)
    go_ret
    refine ⟨v5, rfl, hv5, ?_⟩
    exact (HU.out.2.trans (Fr.alloc _ _)).then hg5 (fun j hj => by simp only [Value.ownBlock, Option.some.injEq] at hj; omega))
end Go.Proofs.YtcofhmikdkkigaaGreatDoor
namespace Go.Proofs.YtcofhmikdkkigaaGreatDoor
open Go.RowKit

def closedB (c : Ch) (e : Ev) : Bool := if e.k = 7 ∨ e.k = 9 ∨ e.k = 10 then c.cl else if e.k = 11 then !c.cl else false

set_option maxRecDepth 20000 in
set_option maxHeartbeats 1000000 in
theorem isWronglyClosed_any (b b2 : Nat) (c : Ch) (e : Ev) (w : World) (hb : w.cell? ⟨b, 2, none⟩ = some (.map (some b2)))
    (hL : ∀ u, Fr w u → (Instr.lookup 132 (.map (some b2)) (.int .i64 e.o) false).run Tryz.prog u = .ok (.agg #[.int .i64 c.o, .int .i64 c.cap, .int .i64 c.sent, .int .i64 c.got, .bool c.cl]) u) :
    Calls Tryz.prog 119 #[.pointer (some ⟨b, 0, none⟩), .agg #[.int .i64 e.k, .int .i64 e.g, .int .i64 e.o, .int .i64 e.w, .int .i64 e.l, .int .i64 e.s, .int .i64 e.f, .int .i64 e.t]] w fun x w' => x = .returned (.bool (closedB c e)) ∧ Fr w w' := by
  have fW := Fr.alloc w (.cells #[.int .i64 e.k, .int .i64 e.g, .int .i64 e.o, .int .i64 e.w, .int .i64 e.l, .int .i64 e.s, .int .i64 e.f, .int .i64 e.t] 31)
  have kE := EvAt.new w e 31
  have hb := fW.cell hb
  obtain ⟨R, hR⟩ : ∃ R, R = closedB c e := ⟨_, rfl⟩
  rw [← hR]
  have HR : Hid (R = closedB c e) := hR
  clear hR
  obtain ⟨k, gr, o, wi, l, sz, f, t⟩ := e
  obtain ⟨co, cap, sent, got, cl⟩ := c
  simp only at fW kE hb hL ⊢
  go_enter Tryz.func119, Tryz.ntmps119
  go_wp2_with fail
  obtain ⟨W, hW⟩ : ∃ W, W = w.alloc (.cells #[.int .i64 k, .int .i64 gr, .int .i64 o, .int .i64 wi, .int .i64 l, .int .i64 sz, .int .i64 f, .int .i64 t] 31) := ⟨_, rfl⟩
  rw [← hW] at fW kE hb ⊢
  clear hW
  obtain ⟨c0, c1, c2, c3, c4, c5, c6, c7⟩ := kE
  simp only at c0 c2
  clear c1 c3 c4 c5 c6 c7
  have HL : Hid (∀ u, Fr w u → (Instr.lookup 132 (.map (some b2)) (.int .i64 o) false).run Tryz.prog u = .ok (.agg #[.int .i64 co, .int .i64 cap, .int .i64 sent, .int .i64 got, .bool cl]) u) := hL
  clear hL
  have l1 := HL.out _ (fW.trans (Fr.drew W))
  have l2 := HL.out _ ((fW.trans (Fr.alloc W (.cells #[.int .i64 0, .int .i64 0, .int .i64 0, .int .i64 0, .bool false] 89))).trans (Fr.drew _))
  go_region_held3 (fun u => u.cell? ⟨b, 2, none⟩ = some (.map (some b2)) ∧ u.cell? ⟨w.heap.size, 2, none⟩ = some (.int .i64 o)) (go_keep) (fail)
  all_goals (
    clear l1 l2 HL
    obtain ⟨V, hV⟩ : ∃ V, V = (W.alloc (.cells #[.int .i64 co, .int .i64 cap, .int .i64 sent, .int .i64 got, .bool cl] 89)).drew := ⟨_, rfl⟩
    have fA : Fr W V := by rw [hV]; exact (Fr.alloc _ _).trans (Fr.drew _)
    have fV : Fr w V := fW.trans fA
    have x0 := fA.cell c0
    have y1 : V.cell? ⟨W.heap.size, 1, none⟩ = some (.int .i64 cap) := by rw [hV]; simp [go_sem]
    have y2 : V.cell? ⟨W.heap.size, 2, none⟩ = some (.int .i64 sent) := by rw [hV]; simp [go_sem]
    have y3 : V.cell? ⟨W.heap.size, 3, none⟩ = some (.int .i64 got) := by rw [hV]; simp [go_sem]
    have y4 : V.cell? ⟨W.heap.size, 4, none⟩ = some (.bool cl) := by rw [hV]; simp [go_sem]
    rw [← hV]
    clear hV fA c0 c2 hb
    rcases (show k = 7 ∨ k = 9 ∨ k = 10 ∨ k = 11 ∨ (k ≠ 7 ∧ k ≠ 9 ∧ k ≠ 10 ∧ k ≠ 11) by omega) with rfl | rfl | rfl | rfl | hk
    · have HN : Hid (R = cl) := by show R = cl; rw [HR.out]; simp [closedB]
      go_wp2_with fail
      go_ret
      exact ⟨ret_bool HN.out.symm, fV⟩
    · have HN : Hid (R = cl) := by show R = cl; rw [HR.out]; simp [closedB]
      go_wp2_with fail
      go_ret
      exact ⟨ret_bool HN.out.symm, fV⟩
    · have HN : Hid (R = cl) := by show R = cl; rw [HR.out]; simp [closedB]
      go_wp2_with fail
      go_ret
      exact ⟨ret_bool HN.out.symm, fV⟩
    · have HN : Hid (R = !cl) := by show R = !cl; rw [HR.out]; simp [closedB]
      go_wp2_with fail
      go_ret
      exact ⟨ret_bool HN.out.symm, fV⟩
    · obtain ⟨h7, h9, h10, h11⟩ := hk
      have HN : Hid (R = false) := by show R = false; rw [HR.out]; simp [closedB, h7, h9, h10, h11]
      go_wp2_with fail
      go_ret
      exact ⟨ret_bool HN.out.symm, fV⟩)
end Go.Proofs.YtcofhmikdkkigaaGreatDoor
namespace Go.Proofs.YtcofhmikdkkigaaGreatDoor
open Go.RowKit

def fullB (c : Ch) (e : Ev) : Bool := decide (e.k = 7) && decide (c.sent - c.got = c.cap)
def emptyB (c : Ch) (e : Ev) : Bool := if e.k = 8 then decide (c.sent = c.got) else if e.k = 11 then decide (c.sent ≠ c.got) else false

set_option maxRecDepth 20000 in
set_option maxHeartbeats 1000000 in
theorem isFull_any (b b2 : Nat) (c : Ch) (e : Ev) (w : World) (hb : w.cell? ⟨b, 2, none⟩ = some (.map (some b2)))
    (hs : 0 ≤ c.got ∧ c.got ≤ c.sent ∧ c.sent ≤ 1000000) (hL : ∀ u, Fr w u → (Instr.lookup 132 (.map (some b2)) (.int .i64 e.o) false).run Tryz.prog u = .ok (.agg #[.int .i64 c.o, .int .i64 c.cap, .int .i64 c.sent, .int .i64 c.got, .bool c.cl]) u) :
    Calls Tryz.prog 120 #[.pointer (some ⟨b, 0, none⟩), .agg #[.int .i64 e.k, .int .i64 e.g, .int .i64 e.o, .int .i64 e.w, .int .i64 e.l, .int .i64 e.s, .int .i64 e.f, .int .i64 e.t]] w fun x w' => x = .returned (.bool (fullB c e)) ∧ Fr w w' := by
  have fW := Fr.alloc w (.cells #[.int .i64 e.k, .int .i64 e.g, .int .i64 e.o, .int .i64 e.w, .int .i64 e.l, .int .i64 e.s, .int .i64 e.f, .int .i64 e.t] 31)
  have kE := EvAt.new w e 31
  have hb := fW.cell hb
  obtain ⟨R, hR⟩ : ∃ R, R = fullB c e := ⟨_, rfl⟩
  rw [← hR]
  have HR : Hid (R = fullB c e) := hR
  clear hR
  obtain ⟨k, gr, o, wi, l, sz, f, t⟩ := e
  obtain ⟨co, cap, sent, got, cl⟩ := c
  simp only at fW kE hb hL hs ⊢
  go_enter Tryz.func120, Tryz.ntmps120
  go_wp2_with fail
  obtain ⟨W, hW⟩ : ∃ W, W = w.alloc (.cells #[.int .i64 k, .int .i64 gr, .int .i64 o, .int .i64 wi, .int .i64 l, .int .i64 sz, .int .i64 f, .int .i64 t] 31) := ⟨_, rfl⟩
  rw [← hW] at fW kE hb ⊢
  clear hW
  obtain ⟨c0, c1, c2, c3, c4, c5, c6, c7⟩ := kE
  simp only at c0 c2
  clear c1 c3 c4 c5 c6 c7
  have HL : Hid (∀ u, Fr w u → (Instr.lookup 132 (.map (some b2)) (.int .i64 o) false).run Tryz.prog u = .ok (.agg #[.int .i64 co, .int .i64 cap, .int .i64 sent, .int .i64 got, .bool cl]) u) := hL
  clear hL
  have l1 := HL.out _ (fW.trans (Fr.drew W))
  have l2 := HL.out _ ((fW.trans (Fr.alloc W (.cells #[.int .i64 0, .int .i64 0, .int .i64 0, .int .i64 0, .bool false] 89))).trans (Fr.drew _))
  go_region_held3 (fun u => u.cell? ⟨b, 2, none⟩ = some (.map (some b2)) ∧ u.cell? ⟨w.heap.size, 2, none⟩ = some (.int .i64 o)) (go_keep) (fail)
  all_goals (
    clear l1 l2 HL
    obtain ⟨V, hV⟩ : ∃ V, V = (W.alloc (.cells #[.int .i64 co, .int .i64 cap, .int .i64 sent, .int .i64 got, .bool cl] 89)).drew := ⟨_, rfl⟩
    have fA : Fr W V := by rw [hV]; exact (Fr.alloc _ _).trans (Fr.drew _)
    have fV : Fr w V := fW.trans fA
    have x0 := fA.cell c0
    have y1 : V.cell? ⟨W.heap.size, 1, none⟩ = some (.int .i64 cap) := by rw [hV]; simp [go_sem]
    have y2 : V.cell? ⟨W.heap.size, 2, none⟩ = some (.int .i64 sent) := by rw [hV]; simp [go_sem]
    have y3 : V.cell? ⟨W.heap.size, 3, none⟩ = some (.int .i64 got) := by rw [hV]; simp [go_sem]
    have y4 : V.cell? ⟨W.heap.size, 4, none⟩ = some (.bool cl) := by rw [hV]; simp [go_sem]
    rw [← hV]
    clear hV fA c0 c2 hb
    obtain ⟨s1, s2, s3⟩ := hs
    by_cases hk : k = 7
    · subst hk
      by_cases h2 : sent - got = cap
      · have HN : Hid (R = true) := by show R = true; rw [HR.out]; simp [fullB, h2]
        subst h2
        go_wp2_with fail
        go_ret
        exact ⟨ret_bool HN.out.symm, fV⟩
      · have HN : Hid (R = false) := by show R = false; rw [HR.out]; simp [fullB, h2]
        go_wp2_with fail
        go_ret
        first | exact ⟨ret_bool HN.out.symm, fV⟩ | exact ⟨ret_bool ((show (sent - got == cap) = false by simpa using h2).trans HN.out.symm), fV⟩
    · have HN : Hid (R = false) := by show R = false; rw [HR.out]; simp [fullB, hk]
      go_wp2_with fail
      go_ret
      exact ⟨ret_bool HN.out.symm, fV⟩)

set_option maxRecDepth 20000 in
set_option maxHeartbeats 1000000 in
theorem isWronglyEmpty_any (b b2 : Nat) (c : Ch) (e : Ev) (w : World) (hb : w.cell? ⟨b, 2, none⟩ = some (.map (some b2)))
    (hL : ∀ u, Fr w u → (Instr.lookup 132 (.map (some b2)) (.int .i64 e.o) false).run Tryz.prog u = .ok (.agg #[.int .i64 c.o, .int .i64 c.cap, .int .i64 c.sent, .int .i64 c.got, .bool c.cl]) u) :
    Calls Tryz.prog 121 #[.pointer (some ⟨b, 0, none⟩), .agg #[.int .i64 e.k, .int .i64 e.g, .int .i64 e.o, .int .i64 e.w, .int .i64 e.l, .int .i64 e.s, .int .i64 e.f, .int .i64 e.t]] w fun x w' => x = .returned (.bool (emptyB c e)) ∧ Fr w w' := by
  have fW := Fr.alloc w (.cells #[.int .i64 e.k, .int .i64 e.g, .int .i64 e.o, .int .i64 e.w, .int .i64 e.l, .int .i64 e.s, .int .i64 e.f, .int .i64 e.t] 31)
  have kE := EvAt.new w e 31
  have hb := fW.cell hb
  obtain ⟨R, hR⟩ : ∃ R, R = emptyB c e := ⟨_, rfl⟩
  rw [← hR]
  have HR : Hid (R = emptyB c e) := hR
  clear hR
  obtain ⟨k, gr, o, wi, l, sz, f, t⟩ := e
  obtain ⟨co, cap, sent, got, cl⟩ := c
  simp only at fW kE hb hL ⊢
  go_enter Tryz.func121, Tryz.ntmps121
  go_wp2_with fail
  obtain ⟨W, hW⟩ : ∃ W, W = w.alloc (.cells #[.int .i64 k, .int .i64 gr, .int .i64 o, .int .i64 wi, .int .i64 l, .int .i64 sz, .int .i64 f, .int .i64 t] 31) := ⟨_, rfl⟩
  rw [← hW] at fW kE hb ⊢
  clear hW
  obtain ⟨c0, c1, c2, c3, c4, c5, c6, c7⟩ := kE
  simp only at c0 c2
  clear c1 c3 c4 c5 c6 c7
  have HL : Hid (∀ u, Fr w u → (Instr.lookup 132 (.map (some b2)) (.int .i64 o) false).run Tryz.prog u = .ok (.agg #[.int .i64 co, .int .i64 cap, .int .i64 sent, .int .i64 got, .bool cl]) u) := hL
  clear hL
  have l1 := HL.out _ (fW.trans (Fr.drew W))
  have l2 := HL.out _ ((fW.trans (Fr.alloc W (.cells #[.int .i64 0, .int .i64 0, .int .i64 0, .int .i64 0, .bool false] 89))).trans (Fr.drew _))
  go_region_held3 (fun u => u.cell? ⟨b, 2, none⟩ = some (.map (some b2)) ∧ u.cell? ⟨w.heap.size, 2, none⟩ = some (.int .i64 o)) (go_keep) (fail)
  all_goals (
    clear l1 l2 HL
    obtain ⟨V, hV⟩ : ∃ V, V = (W.alloc (.cells #[.int .i64 co, .int .i64 cap, .int .i64 sent, .int .i64 got, .bool cl] 89)).drew := ⟨_, rfl⟩
    have fA : Fr W V := by rw [hV]; exact (Fr.alloc _ _).trans (Fr.drew _)
    have fV : Fr w V := fW.trans fA
    have x0 := fA.cell c0
    have y1 : V.cell? ⟨W.heap.size, 1, none⟩ = some (.int .i64 cap) := by rw [hV]; simp [go_sem]
    have y2 : V.cell? ⟨W.heap.size, 2, none⟩ = some (.int .i64 sent) := by rw [hV]; simp [go_sem]
    have y3 : V.cell? ⟨W.heap.size, 3, none⟩ = some (.int .i64 got) := by rw [hV]; simp [go_sem]
    have y4 : V.cell? ⟨W.heap.size, 4, none⟩ = some (.bool cl) := by rw [hV]; simp [go_sem]
    rw [← hV]
    clear hV fA c0 c2 hb
    rcases (show k = 8 ∨ k = 11 ∨ (k ≠ 8 ∧ k ≠ 11) by omega) with rfl | rfl | hk
    · by_cases h2 : sent = got
      · have HN : Hid (R = true) := by show R = true; rw [HR.out]; simp [emptyB, h2]
        subst h2
        go_wp2_with fail
        go_ret
        exact ⟨ret_bool HN.out.symm, fV⟩
      · have HN : Hid (R = false) := by show R = false; rw [HR.out]; simp [emptyB, h2]
        go_wp2_with fail
        go_ret
        first | exact ⟨ret_bool HN.out.symm, fV⟩ | exact ⟨ret_bool ((show (sent == got) = false by simpa using h2).trans HN.out.symm), fV⟩
    · by_cases h2 : sent = got
      · have HN : Hid (R = false) := by show R = false; rw [HR.out]; simp [emptyB, h2]
        subst h2
        go_wp2_with fail
        go_ret
        exact ⟨ret_bool HN.out.symm, fV⟩
      · have HN : Hid (R = true) := by show R = true; rw [HR.out]; simp [emptyB, h2]
        go_wp2_with fail
        go_ret
        first | exact ⟨ret_bool HN.out.symm, fV⟩ | exact ⟨ret_bool ((show (sent != got) = true by simpa using h2).trans HN.out.symm), fV⟩
    · obtain ⟨h8, h11⟩ := hk
      have HN : Hid (R = false) := by show R = false; rw [HR.out]; simp [emptyB, h8, h11]
      go_wp2_with fail
      go_ret
      exact ⟨ret_bool HN.out.symm, fV⟩)
end Go.Proofs.YtcofhmikdkkigaaGreatDoor
namespace Go.Proofs.YtcofhmikdkkigaaGreatDoor
open Go.RowKit

def heldB (had : Bool) (wr : Int) (rd : List Int) (e : Ev) : Bool := if e.k = 2 then had else if e.k = 4 then had && (decide (wr ≠ -1) || memB rd e.g) else false
def notHadB (had : Bool) (wr : Int) (rd : List Int) (e : Ev) : Bool := if e.k = 3 then !had || decide (wr ≠ e.g) else if e.k = 5 then !memB rd e.g else false

set_option maxRecDepth 20000 in
set_option maxHeartbeats 1000000 in
theorem isHeld_any (b b1 : Nat) (had : Bool) (lo wr : Int) (ro : Option Addr) (rn rc : Nat) (rd : List Int) (e : Ev) (w : World) (hb : w.cell? ⟨b, 1, none⟩ = some (.map (some b1))) (hn : rd.length = rn) (hl : rd.length ≤ 1048576) (hr : Reads w ro rd)
    (hL : ∀ u, Fr w u → (Instr.lookup 129 (.map (some b1)) (.int .i64 e.o) true).run Tryz.prog u = .ok (.tuple #[.agg #[.int .i64 lo, .int .i64 wr, .slice ro rn rc], .bool had]) u) :
    Calls Tryz.prog 116 #[.pointer (some ⟨b, 0, none⟩), .agg #[.int .i64 e.k, .int .i64 e.g, .int .i64 e.o, .int .i64 e.w, .int .i64 e.l, .int .i64 e.s, .int .i64 e.f, .int .i64 e.t]] w fun x w' => x = .returned (.bool (heldB had wr rd e)) ∧ Fr w w' := by
  have fW := Fr.alloc w (.cells #[.int .i64 e.k, .int .i64 e.g, .int .i64 e.o, .int .i64 e.w, .int .i64 e.l, .int .i64 e.s, .int .i64 e.f, .int .i64 e.t] 31)
  have kE := EvAt.new w e 31
  have hb := fW.cell hb
  obtain ⟨R, hR⟩ : ∃ R, R = heldB had wr rd e := ⟨_, rfl⟩
  rw [← hR]
  have HR : Hid (R = heldB had wr rd e) := hR
  clear hR
  obtain ⟨k, gr, o, wi, l, sz, f, t⟩ := e
  simp only at fW kE hb hL HR ⊢
  have cI := fun u (f : Fr w u) => contains_any ro rn rc rd gr u hn hl (hr.fr f)
  obtain ⟨Q, hQ⟩ : ∃ Q, Q = memB rd gr := ⟨_, rfl⟩
  simp only [← hQ] at cI
  have HQ : Hid (memB rd gr = Q) := hQ.symm
  clear hQ hn hl hr
  go_enter Tryz.func116, Tryz.ntmps116
  go_wp2_with fail
  obtain ⟨W, hW⟩ : ∃ W, W = w.alloc (.cells #[.int .i64 k, .int .i64 gr, .int .i64 o, .int .i64 wi, .int .i64 l, .int .i64 sz, .int .i64 f, .int .i64 t] 31) := ⟨_, rfl⟩
  rw [← hW] at fW kE hb ⊢
  clear hW
  obtain ⟨c0, c1, c2, c3, c4, c5, c6, c7⟩ := kE
  simp only at c0 c1 c2
  clear c3 c4 c5 c6 c7
  have l1 := hL _ (fW.trans (Fr.drew W))
  have l2 := hL _ ((fW.trans (Fr.alloc W (.cells #[.int .i64 0, .int .i64 0, .slice none 0 0] 86))).trans (Fr.drew _))
  clear hL
  go_region_held3 (fun u => u.cell? ⟨b, 1, none⟩ = some (.map (some b1)) ∧ u.cell? ⟨w.heap.size, 2, none⟩ = some (.int .i64 o)) (go_keep) (fail)
  all_goals (
    clear l1 l2
    obtain ⟨V, hV⟩ : ∃ V, V = (W.alloc (.cells #[.int .i64 lo, .int .i64 wr, .slice ro rn rc] 86)).drew := ⟨_, rfl⟩
    have fA : Fr W V := by rw [hV]; exact (Fr.alloc _ _).trans (Fr.drew _)
    have fV : Fr w V := fW.trans fA
    have x0 := fA.cell c0
    have x1 := fA.cell c1
    have y1 : V.cell? ⟨W.heap.size, 1, none⟩ = some (.int .i64 wr) := by rw [hV]; simp [go_sem]
    have y2 : V.cell? ⟨W.heap.size, 2, none⟩ = some (.slice ro rn rc) := by rw [hV]; simp [go_sem]
    rw [← hV]
    clear hV fA c0 c1 c2 hb
    rcases (show k = 2 ∨ k = 4 ∨ (k ≠ 2 ∧ k ≠ 4) by omega) with rfl | rfl | hk
    · have HN : Hid (R = had) := by show R = had; rw [HR.out]; simp [heldB]
      go_wp2_with fail
      go_ret
      exact ⟨ret_bool HN.out.symm, fV⟩
    · cases had
      · have HN : Hid (R = false) := by show R = false; rw [HR.out]; simp [heldB]
        go_wp2_with fail
        go_ret
        exact ⟨ret_bool HN.out.symm, fV⟩
      · by_cases h2 : wr = -1
        · have HN : Hid (R = Q) := by show R = Q; rw [HR.out]; simp only [heldB, HQ.out]; simp [h2]
          subst h2
          go_wp2_with fail
          refine (cI V fV).mono ?_
          rintro e u ⟨rfl, rfl⟩
          go_wp2_with fail
          go_ret
          exact ⟨ret_bool HN.out.symm, fV⟩
        · have HN : Hid (R = true) := by show R = true; rw [HR.out]; simp [heldB, h2]
          have hq : (wr != -1) = true := by simpa using h2
          go_wp2_with fail
          go_ret
          exact ⟨ret_bool HN.out.symm, fV⟩
    · obtain ⟨h1, h2⟩ := hk
      have HN : Hid (R = false) := by show R = false; rw [HR.out]; simp [heldB, h1, h2]
      go_wp2_with fail
      go_ret
      exact ⟨ret_bool HN.out.symm, fV⟩)

set_option maxRecDepth 20000 in
set_option maxHeartbeats 1000000 in
theorem isNotHad_any (b b1 : Nat) (had : Bool) (lo wr : Int) (ro : Option Addr) (rn rc : Nat) (rd : List Int) (e : Ev) (w : World) (hb : w.cell? ⟨b, 1, none⟩ = some (.map (some b1))) (hn : rd.length = rn) (hl : rd.length ≤ 1048576) (hr : Reads w ro rd)
    (hL : ∀ u, Fr w u → (Instr.lookup 129 (.map (some b1)) (.int .i64 e.o) true).run Tryz.prog u = .ok (.tuple #[.agg #[.int .i64 lo, .int .i64 wr, .slice ro rn rc], .bool had]) u) :
    Calls Tryz.prog 117 #[.pointer (some ⟨b, 0, none⟩), .agg #[.int .i64 e.k, .int .i64 e.g, .int .i64 e.o, .int .i64 e.w, .int .i64 e.l, .int .i64 e.s, .int .i64 e.f, .int .i64 e.t]] w fun x w' => x = .returned (.bool (notHadB had wr rd e)) ∧ Fr w w' := by
  have fW := Fr.alloc w (.cells #[.int .i64 e.k, .int .i64 e.g, .int .i64 e.o, .int .i64 e.w, .int .i64 e.l, .int .i64 e.s, .int .i64 e.f, .int .i64 e.t] 31)
  have kE := EvAt.new w e 31
  have hb := fW.cell hb
  obtain ⟨R, hR⟩ : ∃ R, R = notHadB had wr rd e := ⟨_, rfl⟩
  rw [← hR]
  have HR : Hid (R = notHadB had wr rd e) := hR
  clear hR
  obtain ⟨k, gr, o, wi, l, sz, f, t⟩ := e
  simp only at fW kE hb hL HR ⊢
  have cI := fun u (f : Fr w u) => contains_any ro rn rc rd gr u hn hl (hr.fr f)
  obtain ⟨Q, hQ⟩ : ∃ Q, Q = memB rd gr := ⟨_, rfl⟩
  simp only [← hQ] at cI
  have HQ : Hid (memB rd gr = Q) := hQ.symm
  clear hQ hn hl hr
  go_enter Tryz.func117, Tryz.ntmps117
  go_wp2_with fail
  obtain ⟨W, hW⟩ : ∃ W, W = w.alloc (.cells #[.int .i64 k, .int .i64 gr, .int .i64 o, .int .i64 wi, .int .i64 l, .int .i64 sz, .int .i64 f, .int .i64 t] 31) := ⟨_, rfl⟩
  rw [← hW] at fW kE hb ⊢
  clear hW
  obtain ⟨c0, c1, c2, c3, c4, c5, c6, c7⟩ := kE
  simp only at c0 c1 c2
  clear c3 c4 c5 c6 c7
  have l1 := hL _ (fW.trans (Fr.drew W))
  have l2 := hL _ ((fW.trans (Fr.alloc W (.cells #[.int .i64 0, .int .i64 0, .slice none 0 0] 86))).trans (Fr.drew _))
  clear hL
  go_region_held3 (fun u => u.cell? ⟨b, 1, none⟩ = some (.map (some b1)) ∧ u.cell? ⟨w.heap.size, 2, none⟩ = some (.int .i64 o)) (go_keep) (fail)
  all_goals (
    clear l1 l2
    obtain ⟨V, hV⟩ : ∃ V, V = (W.alloc (.cells #[.int .i64 lo, .int .i64 wr, .slice ro rn rc] 86)).drew := ⟨_, rfl⟩
    have fA : Fr W V := by rw [hV]; exact (Fr.alloc _ _).trans (Fr.drew _)
    have fV : Fr w V := fW.trans fA
    have x0 := fA.cell c0
    have x1 := fA.cell c1
    have y1 : V.cell? ⟨W.heap.size, 1, none⟩ = some (.int .i64 wr) := by rw [hV]; simp [go_sem]
    have y2 : V.cell? ⟨W.heap.size, 2, none⟩ = some (.slice ro rn rc) := by rw [hV]; simp [go_sem]
    rw [← hV]
    clear hV fA c0 c1 c2 hb
    rcases (show k = 3 ∨ k = 5 ∨ (k ≠ 3 ∧ k ≠ 5) by omega) with rfl | rfl | hk
    · cases had
      · have HN : Hid (R = true) := by show R = true; rw [HR.out]; simp [notHadB]
        go_wp2_with fail
        go_ret
        exact ⟨ret_bool HN.out.symm, fV⟩
      · by_cases h2 : wr = gr
        · have HN : Hid (R = false) := by show R = false; rw [HR.out]; simp [notHadB, h2]
          subst h2
          go_wp2_with fail
          go_ret
          exact ⟨ret_bool HN.out.symm, fV⟩
        · have HN : Hid (R = true) := by show R = true; rw [HR.out]; simp [notHadB, h2]
          go_wp2_with fail
          go_ret
          first | exact ⟨ret_bool HN.out.symm, fV⟩ | exact ⟨ret_bool ((show (wr != gr) = true by simpa using h2).trans HN.out.symm), fV⟩
    · have HN : Hid (R = !Q) := by show R = !Q; rw [HR.out]; simp [notHadB, HQ.out]
      go_wp2_with fail
      refine (cI V fV).mono ?_
      rintro e u ⟨rfl, rfl⟩
      go_wp2_with fail
      go_ret
      exact ⟨ret_bool HN.out.symm, fV⟩
    · obtain ⟨h1, h2⟩ := hk
      have HN : Hid (R = false) := by show R = false; rw [HR.out]; simp [notHadB, h1, h2]
      go_wp2_with fail
      go_ret
      exact ⟨ret_bool HN.out.symm, fV⟩)
end Go.Proofs.YtcofhmikdkkigaaGreatDoor
