/-
  The program's questions on a board: wrong channels, what was done once.
-/
import Derived.Test.YtihdablgnmkjnaaGreatDoorPileAL
import Derived.Test.YtihdablgnmkjnaaGreatDoorPileAK
import Derived.Test.YtihdablgnmkjnaaGreatDoorPileAA
namespace Go.Proofs.YtihdablgnmkjnaaGreatDoor
open Go.RowKit

def wchanB (had : Bool) (c : Ch) (e : Ev) : Bool := if e.k = 6 then had else if e.k = 7 ∨ e.k = 8 then !had || decide (c.cap = 0) else if e.k = 9 then !had || decide (c.cap ≠ 0) else if e.k = 10 ∨ e.k = 11 then !had else false
def onceB (had : Bool) (e : Ev) : Bool := if e.k = 15 then had else if e.k = 16 then !had else false

set_option maxRecDepth 20000 in
set_option maxHeartbeats 1000000 in
theorem isWrongChan_any (b b2 : Nat) (had : Bool) (c : Ch) (e : Ev) (w : World) (hb : w.cell? ⟨b, 2, none⟩ = some (.map (some b2)))
    (hL : ∀ u, Fr w u → (Instr.lookup 133 (.map (some b2)) (.int .i64 e.o) true).run Tryz.prog u = .ok (.tuple #[.agg #[.int .i64 c.o, .int .i64 c.cap, .int .i64 c.sent, .int .i64 c.got, .bool c.cl], .bool had]) u) :
    Calls Tryz.prog 119 #[.pointer (some ⟨b, 0, none⟩), .agg #[.int .i64 e.k, .int .i64 e.g, .int .i64 e.o, .int .i64 e.w, .int .i64 e.l, .int .i64 e.s, .int .i64 e.f, .int .i64 e.t]] w fun x w' => x = .returned (.bool (wchanB had c e)) ∧ Fr w w' := by
  have fW := Fr.alloc w (.cells #[.int .i64 e.k, .int .i64 e.g, .int .i64 e.o, .int .i64 e.w, .int .i64 e.l, .int .i64 e.s, .int .i64 e.f, .int .i64 e.t] 31)
  have kE := EvAt.new w e 31
  have hb := fW.cell hb
  obtain ⟨R, hR⟩ : ∃ R, R = wchanB had c e := ⟨_, rfl⟩
  rw [← hR]
  have HR : Hid (R = wchanB had c e) := hR
  clear hR
  obtain ⟨k, gr, o, wi, l, sz, f, t⟩ := e
  obtain ⟨co, cap, sent, got, cl⟩ := c
  simp only at fW kE hb hL ⊢
  go_enter Tryz.func119, Tryz.ntmps119
  go_wp2_with fail
  obtain ⟨W, hW⟩ : ∃ W, W = w.alloc (.cells #[.int .i64 k, .int .i64 gr, .int .i64 o, .int .i64 wi, .int .i64 l, .int .i64 sz, .int .i64 f, .int .i64 t] 31) := ⟨_, rfl⟩
  rw [← hW] at fW kE hb ⊢
  clear hW
  obtain ⟨c0, c1, c2, c3, c4, c5, c6, c7⟩ := kE
  simp only at c0 c2
  clear c1 c3 c4 c5 c6 c7
  have HL : Hid (∀ u, Fr w u → (Instr.lookup 133 (.map (some b2)) (.int .i64 o) true).run Tryz.prog u = .ok (.tuple #[.agg #[.int .i64 co, .int .i64 cap, .int .i64 sent, .int .i64 got, .bool cl], .bool had]) u) := hL
  clear hL
  have l1 := HL.out _ (fW.trans (Fr.drew W))
  have l2 := HL.out _ ((fW.trans (Fr.alloc W (.cells #[.int .i64 0, .int .i64 0, .int .i64 0, .int .i64 0, .bool false] 87))).trans (Fr.drew _))
  go_region_held3 (fun u => u.cell? ⟨b, 2, none⟩ = some (.map (some b2)) ∧ u.cell? ⟨w.heap.size, 2, none⟩ = some (.int .i64 o)) (go_keep) (fail)
  all_goals (
    clear l1 l2 HL
    obtain ⟨V, hV⟩ : ∃ V, V = (W.alloc (.cells #[.int .i64 co, .int .i64 cap, .int .i64 sent, .int .i64 got, .bool cl] 87)).drew := ⟨_, rfl⟩
    have fA : Fr W V := by rw [hV]; exact (Fr.alloc _ _).trans (Fr.drew _)
    have fV : Fr w V := fW.trans fA
    have x0 := fA.cell c0
    have y1 : V.cell? ⟨W.heap.size, 1, none⟩ = some (.int .i64 cap) := by rw [hV]; simp [go_sem]
    have y2 : V.cell? ⟨W.heap.size, 2, none⟩ = some (.int .i64 sent) := by rw [hV]; simp [go_sem]
    have y3 : V.cell? ⟨W.heap.size, 3, none⟩ = some (.int .i64 got) := by rw [hV]; simp [go_sem]
    have y4 : V.cell? ⟨W.heap.size, 4, none⟩ = some (.bool cl) := by rw [hV]; simp [go_sem]
    rw [← hV]
    clear hV fA c0 c2 hb
    rcases (show k = 6 ∨ k = 7 ∨ k = 8 ∨ k = 9 ∨ k = 10 ∨ k = 11 ∨ (k ≠ 6 ∧ k ≠ 7 ∧ k ≠ 8 ∧ k ≠ 9 ∧ k ≠ 10 ∧ k ≠ 11) by omega) with rfl | rfl | rfl | rfl | rfl | rfl | hk
    · have HN : Hid (R = had) := by show R = had; rw [HR.out]; simp [wchanB]
      go_wp2_with fail
      go_ret
      exact ⟨ret_bool HN.out.symm, fV⟩
    · cases had
      · have HN : Hid (R = true) := by show R = true; rw [HR.out]; simp [wchanB]
        go_wp2_with fail
        go_ret
        exact ⟨ret_bool HN.out.symm, fV⟩
      · by_cases h2 : cap = 0
        · have HN : Hid (R = true) := by show R = true; rw [HR.out]; simp [wchanB, h2]
          subst h2
          go_wp2_with fail
          go_ret
          exact ⟨ret_bool HN.out.symm, fV⟩
        · have HN : Hid (R = false) := by show R = false; rw [HR.out]; simp [wchanB, h2]
          go_wp2_with fail
          go_ret
          first | exact ⟨ret_bool HN.out.symm, fV⟩ | exact ⟨ret_bool ((show (cap == 0) = false by simpa using h2).trans HN.out.symm), fV⟩
    · cases had
      · have HN : Hid (R = true) := by show R = true; rw [HR.out]; simp [wchanB]
        go_wp2_with fail
        go_ret
        exact ⟨ret_bool HN.out.symm, fV⟩
      · by_cases h2 : cap = 0
        · have HN : Hid (R = true) := by show R = true; rw [HR.out]; simp [wchanB, h2]
          subst h2
          go_wp2_with fail
          go_ret
          exact ⟨ret_bool HN.out.symm, fV⟩
        · have HN : Hid (R = false) := by show R = false; rw [HR.out]; simp [wchanB, h2]
          go_wp2_with fail
          go_ret
          first | exact ⟨ret_bool HN.out.symm, fV⟩ | exact ⟨ret_bool ((show (cap == 0) = false by simpa using h2).trans HN.out.symm), fV⟩
    · cases had
      · have HN : Hid (R = true) := by show R = true; rw [HR.out]; simp [wchanB]
        go_wp2_with fail
        go_ret
        exact ⟨ret_bool HN.out.symm, fV⟩
      · by_cases h2 : cap = 0
        · have HN : Hid (R = false) := by show R = false; rw [HR.out]; simp [wchanB, h2]
          subst h2
          go_wp2_with fail
          go_ret
          exact ⟨ret_bool HN.out.symm, fV⟩
        · have HN : Hid (R = true) := by show R = true; rw [HR.out]; simp [wchanB, h2]
          go_wp2_with fail
          go_ret
          first | exact ⟨ret_bool HN.out.symm, fV⟩ | exact ⟨ret_bool ((show (cap != 0) = true by simpa using h2).trans HN.out.symm), fV⟩
    · have HN : Hid (R = !had) := by show R = !had; rw [HR.out]; simp [wchanB]
      go_wp2_with fail
      go_ret
      exact ⟨ret_bool HN.out.symm, fV⟩
    · have HN : Hid (R = !had) := by show R = !had; rw [HR.out]; simp [wchanB]
      go_wp2_with fail
      go_ret
      exact ⟨ret_bool HN.out.symm, fV⟩
    · obtain ⟨h6, h7, h8, h9, h10, h11⟩ := hk
      have HN : Hid (R = false) := by show R = false; rw [HR.out]; simp [wchanB, h6, h7, h8, h9, h10, h11]
      go_wp2_with fail
      go_ret
      exact ⟨ret_bool HN.out.symm, fV⟩)

set_option maxRecDepth 20000 in
set_option maxHeartbeats 1000000 in
theorem isWrongOnce_any (b b4 : Nat) (had : Bool) (z : Int) (e : Ev) (w : World) (hb : w.cell? ⟨b, 4, none⟩ = some (.map (some b4)))
    (hL : ∀ u, Fr w u → (Instr.lookup 139 (.map (some b4)) (.int .i64 e.o) true).run Tryz.prog u = .ok (.tuple #[.int .i64 z, .bool had]) u) :
    Calls Tryz.prog 124 #[.pointer (some ⟨b, 0, none⟩), .agg #[.int .i64 e.k, .int .i64 e.g, .int .i64 e.o, .int .i64 e.w, .int .i64 e.l, .int .i64 e.s, .int .i64 e.f, .int .i64 e.t]] w fun x w' => x = .returned (.bool (onceB had e)) ∧ Fr w w' := by
  have fW := Fr.alloc w (.cells #[.int .i64 e.k, .int .i64 e.g, .int .i64 e.o, .int .i64 e.w, .int .i64 e.l, .int .i64 e.s, .int .i64 e.f, .int .i64 e.t] 31)
  have kE := EvAt.new w e 31
  have hb := fW.cell hb
  obtain ⟨R, hR⟩ : ∃ R, R = onceB had e := ⟨_, rfl⟩
  rw [← hR]
  have HR : Hid (R = onceB had e) := hR
  clear hR
  obtain ⟨k, gr, o, wi, l, sz, f, t⟩ := e
  simp only at fW kE hb hL ⊢
  go_enter Tryz.func124, Tryz.ntmps124
  go_wp2_with fail
  obtain ⟨W, hW⟩ : ∃ W, W = w.alloc (.cells #[.int .i64 k, .int .i64 gr, .int .i64 o, .int .i64 wi, .int .i64 l, .int .i64 sz, .int .i64 f, .int .i64 t] 31) := ⟨_, rfl⟩
  rw [← hW] at fW kE hb ⊢
  clear hW
  obtain ⟨c0, c1, c2, c3, c4, c5, c6, c7⟩ := kE
  simp only at c0 c2
  clear c1 c3 c4 c5 c6 c7
  have l1 := hL _ (fW.trans (Fr.drew W))
  clear hL
  go_region_held3 (fun u => u.cell? ⟨b, 4, none⟩ = some (.map (some b4)) ∧ u.cell? ⟨w.heap.size, 2, none⟩ = some (.int .i64 o)) (go_keep) (fail)
  all_goals (
    clear l1
    obtain ⟨V, hV⟩ : ∃ V, V = W.drew := ⟨_, rfl⟩
    have fA : Fr W V := by rw [hV]; exact Fr.drew _
    have fV : Fr w V := fW.trans fA
    have x0 := fA.cell c0
    rw [← hV]
    clear hV fA c0 c2 hb
    rcases (show k = 15 ∨ k = 16 ∨ (k ≠ 15 ∧ k ≠ 16) by omega) with rfl | rfl | hk
    · have HN : Hid (R = had) := by show R = had; rw [HR.out]; simp [onceB]
      go_wp2_with fail
      go_ret
      exact ⟨ret_bool HN.out.symm, fV⟩
    · have HN : Hid (R = !had) := by show R = !had; rw [HR.out]; simp [onceB]
      go_wp2_with fail
      go_ret
      exact ⟨ret_bool HN.out.symm, fV⟩
    · obtain ⟨h1, h2⟩ := hk
      have HN : Hid (R = false) := by show R = false; rw [HR.out]; simp [onceB, h1, h2]
      go_wp2_with fail
      go_ret
      exact ⟨ret_bool HN.out.symm, fV⟩)
end Go.Proofs.YtihdablgnmkjnaaGreatDoor
/-
  The program's questions on a board: counts.
-/
namespace Go.Proofs.YtihdablgnmkjnaaGreatDoor
open Go.RowKit

def countB (had : Bool) (n sent : Int) (e : Ev) : Bool := if e.k = 13 then !had else if e.k = 14 then had else if e.k = 12 then decide (1000000 < n + e.s) else if e.k = 7 then decide (sent = 1000000) else false

theorem field_sent (a b c d : Int) (q : Bool) (u : World) : Sem.run Tryz.prog (Instr.field 87 (.agg #[.int .i64 a, .int .i64 b, .int .i64 c, .int .i64 d, .bool q]) 2) u = .ok (.int .i64 c) u := by
  have hu := run_underlying (w := u) Tryz.underlying87
  simp [Instr.field, asAgg, hu, go_sem]

set_option maxRecDepth 20000 in
set_option maxHeartbeats 1000000 in
theorem isMiscounted_any (b b2 b3 : Nat) (had : Bool) (no n : Int) (c : Ch) (e : Ev) (w : World) (hb : w.cell? ⟨b, 3, none⟩ = some (.map (some b3))) (hb2 : w.cell? ⟨b, 2, none⟩ = some (.map (some b2)))
    (hn : 0 ≤ n ∧ n ≤ 1000000) (hs : 0 ≤ e.s ∧ e.s ≤ 1000000000)
    (hL : ∀ u, Fr w u → (Instr.lookup 136 (.map (some b3)) (.int .i64 e.o) true).run Tryz.prog u = .ok (.tuple #[.agg #[.int .i64 no, .int .i64 n], .bool had]) u)
    (hC : ∀ u, Fr w u → (Instr.lookup 133 (.map (some b2)) (.int .i64 e.o) false).run Tryz.prog u = .ok (.agg #[.int .i64 c.o, .int .i64 c.cap, .int .i64 c.sent, .int .i64 c.got, .bool c.cl]) u) :
    Calls Tryz.prog 123 #[.pointer (some ⟨b, 0, none⟩), .agg #[.int .i64 e.k, .int .i64 e.g, .int .i64 e.o, .int .i64 e.w, .int .i64 e.l, .int .i64 e.s, .int .i64 e.f, .int .i64 e.t]] w fun x w' => x = .returned (.bool (countB had n c.sent e)) ∧ Fr w w' := by
  have fW := Fr.alloc w (.cells #[.int .i64 e.k, .int .i64 e.g, .int .i64 e.o, .int .i64 e.w, .int .i64 e.l, .int .i64 e.s, .int .i64 e.f, .int .i64 e.t] 31)
  have kE := EvAt.new w e 31
  have hb := fW.cell hb
  have hb2 := fW.cell hb2
  obtain ⟨R, hR⟩ : ∃ R, R = countB had n c.sent e := ⟨_, rfl⟩
  rw [← hR]
  have HR : Hid (R = countB had n c.sent e) := hR
  clear hR
  obtain ⟨k, gr, o, wi, l, sz, f, t⟩ := e
  obtain ⟨co, cap, sent, got, cl⟩ := c
  simp only at fW kE hb hb2 hL hC hs HR ⊢
  have HC : Hid (∀ u, Fr w u → (Instr.lookup 133 (.map (some b2)) (.int .i64 o) false).run Tryz.prog u = .ok (.agg #[.int .i64 co, .int .i64 cap, .int .i64 sent, .int .i64 got, .bool cl]) u) := hC
  clear hC
  go_enter Tryz.func123, Tryz.ntmps123
  go_wp2_with fail
  obtain ⟨W, hW⟩ : ∃ W, W = w.alloc (.cells #[.int .i64 k, .int .i64 gr, .int .i64 o, .int .i64 wi, .int .i64 l, .int .i64 sz, .int .i64 f, .int .i64 t] 31) := ⟨_, rfl⟩
  rw [← hW] at fW kE hb hb2 ⊢
  clear hW
  obtain ⟨c0, c1, c2, c3, c4, c5, c6, c7⟩ := kE
  simp only at c0 c2 c5
  clear c1 c3 c4 c6 c7
  have l1 := hL _ (fW.trans (Fr.drew W))
  have l2 := hL _ ((fW.trans (Fr.alloc W (.cells #[.int .i64 0, .int .i64 0] 90))).trans (Fr.drew _))
  clear hL
  go_region_held3 (fun u => u.cell? ⟨b, 3, none⟩ = some (.map (some b3)) ∧ u.cell? ⟨w.heap.size, 2, none⟩ = some (.int .i64 o)) (go_keep) (fail)
  all_goals (
    clear l1 l2
    obtain ⟨V, hV⟩ : ∃ V, V = (W.alloc (.cells #[.int .i64 no, .int .i64 n] 90)).drew := ⟨_, rfl⟩
    have fA : Fr W V := by rw [hV]; exact (Fr.alloc _ _).trans (Fr.drew _)
    have fV : Fr w V := fW.trans fA
    have x0 := fA.cell c0
    have x2 := fA.cell c2
    have x5 := fA.cell c5
    have xb := fA.cell hb2
    have y1 : V.cell? ⟨W.heap.size, 1, none⟩ = some (.int .i64 n) := by rw [hV]; simp [go_sem]
    rw [← hV]
    clear hV fA c0 c2 c5 hb hb2
    rcases (show k = 13 ∨ k = 14 ∨ k = 12 ∨ k = 7 ∨ (k ≠ 13 ∧ k ≠ 14 ∧ k ≠ 12 ∧ k ≠ 7) by omega) with rfl | rfl | rfl | rfl | hk
    · have HN : Hid (R = !had) := by show R = !had; rw [HR.out]; simp [countB]
      go_wp2_with fail
      go_ret
      exact ⟨ret_bool HN.out.symm, fV⟩
    · have HN : Hid (R = had) := by show R = had; rw [HR.out]; simp [countB]
      go_wp2_with fail
      go_ret
      exact ⟨ret_bool HN.out.symm, fV⟩
    · obtain ⟨n0, n1⟩ := hn
      obtain ⟨s0, s1⟩ := hs
      by_cases h2 : 1000000 < n + sz
      · have HN : Hid (R = true) := by show R = true; rw [HR.out]; simp [countB, h2]
        go_wp2_with fail
        go_ret
        first | exact ⟨ret_bool HN.out.symm, fV⟩ | exact ⟨ret_bool ((show decide (1000000 < n + sz) = true by simpa using h2).trans HN.out.symm), fV⟩
      · have HN : Hid (R = false) := by show R = false; rw [HR.out]; simp only [countB]; simp; omega
        go_wp2_with fail
        go_ret
        first | exact ⟨ret_bool HN.out.symm, fV⟩ | exact ⟨ret_bool ((show decide (1000000 < n + sz) = false by simpa using h2).trans HN.out.symm), fV⟩
    · have l3 := HC.out _ (fV.trans (Fr.drew V))
      have l4 := field_sent co cap sent got cl
      by_cases h2 : sent = 1000000
      · have HN : Hid (R = true) := by show R = true; rw [HR.out]; simp [countB, h2]
        subst h2
        go_wp2_with fail
        go_region_held3 (fun u => u.cell? ⟨b, 2, none⟩ = some (.map (some b2)) ∧ u.cell? ⟨w.heap.size, 2, none⟩ = some (.int .i64 o)) (go_keep) (fail)
        go_wp2_with fail
        go_ret
        exact ⟨ret_bool HN.out.symm, fV.trans (Fr.drew V)⟩
      · have HN : Hid (R = false) := by show R = false; rw [HR.out]; simp [countB, h2]
        go_wp2_with fail
        go_region_held3 (fun u => u.cell? ⟨b, 2, none⟩ = some (.map (some b2)) ∧ u.cell? ⟨w.heap.size, 2, none⟩ = some (.int .i64 o)) (go_keep) (fail)
        go_wp2_with fail
        go_ret
        first | exact ⟨ret_bool HN.out.symm, fV.trans (Fr.drew V)⟩ | exact ⟨ret_bool ((show (sent == 1000000) = false by simpa using h2).trans HN.out.symm), fV.trans (Fr.drew V)⟩
    · obtain ⟨h1, h2, h3, h4⟩ := hk
      have HN : Hid (R = false) := by show R = false; rw [HR.out]; simp [countB, h1, h2, h3, h4]
      go_wp2_with fail
      go_ret
      exact ⟨ret_bool HN.out.symm, fV⟩)
end Go.Proofs.YtihdablgnmkjnaaGreatDoor
/-
  slices.Index and slices.Contains at int64.
-/
namespace Go.Proofs.YtihdablgnmkjnaaGreatDoor
open Go.RowKit

theorem memB_step {xs : List Int} {x : Int} {k : Nat} (hk : k < xs.length) (h : x ≠ xs[k]) : memB (xs.drop k) x = memB (xs.drop (k + 1)) x := by
  rw [List.drop_eq_getElem_cons hk, memB, List.any_cons, show (xs[k] == x) = false by simpa using Ne.symm h]
  rfl
theorem memB_here {xs : List Int} {x : Int} {k : Nat} (hk : k < xs.length) (h : x = xs[k]) : memB (xs.drop k) x = true := by
  rw [List.drop_eq_getElem_cons hk, memB, List.any_cons, show (xs[k] == x) = true by simpa using h.symm]
  rfl

set_option maxHeartbeats 1000000 in
theorem index_any (ao : Option Addr) (n c : Nat) (xs : List Int) (x : Int) (w : World) (hn : xs.length = n) (hl : xs.length ≤ 1048576) (h : Reads w ao xs) :
    Calls Tryz.prog 176 #[.slice ao n c, .int .i64 x] w fun e w' => ∃ r : Int, e = .returned (.int .i64 r) ∧ decide (0 ≤ r) = memB xs x ∧ w' = w := by
  subst hn
  obtain ⟨R, hR⟩ : ∃ R, R = memB xs x := ⟨_, rfl⟩
  rw [← hR]
  have HR : Hid (R = memB xs x) := hR
  clear hR
  go_enter Tryz.func176, Tryz.ntmps176
  go_wp2_with fail
  go_loopw [8] (fun i wr => ∃ (k : Nat), k ≤ xs.length ∧ i = .int .i64 k ∧ Hid (R = memB (xs.drop k) x) ∧ wr = w) (fun i _ => xs.length - (intOf i).toNat)
  case atStart => exact ⟨0, Nat.zero_le _, rfl, HR, rfl⟩
  case round =>
    clear HR
    obtain ⟨k, hk, rfl, HR, rfl⟩ := hrel
    by_cases hlt : k < xs.length
    · obtain ⟨b, off, rfl, hc⟩ := h.at_ k hlt
      have hck := hc k hlt
      rw [getD_at hlt] at hck
      have HY : Hid (x ≠ xs[k] → R = memB (xs.drop (k + 1)) x) := fun h1 => HR.out.trans (memB_step hlt h1)
      have HF : Hid (x = xs[k] → R = true) := fun h1 => HR.out.trans (memB_here hlt h1)
      obtain ⟨z, hz⟩ : ∃ z, z = xs[k] := ⟨_, rfl⟩
      rw [← hz] at hck HY HF
      clear hz hc HR
      by_cases h1 : x = z
      · have HN : Hid (R = true) := HF.out h1
        subst h1
        go_wp2_with fail
        go_ret
        exact ⟨k, rfl, by rw [HN.out]; simp, rfl⟩
      · have HN : Hid (R = memB (xs.drop (k + 1)) x) := HY.out h1
        go_wp2_with fail
        go_roundw
        case rel => exact ⟨k + 1, by omega, by go_num, HN, trivial⟩
        case measure => simp [intOf]; omega
    · have HN : Hid (R = false) := by
        have h1 := HR.out
        rw [List.drop_eq_nil_of_le (by omega)] at h1
        exact h1
      go_wp2_with fail
      go_ret
      exact ⟨-1, rfl, by rw [HN.out]; simp, rfl⟩
theorem contains_any (ao : Option Addr) (n c : Nat) (xs : List Int) (x : Int) (w : World) (hn : xs.length = n) (hl : xs.length ≤ 1048576) (h : Reads w ao xs) :
    Calls Tryz.prog 165 #[.slice ao n c, .int .i64 x] w fun e w' => e = .returned (.bool (memB xs x)) ∧ w' = w := by
  go_enter Tryz.func165, Tryz.ntmps165
  go_wp2_with fail
  refine (index_any ao n c xs x w hn hl h).mono ?_
  rintro e u ⟨r, rfl, hr, rfl⟩
  go_wp2_with fail
  go_ret
  exact ⟨rfl, rfl⟩
end Go.Proofs.YtihdablgnmkjnaaGreatDoor
/-
  The program's questions on a board: locks.
-/
namespace Go.Proofs.YtihdablgnmkjnaaGreatDoor
open Go.RowKit

def heldB (had : Bool) (wr : Int) (rd : List Int) (e : Ev) : Bool := if e.k = 2 then had else if e.k = 4 then had && (decide (wr ≠ -1) || memB rd e.g) else false
def notHadB (had : Bool) (wr : Int) (rd : List Int) (e : Ev) : Bool := if e.k = 3 then !had || decide (wr ≠ e.g) else if e.k = 5 then !memB rd e.g else false

set_option maxRecDepth 20000 in
set_option maxHeartbeats 1000000 in
theorem isHeld_any (b b1 : Nat) (had : Bool) (lo wr : Int) (ro : Option Addr) (rn rc : Nat) (rd : List Int) (e : Ev) (w : World) (hb : w.cell? ⟨b, 1, none⟩ = some (.map (some b1))) (hn : rd.length = rn) (hl : rd.length ≤ 1048576) (hr : Reads w ro rd)
    (hL : ∀ u, Fr w u → (Instr.lookup 130 (.map (some b1)) (.int .i64 e.o) true).run Tryz.prog u = .ok (.tuple #[.agg #[.int .i64 lo, .int .i64 wr, .slice ro rn rc], .bool had]) u) :
    Calls Tryz.prog 117 #[.pointer (some ⟨b, 0, none⟩), .agg #[.int .i64 e.k, .int .i64 e.g, .int .i64 e.o, .int .i64 e.w, .int .i64 e.l, .int .i64 e.s, .int .i64 e.f, .int .i64 e.t]] w fun x w' => x = .returned (.bool (heldB had wr rd e)) ∧ Fr w w' := by
  have fW := Fr.alloc w (.cells #[.int .i64 e.k, .int .i64 e.g, .int .i64 e.o, .int .i64 e.w, .int .i64 e.l, .int .i64 e.s, .int .i64 e.f, .int .i64 e.t] 31)
  have kE := EvAt.new w e 31
  have hb := fW.cell hb
  obtain ⟨R, hR⟩ : ∃ R, R = heldB had wr rd e := ⟨_, rfl⟩
  rw [← hR]
  have HR : Hid (R = heldB had wr rd e) := hR
  clear hR
  obtain ⟨k, gr, o, wi, l, sz, f, t⟩ := e
  simp only at fW kE hb hL HR ⊢
  have cI := fun u (f : Fr w u) => contains_any ro rn rc rd gr u hn hl (hr.fr f)
  obtain ⟨Q, hQ⟩ : ∃ Q, Q = memB rd gr := ⟨_, rfl⟩
  simp only [← hQ] at cI
  have HQ : Hid (memB rd gr = Q) := hQ.symm
  clear hQ hn hl hr
  go_enter Tryz.func117, Tryz.ntmps117
  go_wp2_with fail
  obtain ⟨W, hW⟩ : ∃ W, W = w.alloc (.cells #[.int .i64 k, .int .i64 gr, .int .i64 o, .int .i64 wi, .int .i64 l, .int .i64 sz, .int .i64 f, .int .i64 t] 31) := ⟨_, rfl⟩
  rw [← hW] at fW kE hb ⊢
  clear hW
  obtain ⟨c0, c1, c2, c3, c4, c5, c6, c7⟩ := kE
  simp only at c0 c1 c2
  clear c3 c4 c5 c6 c7
  have l1 := hL _ (fW.trans (Fr.drew W))
  have l2 := hL _ ((fW.trans (Fr.alloc W (.cells #[.int .i64 0, .int .i64 0, .slice none 0 0] 47))).trans (Fr.drew _))
  clear hL
  go_region_held3 (fun u => u.cell? ⟨b, 1, none⟩ = some (.map (some b1)) ∧ u.cell? ⟨w.heap.size, 2, none⟩ = some (.int .i64 o)) (go_keep) (fail)
  all_goals (
    clear l1 l2
    obtain ⟨V, hV⟩ : ∃ V, V = (W.alloc (.cells #[.int .i64 lo, .int .i64 wr, .slice ro rn rc] 47)).drew := ⟨_, rfl⟩
    have fA : Fr W V := by rw [hV]; exact (Fr.alloc _ _).trans (Fr.drew _)
    have fV : Fr w V := fW.trans fA
    have x0 := fA.cell c0
    have x1 := fA.cell c1
    have y1 : V.cell? ⟨W.heap.size, 1, none⟩ = some (.int .i64 wr) := by rw [hV]; simp [go_sem]
    have y2 : V.cell? ⟨W.heap.size, 2, none⟩ = some (.slice ro rn rc) := by rw [hV]; simp [go_sem]
    rw [← hV]
    clear hV fA c0 c1 c2 hb
    rcases (show k = 2 ∨ k = 4 ∨ (k ≠ 2 ∧ k ≠ 4) by omega) with rfl | rfl | hk
    · have HN : Hid (R = had) := by show R = had; rw [HR.out]; simp [heldB]
      go_wp2_with fail
      go_ret
      exact ⟨ret_bool HN.out.symm, fV⟩
    · cases had
      · have HN : Hid (R = false) := by show R = false; rw [HR.out]; simp [heldB]
        go_wp2_with fail
        go_ret
        exact ⟨ret_bool HN.out.symm, fV⟩
      · by_cases h2 : wr = -1
        · have HN : Hid (R = Q) := by show R = Q; rw [HR.out]; simp only [heldB, HQ.out]; simp [h2]
          subst h2
          go_wp2_with fail
          refine (cI V fV).mono ?_
          rintro e u ⟨rfl, rfl⟩
          go_wp2_with fail
          go_ret
          exact ⟨ret_bool HN.out.symm, fV⟩
        · have HN : Hid (R = true) := by show R = true; rw [HR.out]; simp [heldB, h2]
          have hq : (wr != -1) = true := by simpa using h2
          go_wp2_with fail
          go_ret
          exact ⟨ret_bool HN.out.symm, fV⟩
    · obtain ⟨h1, h2⟩ := hk
      have HN : Hid (R = false) := by show R = false; rw [HR.out]; simp [heldB, h1, h2]
      go_wp2_with fail
      go_ret
      exact ⟨ret_bool HN.out.symm, fV⟩)

set_option maxRecDepth 20000 in
set_option maxHeartbeats 1000000 in
theorem isNotHad_any (b b1 : Nat) (had : Bool) (lo wr : Int) (ro : Option Addr) (rn rc : Nat) (rd : List Int) (e : Ev) (w : World) (hb : w.cell? ⟨b, 1, none⟩ = some (.map (some b1))) (hn : rd.length = rn) (hl : rd.length ≤ 1048576) (hr : Reads w ro rd)
    (hL : ∀ u, Fr w u → (Instr.lookup 130 (.map (some b1)) (.int .i64 e.o) true).run Tryz.prog u = .ok (.tuple #[.agg #[.int .i64 lo, .int .i64 wr, .slice ro rn rc], .bool had]) u) :
    Calls Tryz.prog 118 #[.pointer (some ⟨b, 0, none⟩), .agg #[.int .i64 e.k, .int .i64 e.g, .int .i64 e.o, .int .i64 e.w, .int .i64 e.l, .int .i64 e.s, .int .i64 e.f, .int .i64 e.t]] w fun x w' => x = .returned (.bool (notHadB had wr rd e)) ∧ Fr w w' := by
  have fW := Fr.alloc w (.cells #[.int .i64 e.k, .int .i64 e.g, .int .i64 e.o, .int .i64 e.w, .int .i64 e.l, .int .i64 e.s, .int .i64 e.f, .int .i64 e.t] 31)
  have kE := EvAt.new w e 31
  have hb := fW.cell hb
  obtain ⟨R, hR⟩ : ∃ R, R = notHadB had wr rd e := ⟨_, rfl⟩
  rw [← hR]
  have HR : Hid (R = notHadB had wr rd e) := hR
  clear hR
  obtain ⟨k, gr, o, wi, l, sz, f, t⟩ := e
  simp only at fW kE hb hL HR ⊢
  have cI := fun u (f : Fr w u) => contains_any ro rn rc rd gr u hn hl (hr.fr f)
  obtain ⟨Q, hQ⟩ : ∃ Q, Q = memB rd gr := ⟨_, rfl⟩
  simp only [← hQ] at cI
  have HQ : Hid (memB rd gr = Q) := hQ.symm
  clear hQ hn hl hr
  go_enter Tryz.func118, Tryz.ntmps118
  go_wp2_with fail
  obtain ⟨W, hW⟩ : ∃ W, W = w.alloc (.cells #[.int .i64 k, .int .i64 gr, .int .i64 o, .int .i64 wi, .int .i64 l, .int .i64 sz, .int .i64 f, .int .i64 t] 31) := ⟨_, rfl⟩
  rw [← hW] at fW kE hb ⊢
  clear hW
  obtain ⟨c0, c1, c2, c3, c4, c5, c6, c7⟩ := kE
  simp only at c0 c1 c2
  clear c3 c4 c5 c6 c7
  have l1 := hL _ (fW.trans (Fr.drew W))
  have l2 := hL _ ((fW.trans (Fr.alloc W (.cells #[.int .i64 0, .int .i64 0, .slice none 0 0] 47))).trans (Fr.drew _))
  clear hL
  go_region_held3 (fun u => u.cell? ⟨b, 1, none⟩ = some (.map (some b1)) ∧ u.cell? ⟨w.heap.size, 2, none⟩ = some (.int .i64 o)) (go_keep) (fail)
  all_goals (
    clear l1 l2
    obtain ⟨V, hV⟩ : ∃ V, V = (W.alloc (.cells #[.int .i64 lo, .int .i64 wr, .slice ro rn rc] 47)).drew := ⟨_, rfl⟩
    have fA : Fr W V := by rw [hV]; exact (Fr.alloc _ _).trans (Fr.drew _)
    have fV : Fr w V := fW.trans fA
    have x0 := fA.cell c0
    have x1 := fA.cell c1
    have y1 : V.cell? ⟨W.heap.size, 1, none⟩ = some (.int .i64 wr) := by rw [hV]; simp [go_sem]
    have y2 : V.cell? ⟨W.heap.size, 2, none⟩ = some (.slice ro rn rc) := by rw [hV]; simp [go_sem]
    rw [← hV]
    clear hV fA c0 c1 c2 hb
    rcases (show k = 3 ∨ k = 5 ∨ (k ≠ 3 ∧ k ≠ 5) by omega) with rfl | rfl | hk
    · cases had
      · have HN : Hid (R = true) := by show R = true; rw [HR.out]; simp [notHadB]
        go_wp2_with fail
        go_ret
        exact ⟨ret_bool HN.out.symm, fV⟩
      · by_cases h2 : wr = gr
        · have HN : Hid (R = false) := by show R = false; rw [HR.out]; simp [notHadB, h2]
          subst h2
          go_wp2_with fail
          go_ret
          exact ⟨ret_bool HN.out.symm, fV⟩
        · have HN : Hid (R = true) := by show R = true; rw [HR.out]; simp [notHadB, h2]
          go_wp2_with fail
          go_ret
          first | exact ⟨ret_bool HN.out.symm, fV⟩ | exact ⟨ret_bool ((show (wr != gr) = true by simpa using h2).trans HN.out.symm), fV⟩
    · have HN : Hid (R = !Q) := by show R = !Q; rw [HR.out]; simp [notHadB, HQ.out]
      go_wp2_with fail
      refine (cI V fV).mono ?_
      rintro e u ⟨rfl, rfl⟩
      go_wp2_with fail
      go_ret
      exact ⟨ret_bool HN.out.symm, fV⟩
    · obtain ⟨h1, h2⟩ := hk
      have HN : Hid (R = false) := by show R = false; rw [HR.out]; simp [notHadB, h1, h2]
      go_wp2_with fail
      go_ret
      exact ⟨ret_bool HN.out.symm, fV⟩)
end Go.Proofs.YtihdablgnmkjnaaGreatDoor
/-
  The program's ten questions make the specification's code.
-/
namespace Go.Proofs.YtihdablgnmkjnaaGreatDoor
open Go.RowKit

/-- A right lock is had by a writer, or by readers alone. -/
theorem lock_in {m : Scn} (h : scB m = true) (o : Int) : (hasL m o = false ∧ lockOf m.ls o = ⟨o, -1, []⟩ ∧ lockZ m o = ⟨0, 0, []⟩) ∨ (hasL m o = true ∧ lockOf m.ls o = lockZ m o ∧ ((0 ≤ (lockZ m o).wr ∧ (lockZ m o).rd = []) ∨ ((lockZ m o).wr = -1 ∧ 0 < (lockZ m o).rd.length))) := by
  have h1 := (scB_parts h).2.1
  unfold hasL lockOf lockZ
  cases hf : m.ls.find? fun l => l.o == o with
  | none => exact .inl ⟨rfl, rfl, rfl⟩
  | some l =>
    refine .inr ⟨rfl, rfl, ?_⟩
    have hq := rowB_all h1 l (List.mem_of_find?_eq_some hf)
    unfold lkB at hq
    simp only [Bool.and_eq_true] at hq
    obtain ⟨-, -, h2, h3⟩ := hq
    have h2 := inB_true h2
    simp only [Option.getD_some]
    by_cases h4 : 0 ≤ l.wr
    · refine .inl ⟨h4, ?_⟩
      by_cases h5 : 0 < l.rd.length
      · simp [h4, h5] at h3
      · exact List.eq_nil_of_length_eq_zero (by omega)
    · refine .inr ⟨by omega, ?_⟩
      by_cases h5 : 0 < l.rd.length
      · exact h5
      · simp [h4, h5] at h3
theorem chan_z (m : Scn) (o : Int) : (isChan m.cs o = false ∧ chanOf m.cs o = ⟨o, 0, 0, 0, false⟩ ∧ chanZ m o = ⟨0, 0, 0, 0, false⟩) ∨ (isChan m.cs o = true ∧ chanOf m.cs o = chanZ m o) := by
  unfold isChan chanOf chanZ
  cases m.cs.find? fun l => l.o == o with
  | none => exact .inl ⟨rfl, rfl, rfl⟩
  | some l => exact .inr ⟨rfl, rfl⟩
theorem count_z {m : Scn} (h : scB m = true) (o : Int) : countOf m.gs o = (countZ m o).n ∧ (hasN m o = false ∧ (countZ m o).n = 0 ∨ hasN m o = true ∧ 1 ≤ (countZ m o).n) := by
  have h3 := (scB_parts h).2.2.2.1
  unfold countOf countZ hasN
  cases hf : m.gs.find? fun l => l.o == o with
  | none => exact ⟨rfl, .inl ⟨rfl, rfl⟩⟩
  | some c =>
    have := (ctB_in (rowB_all h3 c (List.mem_of_find?_eq_some hf))).2
    exact ⟨rfl, .inr ⟨rfl, this.1⟩⟩
theorem once_z (m : Scn) (o : Int) : memB m.os o = hasO m o := by
  unfold memB hasO
  induction m.os with
  | nil => rfl
  | cons x xs ih =>
    rw [List.any_cons, List.find?_cons, ih]
    cases x == o <;> rfl
theorem chanZ_in {m : Scn} (h : scB m = true) (o : Int) : 0 ≤ (chanZ m o).got ∧ (chanZ m o).got ≤ (chanZ m o).sent ∧ (chanZ m o).sent ≤ 1000000 := by
  have := chan_in h o
  rcases chan_z m o with ⟨-, -, h2⟩ | ⟨-, h2⟩
  · rw [h2]; simp
  · rw [← h2]; omega
theorem evOk_s {e : Ev} (h : evOk e = true) : 0 ≤ e.s ∧ e.s ≤ 1000000000 := by
  unfold evOk at h
  simp only [Bool.and_eq_true] at h
  have h4 := h.1.1.2
  unfold ev4 fitB at h4
  split at h4
  · have h5 := inB_true h4
    have h6 : 0 ≤ loV e.k := by unfold loV; split <;> omega
    have h7 : hiV e.k ≤ 64 := by unfold hiV; split <;> (try split) <;> (try split) <;> (try split) <;> omega
    omega
  · have h5 : e.s = 0 := by simpa using h4
    omega

set_option maxHeartbeats 4000000 in
theorem code_same {m : Scn} (hm : scB m = true) (e : Ev) :
    codeC (evOk e) (lacksB m.g e) (heldB (hasL m e.o) (lockZ m e.o).wr (lockZ m e.o).rd e) (notHadB (hasL m e.o) (lockZ m e.o).wr (lockZ m e.o).rd e) (wchanB (isChan m.cs e.o) (chanZ m e.o) e) (closedB (chanZ m e.o) e) (fullB (chanZ m e.o) e) (emptyB (chanZ m e.o) e) (countB (hasN m e.o) (countZ m e.o).n (chanZ m e.o).sent e) (onceB (hasO m e.o) e) = codeIn m e := by
  unfold codeIn
  cases hE : evOk e
  · simp [codeC]
  obtain ⟨⟨k1, k2⟩, g1, g2⟩ := evOk_k hE
  by_cases hG : gorBad m e
  · have h1 : lacksB m.g e = true := by
      unfold gorBad at hG
      simp only [lacksB, Bool.or_eq_true, Bool.and_eq_true, decide_eq_true_eq]
      rcases hG with h | h | h
      · exact .inl (.inl h)
      · exact .inl (.inr h)
      · exact .inr h
    simp [codeC, h1, hG, hm]
  have h1 : lacksB m.g e = false := by
    unfold gorBad at hG
    cases hb : lacksB m.g e with
    | false => rfl
    | true =>
      simp only [lacksB, Bool.or_eq_true, Bool.and_eq_true, decide_eq_true_eq] at hb
      exact absurd (by rcases hb with (h | h) | h; exact .inl h; exact .inr (.inl h); exact .inr (.inr h)) hG
  rw [if_neg (by simp [hm]), if_neg hG]
  obtain ⟨hc0, hc1⟩ := count_z hm e.o
  have ho := once_z m e.o
  have hl := lock_in hm e.o
  have hc := chan_z m e.o
  unfold codeC
  rw [h1]
  simp only [Bool.true_eq_false, if_false, Bool.false_eq_true]
  unfold restCode lockCode chanCode heldB notHadB wchanB closedB fullB emptyB countB onceB
  rw [hc0, ho]
  clear hG h1 hE hc0 ho hm
  obtain ⟨L, hL⟩ : ∃ L, L = lockZ m e.o := ⟨_, rfl⟩
  obtain ⟨C, hC⟩ : ∃ L, L = chanZ m e.o := ⟨_, rfl⟩
  obtain ⟨N, hN⟩ : ∃ L, L = (countZ m e.o).n := ⟨_, rfl⟩
  obtain ⟨L1, hL1⟩ : ∃ L, L = lockOf m.ls e.o := ⟨_, rfl⟩
  obtain ⟨C1, hC1⟩ : ∃ L, L = chanOf m.cs e.o := ⟨_, rfl⟩
  rw [← hL, ← hL1] at hl
  rw [← hC, ← hC1] at hc
  rw [← hN] at hc1
  simp only [← hL, ← hC, ← hN, ← hL1, ← hC1]
  clear hL hC hN hL1 hC1
  obtain ⟨k, gr, o, wi, l, sz, f, t⟩ := e
  simp only at *
  have hk : k = 1 ∨ k = 2 ∨ k = 3 ∨ k = 4 ∨ k = 5 ∨ k = 6 ∨ k = 7 ∨ k = 8 ∨ k = 9 ∨ k = 10 ∨ k = 11 ∨ k = 12 ∨ k = 13 ∨ k = 14 ∨ k = 15 ∨ k = 16 ∨ (17 ≤ k ∧ k ≤ 22) := by omega
  rcases hk with rfl | rfl | rfl | rfl | rfl | rfl | rfl | rfl | rfl | rfl | rfl | rfl | rfl | rfl | rfl | rfl | hk
  · simp
  · rcases hl with ⟨h1, h2, h3⟩ | ⟨h1, h2, h3⟩
    · simp [h1, h2]
    · subst h2
      rcases h3 with ⟨h3, h4⟩ | ⟨h3, h4⟩ <;> simp [h1, h3, h4]
  · rcases hl with ⟨h1, h2, h3⟩ | ⟨h1, h2, h3⟩
    · have : ¬ (-1 = gr) := by omega
      simp [h1, h2, this]
    · subst h2
      by_cases h5 : L1.wr = gr <;> simp [h1, h5]
  · rcases hl with ⟨h1, h2, h3⟩ | ⟨h1, h2, h3⟩
    · simp [h1, h2, memB]
    · subst h2
      rcases h3 with ⟨h3, h4⟩ | ⟨h3, h4⟩
      · have : ¬ (L1.wr = -1) := by omega
        simp [h1, h3, this]
      · have : ¬ (0 ≤ (-1 : Int)) := by omega
        simp [h1, h3]
  · rcases hl with ⟨h1, h2, h3⟩ | ⟨h1, h2, h3⟩
    · subst h2; subst h3; simp [memB]
    · subst h2
      cases memB L1.rd gr <;> simp
  · cases isChan m.cs o <;> simp
  · rcases hc with ⟨h1, h2, h3⟩ | ⟨h1, h2⟩
    · simp [h1]
    · subst h2
      by_cases q1 : C1.cap = 0 <;> cases q2 : C1.cl <;> by_cases q3 : C1.sent - C1.got = C1.cap <;> by_cases q4 : C1.sent = 1000000 <;> simp [h1, q1, q3, q4]
  · rcases hc with ⟨h1, h2, h3⟩ | ⟨h1, h2⟩
    · simp [h1]
    · subst h2
      by_cases q1 : C1.cap = 0 <;> by_cases q3 : C1.sent = C1.got <;> simp [h1, q1, q3]
  · rcases hc with ⟨h1, h2, h3⟩ | ⟨h1, h2⟩
    · simp [h1]
    · subst h2
      by_cases q1 : C1.cap = 0 <;> cases q2 : C1.cl <;> simp [h1, q1]
  · rcases hc with ⟨h1, h2, h3⟩ | ⟨h1, h2⟩
    · simp [h1]
    · subst h2
      cases q2 : C1.cl <;> simp [h1]
  · rcases hc with ⟨h1, h2, h3⟩ | ⟨h1, h2⟩
    · simp [h1]
    · subst h2
      cases q2 : C1.cl <;> by_cases q3 : C1.sent = C1.got <;> simp [h1, q3]
  · simp
  · rcases hc1 with ⟨h1, h2⟩ | ⟨h1, h2⟩
    · simp [h1, h2]
    · have : ¬ N = 0 := by omega
      simp [h1, this]
  · rcases hc1 with ⟨h1, h2⟩ | ⟨h1, h2⟩
    · simp [h1, h2]
    · have : ¬ N = 0 := by omega
      simp [h1, this]
  · cases hasO m o <;> simp
  · cases hasO m o <;> simp
  · have a1 : ¬ k = 2 := by omega
    have a2 : ¬ k = 3 := by omega
    have a3 : ¬ k = 4 := by omega
    have a4 : ¬ k = 5 := by omega
    have a5 : ¬ k = 6 := by omega
    have a6 : ¬ k = 7 := by omega
    have a7 : ¬ k = 8 := by omega
    have a8 : ¬ k = 9 := by omega
    have a9 : ¬ k = 10 := by omega
    have b1 : ¬ k = 11 := by omega
    have b2 : ¬ k = 12 := by omega
    have b3 : ¬ k = 13 := by omega
    have b4 : ¬ k = 14 := by omega
    have b5 : ¬ k = 15 := by omega
    have b6 : ¬ k = 16 := by omega
    have b7 : ¬ (2 ≤ k ∧ k ≤ 5) := by omega
    have b8 : ¬ (6 ≤ k ∧ k ≤ 11) := by omega
    simp only [a1, a2, a3, a4, a5, a6, a7, a8, a9, b1, b2, b3, b4, b5, b6, b7, b8, or_self, if_false, decide_false, Bool.false_and, Bool.false_eq_true]

/-- The code of an event on a board that is a right scene. -/
theorem codeM_any {B : Nat → Prop} {b b1 b2 b3 b4 n : Nat} {m : Scn} (e : Ev) (w : World) (h : BoardM B w b b1 b2 b3 b4 n m) (hm : scB m = true) (hs : Shapes w) (ho : I64 e.o) :
    Calls Tryz.prog 48 #[.pointer (some ⟨b, 0, none⟩), .agg #[.int .i64 e.k, .int .i64 e.g, .int .i64 e.o, .int .i64 e.w, .int .i64 e.l, .int .i64 e.s, .int .i64 e.f, .int .i64 e.t]] w fun x w' => x = .returned (.int .i64 (codeIn m e)) ∧ Fr w w' := by
  rw [← code_same hm e]
  obtain ⟨lo, ro, rn, rc, l1, l2, l3, -, l4, -⟩ := h.lookL ho
  obtain ⟨z, z1⟩ := h.lookO ho
  have hc := chanZ_in hm e.o
  have hn := count_in hm e.o
  rw [(count_z hm e.o).1] at hn
  exact codeFor_any b e w _ _ _ _ _ _ _ _ _ _ (fun u f => implOk_any e u (hs.fr f))
    (fun _ u f => lacksGor_any b m.g e u (f.cell h.c0))
    (fun _ u f => isHeld_any b b1 _ lo _ ro rn rc _ e u (f.cell h.c1) l1 (by omega) (l3.fr f) (fun v g => l4 v (f.trans g)))
    (fun _ u f => isNotHad_any b b1 _ lo _ ro rn rc _ e u (f.cell h.c1) l1 (by omega) (l3.fr f) (fun v g => l4 v (f.trans g)))
    (fun _ u f => isWrongChan_any b b2 _ _ e u (f.cell h.c2) (fun v g => h.lookC2 ho v (f.trans g)))
    (fun _ u f => isWronglyClosed_any b b2 _ e u (f.cell h.c2) (fun v g => h.lookC ho v (f.trans g)))
    (fun _ u f => isFull_any b b2 _ e u (f.cell h.c2) hc (fun v g => h.lookC ho v (f.trans g)))
    (fun _ u f => isWronglyEmpty_any b b2 _ e u (f.cell h.c2) (fun v g => h.lookC ho v (f.trans g)))
    (fun hE u f => isMiscounted_any b b2 b3 _ _ _ _ e u (f.cell h.c3) (f.cell h.c2) hn (evOk_s hE) (fun v g => h.lookN2 ho v (f.trans g)) (fun v g => h.lookC ho v (f.trans g)))
    (fun _ u f => isWrongOnce_any b b4 _ z e u (f.cell h.c4) (fun v g => z1 v (f.trans g)))
end Go.Proofs.YtihdablgnmkjnaaGreatDoor
/-
  What can be done leaves a right scene; what is found in a scene behind it.
-/
namespace Go.Proofs.YtihdablgnmkjnaaGreatDoor
open Go.RowKit

section lists
variable {α : Type} (key : α → Int) (x : α)

theorem fold_true : ∀ (xs out : List α), xs.foldl (setS key x) (out, true) = (out ++ xs.filter (fun y => !(key y == key x)), true)
  | [], out => by simp
  | y :: ys, out => by
    rw [List.foldl_cons]
    by_cases h : key y = key x
    · rw [setS_by h, fold_true ys out, List.filter_cons_of_neg (by simp [h])]
    · rw [setS_go h, fold_true ys (out ++ [y]), List.filter_cons_of_pos (by simp [h])]
      simp
theorem setL_del (xs : List α) : setL key x true xs = xs.filter (fun y => !(key y == key x)) := by
  unfold setL setP
  rw [fold_true]
  simp
theorem fold_false : ∀ (xs out : List α), (xs.map key).Pairwise (· < ·) → (if (xs.foldl (setS key x) (out, false)).2 then (xs.foldl (setS key x) (out, false)).1 else (xs.foldl (setS key x) (out, false)).1 ++ [x]) = out ++ xs.filter (fun y => decide (key y < key x)) ++ [x] ++ xs.filter (fun y => decide (key x < key y))
  | [], out, _ => by simp
  | y :: ys, out, h => by
    rw [List.map_cons, List.pairwise_cons] at h
    obtain ⟨h1, h2⟩ := h
    have h1 : ∀ z ∈ ys, key y < key z := fun z hz => h1 _ (List.mem_map_of_mem hz)
    rw [List.foldl_cons]
    by_cases hlt : key y < key x
    · rw [setS_on hlt, fold_false ys (out ++ [y]) h2, List.filter_cons_of_pos (by simpa using hlt), List.filter_cons_of_neg (by simp; omega)]
      simp
    · by_cases heq : key y = key x
      · rw [setS_at heq, fold_true]
        have e1 : ys.filter (fun z => !(key z == key x)) = ys.filter (fun z => decide (key x < key z)) := List.filter_congr fun z hz => by
          have := h1 z hz
          have q1 : ¬ key z = key x := by omega
          have q2 : key x < key z := by omega
          simp [q1, q2]
        have e2 : ys.filter (fun z => decide (key z < key x)) = [] := List.filter_eq_nil_iff.2 fun z hz => by
          have := h1 z hz
          simp; omega
        rw [List.filter_cons_of_neg (by simp; omega), List.filter_cons_of_neg (by simp; omega), e1, e2]
        simp
      · have hgt : key x < key y := by omega
        rw [setS_in hgt, fold_true]
        have e1 : ys.filter (fun z => !(key z == key x)) = ys.filter (fun z => decide (key x < key z)) := List.filter_congr fun z hz => by
          have := h1 z hz
          have q1 : ¬ key z = key x := by omega
          have q2 : key x < key z := by omega
          simp [q1, q2]
        have e2 : ys.filter (fun z => decide (key z < key x)) = [] := List.filter_eq_nil_iff.2 fun z hz => by
          have := h1 z hz
          simp; omega
        rw [List.filter_cons_of_neg (by simp; omega), List.filter_cons_of_pos (by simpa using hgt), e1, e2]
        simp
theorem setL_put (xs : List α) (h : (xs.map key).Pairwise (· < ·)) : setL key x false xs = xs.filter (fun y => decide (key y < key x)) ++ [x] ++ xs.filter (fun y => decide (key x < key y)) := by
  have h2 := fold_false key x xs [] h
  unfold setL setP
  cases hb : (xs.foldl (setS key x) ([], false)).2 <;> rw [hb] at h2 <;> simpa using h2

/-- Rising stays rising. -/
theorem rise_setL (put : Bool) (xs : List α) (h : (xs.map key).Pairwise (· < ·)) : ((setL key x put xs).map key).Pairwise (· < ·) := by
  have h := List.pairwise_map.1 h
  cases put
  · rw [setL_put key x xs (List.pairwise_map.2 h)]
    refine List.pairwise_map.2 ?_
    rw [List.append_assoc, List.pairwise_append]
    refine ⟨h.sublist List.filter_sublist, ?_, fun a ha b hb => ?_⟩
    · rw [List.singleton_append, List.pairwise_cons]
      exact ⟨fun b hb => by have := (List.mem_filter.1 hb).2; simpa using this, h.sublist List.filter_sublist⟩
    · have ha := (List.mem_filter.1 ha).2
      simp only [decide_eq_true_eq] at ha
      rcases List.mem_append.1 hb with hb | hb
      · rw [List.mem_singleton.1 hb]; exact ha
      · have hb := (List.mem_filter.1 hb).2
        simp only [decide_eq_true_eq] at hb
        omega
  · rw [setL_del]
    exact List.pairwise_map.2 (h.sublist List.filter_sublist)
theorem mem_setL (put : Bool) (xs : List α) (h : (xs.map key).Pairwise (· < ·)) : ∀ y ∈ setL key x put xs, y ∈ xs ∨ (put = false ∧ y = x) := by
  intro y hy
  cases put
  · rw [setL_put key x xs h] at hy
    rcases List.mem_append.1 hy with hy | hy
    · rcases List.mem_append.1 hy with hy | hy
      · exact .inl (List.mem_filter.1 hy).1
      · exact .inr ⟨rfl, List.mem_singleton.1 hy⟩
    · exact .inl (List.mem_filter.1 hy).1
  · rw [setL_del] at hy
    exact .inl (List.mem_filter.1 hy).1
theorem find_filter (p : α → Bool) (o : Int) : ∀ (xs : List α), (∀ y, key y = o → p y = true) → (xs.filter p).find? (fun y => key y == o) = xs.find? (fun y => key y == o)
  | [], _ => rfl
  | y :: ys, h => by
    by_cases hy : key y = o
    · rw [List.filter_cons_of_pos (h y hy), List.find?_cons, List.find?_cons]
      simp [hy]
    · have e : (key y == o) = false := by simpa using hy
      cases hp : p y
      · rw [List.filter_cons_of_neg (by simp [hp]), find_filter p o ys h, List.find?_cons, e]
      · rw [List.filter_cons_of_pos hp, List.find?_cons, List.find?_cons, e, find_filter p o ys h]
theorem find_out (p : α → Bool) (o : Int) (xs : List α) (h : ∀ y, key y = o → p y = false) : (xs.filter p).find? (fun y => key y == o) = none :=
  List.find?_eq_none.2 fun y hy => by
    have hp := (List.mem_filter.1 hy).2
    intro q
    rw [h y (by simpa using q)] at hp
    cases hp
/-- What is found behind it. -/
theorem find_setL (put : Bool) (xs : List α) (h : (xs.map key).Pairwise (· < ·)) (o : Int) : (setL key x put xs).find? (fun y => key y == o) = if o = key x then (if put = true then none else some x) else xs.find? (fun y => key y == o) := by
  by_cases ho : o = key x
  · rw [if_pos ho]
    subst ho
    cases put
    · rw [setL_put key x xs h, List.append_assoc, List.find?_append, find_out key _ _ xs (fun y hy => by simp; omega)]
      simp
    · rw [setL_del, find_out key _ _ xs (fun y hy => by simp [hy])]
      simp
  · rw [if_neg ho]
    cases put
    · rw [setL_put key x xs h, List.append_assoc, List.find?_append, List.singleton_append, List.find?_cons, show (key x == o) = false by simpa using fun q => ho q.symm]
      by_cases hlt : o < key x
      · rw [find_filter key (fun y => decide (key y < key x)) o xs (fun y hy => by simp; omega), find_out key (fun y => decide (key x < key y)) o xs (fun y hy => by simp; omega)]
        simp
      · rw [find_out key (fun y => decide (key y < key x)) o xs (fun y hy => by simp; omega), find_filter key (fun y => decide (key x < key y)) o xs (fun y hy => by simp; omega)]
        simp
    · rw [setL_del, find_filter key _ o xs (fun y hy => by simp; omega)]
end lists

/-- withL of a rising list that has not the number. -/
theorem inP_true (x : Int) : ∀ (xs out : List Int), xs.foldl (inS x) (out, true) = (out ++ xs, true)
  | [], out => by simp
  | y :: ys, out => by
    rw [List.foldl_cons, show inS x (out, true) y = (out ++ [y], true) by simp [inS], inP_true x ys]
    simp
theorem inP_false (x : Int) : ∀ (xs out : List Int), xs.Pairwise (· < ·) → (if (xs.foldl (inS x) (out, false)).2 then (xs.foldl (inS x) (out, false)).1 else (xs.foldl (inS x) (out, false)).1 ++ [x]) = out ++ xs.filter (fun y => decide (y ≤ x)) ++ [x] ++ xs.filter (fun y => decide (x < y))
  | [], out, _ => by simp
  | y :: ys, out, h => by
    rw [List.pairwise_cons] at h
    obtain ⟨h1, h2⟩ := h
    rw [List.foldl_cons]
    by_cases hlt : x < y
    · rw [show inS x (out, false) y = (out ++ [x] ++ [y], true) by simp [inS, hlt], inP_true]
      have e1 : ys.filter (fun z => decide (x < z)) = ys := List.filter_eq_self.2 fun z hz => by
        have := h1 z hz
        simp; omega
      have e2 : ys.filter (fun z => decide (z ≤ x)) = [] := List.filter_eq_nil_iff.2 fun z hz => by
        have := h1 z hz
        simp; omega
      rw [List.filter_cons_of_neg (by simp; omega), List.filter_cons_of_pos (by simpa using hlt), e1, e2]
      simp
    · rw [show inS x (out, false) y = (out ++ [y], false) by simp [inS, hlt], inP_false x ys _ h2, List.filter_cons_of_pos (by simp; omega), List.filter_cons_of_neg (by simpa using hlt)]
      simp
theorem withL_eq (xs : List Int) (x : Int) (h : xs.Pairwise (· < ·)) : withL xs x = xs.filter (fun y => decide (y ≤ x)) ++ [x] ++ xs.filter (fun y => decide (x < y)) := by
  have h2 := inP_false x xs [] h
  unfold withL inP
  cases hb : (xs.foldl (inS x) ([], false)).2 <;> rw [hb] at h2 <;> simpa using h2
theorem mem_withL (xs : List Int) (x : Int) (h : xs.Pairwise (· < ·)) (y : Int) : y ∈ withL xs x ↔ y ∈ xs ∨ y = x := by
  rw [withL_eq xs x h]
  simp only [List.mem_append, List.mem_filter, decide_eq_true_eq, List.mem_singleton]
  constructor
  · rintro ((h | h) | h)
    · exact .inl h.1
    · exact .inr h
    · exact .inl h.1
  · rintro (h | h)
    · by_cases q : y ≤ x
      · exact .inl (.inl ⟨h, q⟩)
      · exact .inr ⟨h, by omega⟩
    · exact .inl (.inr h)
theorem rise_withL (xs : List Int) (x : Int) (h : xs.Pairwise (· < ·)) (hx : memB xs x = false) : (withL xs x).Pairwise (· < ·) := by
  have hn : ∀ y ∈ xs, y ≠ x := fun y hy e => by
    rw [memB, List.any_eq_false] at hx
    exact hx y hy (by simp [e])
  rw [withL_eq xs x h, List.append_assoc, List.pairwise_append]
  refine ⟨h.sublist List.filter_sublist, ?_, fun a ha b hb => ?_⟩
  · rw [List.singleton_append, List.pairwise_cons]
    exact ⟨fun b hb => by have := (List.mem_filter.1 hb).2; simpa using this, h.sublist List.filter_sublist⟩
  · obtain ⟨ha1, ha2⟩ := List.mem_filter.1 ha
    have hne := hn a ha1
    simp only [decide_eq_true_eq] at ha2
    rcases List.mem_append.1 hb with hb | hb
    · rw [List.mem_singleton.1 hb]; omega
    · have hb := (List.mem_filter.1 hb).2
      simp only [decide_eq_true_eq] at hb
      omega
theorem find_self (o : Int) : ∀ (xs : List Int), xs.find? (fun y => y == o) = if o ∈ xs then some o else none
  | [] => by simp
  | y :: ys => by
    rw [List.find?_cons]
    by_cases h : y = o
    · simp [h]
    · have e : (y == o) = false := by simpa using h
      have e2 : ¬ o = y := fun q => h q.symm
      rw [e, find_self o ys]
      simp [e2]
end Go.Proofs.YtihdablgnmkjnaaGreatDoor
/-
  What can be done leaves a right scene.
-/
namespace Go.Proofs.YtihdablgnmkjnaaGreatDoor
open Go.RowKit

theorem evOk_o {e : Ev} (h : evOk e = true) : 0 ≤ e.o ∧ e.o ≤ 15 := by
  unfold evOk at h
  simp only [Bool.and_eq_true] at h
  have h1 := h.1.1.1.1.1.2
  unfold ev1 fitB at h1
  split at h1
  · exact inB_true h1
  · have : e.o = 0 := by simpa using h1
    omega
theorem evOk_make {e : Ev} (h : evOk e = true) (hk : e.k = 6) : 0 ≤ e.s ∧ e.s ≤ 8 := by
  unfold evOk at h
  simp only [Bool.and_eq_true] at h
  have h4 := h.1.1.2
  unfold ev4 at h4
  rw [hk] at h4
  have : hasB 6 8 = true := by decide
  rw [this] at h4
  exact inB_true h4
theorem lkB_iff (g : Int) (l : Lk) : lkB g l = true ↔ ((∀ x ∈ l.rd, 0 ≤ x ∧ x ≤ g - 1) ∧ l.rd.Pairwise (· < ·)) ∧ (0 ≤ l.o ∧ l.o ≤ 15) ∧ (-1 ≤ l.wr ∧ l.wr ≤ g - 1) ∧ ((0 ≤ l.wr ∧ l.rd = []) ∨ (l.wr < 0 ∧ l.rd ≠ [])) := by
  unfold lkB
  rw [Bool.and_eq_true, Bool.and_eq_true, Bool.and_eq_true, rdB_iff]
  have e : (!(decide (0 ≤ l.wr) == decide (0 < l.rd.length))) = true ↔ ((0 ≤ l.wr ∧ l.rd = []) ∨ (l.wr < 0 ∧ l.rd ≠ [])) := by
    have e1 : 0 < l.rd.length ↔ l.rd ≠ [] := List.length_pos_iff
    by_cases h1 : 0 ≤ l.wr <;> by_cases h2 : l.rd = []
    · simp [h1, h2]
    · have := e1.2 h2
      simp [h1, h2, this]
    · simp [h1, h2]
    · have := e1.2 h2
      simp [h1, h2, this]; omega
  rw [e]
  constructor
  · rintro ⟨h1, h2, h3, h4⟩; exact ⟨h1, inB_true h2, inB_true h3, h4⟩
  · rintro ⟨h1, h2, h3, h4⟩; exact ⟨h1, inB_mk h2.1 h2.2, inB_mk h3.1 h3.2, h4⟩
theorem scB_iff (m : Scn) : scB m = true ↔ (1 ≤ m.g ∧ m.g ≤ 16) ∧ ((∀ x ∈ m.ls, lkB m.g x = true) ∧ (m.ls.map Lk.o).Pairwise (· < ·)) ∧ ((∀ x ∈ m.cs, chB x = true) ∧ (m.cs.map Ch.o).Pairwise (· < ·)) ∧ ((∀ x ∈ m.gs, ctB x = true) ∧ (m.gs.map Ct.o).Pairwise (· < ·)) ∧ ((∀ x ∈ m.os, 0 ≤ x ∧ x ≤ 15) ∧ m.os.Pairwise (· < ·)) := by
  unfold scB
  rw [Bool.and_eq_true, Bool.and_eq_true, Bool.and_eq_true, Bool.and_eq_true, rowB_iff, rowB_iff, rowB_iff, rowB_iff]
  have e : m.os.map (fun x => x) = m.os := by simp
  rw [e]
  constructor
  · rintro ⟨h1, h2, h3, h4, h5, h6⟩; exact ⟨inB_true h1, h2, h3, h4, fun x hx => inB_true (h5 x hx), h6⟩
  · rintro ⟨h1, h2, h3, h4, h5, h6⟩; exact ⟨inB_mk h1.1 h1.2, h2, h3, h4, fun x hx => inB_mk (h5 x hx).1 (h5 x hx).2, h6⟩
/-- The lock of an object: right, or nobody has it. -/
theorem lock_all {m : Scn} (h : scB m = true) (o : Int) : (lockOf m.ls o).o = o ∧ (lockOf m.ls o = ⟨o, -1, []⟩ ∨ lkB m.g (lockOf m.ls o) = true) := by
  have h1 := ((scB_iff m).1 h).2.1.1
  unfold lockOf
  cases hf : m.ls.find? fun l => l.o == o with
  | none => exact ⟨rfl, .inl rfl⟩
  | some l => exact ⟨by simpa using List.find?_some hf, .inr (h1 l (List.mem_of_find?_eq_some hf))⟩
theorem chan_o (cs : List Ch) (o : Int) : (chanOf cs o).o = o := by
  unfold chanOf
  cases hf : cs.find? fun l => l.o == o with
  | none => rfl
  | some l => simpa using List.find?_some hf

theorem set_lk {m : Scn} (h : scB m = true) (l : Lk) (hl : lkFree l = false → lkB m.g l = true) : scB (setLk m l) = true := by
  obtain ⟨h1, ⟨h2, h3⟩, h4⟩ := (scB_iff m).1 h
  refine (scB_iff _).2 ⟨h1, ⟨fun x hx => ?_, rise_setL Lk.o l _ _ h3⟩, h4⟩
  rcases mem_setL Lk.o l _ _ h3 x hx with q | ⟨q1, q2⟩
  · exact h2 x q
  · rw [q2]; exact hl q1
theorem set_ch {m : Scn} (h : scB m = true) (c : Ch) (hc : chB c = true) : scB (setCh m c) = true := by
  obtain ⟨h1, h2, ⟨h3, h4⟩, h5⟩ := (scB_iff m).1 h
  refine (scB_iff _).2 ⟨h1, h2, ⟨fun x hx => ?_, rise_setL Ch.o c _ _ h4⟩, h5⟩
  rcases mem_setL Ch.o c _ _ h4 x hx with q | ⟨q1, q2⟩
  · exact h3 x q
  · rw [q2]; exact hc
theorem set_ct {m : Scn} (h : scB m = true) (o n : Int) (hc : n ≠ 0 → ctB ⟨o, n⟩ = true) : scB (setCt m o n) = true := by
  obtain ⟨h1, h2, h3, ⟨h4, h5⟩, h6⟩ := (scB_iff m).1 h
  refine (scB_iff _).2 ⟨h1, h2, h3, ⟨fun x hx => ?_, rise_setL Ct.o ⟨o, n⟩ _ _ h5⟩, h6⟩
  rcases mem_setL Ct.o ⟨o, n⟩ _ _ h5 x hx with q | ⟨q1, q2⟩
  · exact h4 x q
  · rw [q2]; exact hc (by simpa using q1)
theorem chB_mk {c : Ch} (h1 : 0 ≤ c.o ∧ c.o ≤ 15) (h2 : 0 ≤ c.cap ∧ c.cap ≤ 8) (h3 : 0 ≤ c.sent ∧ c.sent ≤ 1000000) (h4 : 0 ≤ c.got ∧ c.got ≤ c.sent) (h5 : c.sent ≤ c.got + c.cap) : chB c = true := by
  unfold chB
  simp only [Bool.and_eq_true, decide_eq_true_eq]
  exact ⟨inB_mk h1.1 h1.2, inB_mk h2.1 h2.2, inB_mk h3.1 h3.2, inB_mk h4.1 h4.2, h5⟩
theorem memB_iff (xs : List Int) (x : Int) : memB xs x = true ↔ x ∈ xs := by
  unfold memB
  rw [List.any_eq_true]
  constructor
  · rintro ⟨y, hy, e⟩
    have : y = x := by simpa using e
    rwa [← this]
  · intro h
    exact ⟨x, h, by simp⟩

/-- The parts of 'it can be done'. -/
theorem code_parts {m : Scn} {e : Ev} (h : codeIn m e = 0) : evOk e = true ∧ scB m = true ∧ ¬ gorBad m e ∧ restCode m e = 0 := by
  unfold codeIn at h
  split at h
  · cases h
  · rename_i h1
    split at h
    · cases h
    · rename_i h2
      refine ⟨?_, ?_, h2, h⟩
      · cases q : evOk e
        · exact absurd (.inl q) h1
        · rfl
      · cases q : scB m
        · exact absurd (.inr q) h1
        · rfl

set_option maxHeartbeats 1000000 in
theorem do_ok {m : Scn} {e : Ev} (h : codeIn m e = 0) : scB (doS m e) = true := by
  obtain ⟨hE, hm, hG, hR⟩ := code_parts h
  obtain ⟨⟨k1, k2⟩, g1, g2⟩ := evOk_k hE
  obtain ⟨o1, o2⟩ := evOk_o hE
  have hg : e.g < m.g := by
    unfold gorBad at hG
    omega
  have HS := (scB_iff m).1 hm
  unfold doS
  split
  · rename_i hk
    have ho : e.o = m.g := by
      unfold gorBad at hG
      omega
    obtain ⟨h1, ⟨h2, h3⟩, h4⟩ := HS
    refine (scB_iff _).2 ⟨by simp only; omega, ⟨fun x hx => ?_, h3⟩, h4⟩
    obtain ⟨⟨q1, q2⟩, q3, q4, q5⟩ := (lkB_iff _ _).1 (h2 x hx)
    exact (lkB_iff _ _).2 ⟨⟨fun y hy => by have := q1 y hy; simp only; omega, q2⟩, q3, by simp only; omega, q5⟩
  split
  · rename_i hk0 hk
    refine set_lk hm _ fun hf => ?_
    obtain ⟨lo, ll⟩ := lock_all hm e.o
    obtain ⟨L, hL⟩ : ∃ L, L = lockOf m.ls e.o := ⟨_, rfl⟩
    unfold restCode at hR
    rw [if_pos hk] at hR
    unfold lockCode at hR
    unfold lockTo at hf ⊢
    rw [← hL] at lo ll hR hf ⊢
    by_cases k2 : e.k = 2
    · rw [if_pos k2] at hR hf ⊢
      split at hR
      · cases hR
      · rename_i hq
        have hw : ¬ 0 ≤ L.wr := fun q => hq (.inl q)
        have hd : L.rd = [] := List.eq_nil_of_length_eq_zero (by have : ¬ 0 < L.rd.length := fun q => hq (.inr q); omega)
        exact (lkB_iff _ _).2 ⟨⟨by simp [hd], by simp [hd]⟩, by simp only; omega, by simp only; omega, .inl ⟨g1, hd⟩⟩
    rw [if_neg k2] at hR hf ⊢
    by_cases k4 : e.k = 4
    · have k3 : ¬ e.k = 3 := by omega
      rw [if_pos k4] at hR
      rw [if_neg k3, if_pos k4] at hf ⊢
      split at hR
      · cases hR
      · rename_i hq
        have hw : ¬ 0 ≤ L.wr := fun q => hq (.inl q)
        have hd : memB L.rd e.g = false := by
          cases q : memB L.rd e.g
          · rfl
          · exact absurd (.inr q) hq
        have hp : (∀ x ∈ L.rd, 0 ≤ x ∧ x ≤ m.g - 1) ∧ L.rd.Pairwise (· < ·) ∧ -1 ≤ L.wr := by
          rcases ll with q | q
          · rw [q]; simp
          · obtain ⟨q1, q2, q3, q4⟩ := (lkB_iff _ _).1 q
            exact ⟨q1.1, q1.2, q3.1⟩
        refine (lkB_iff _ _).2 ⟨⟨fun x hx => ?_, rise_withL _ _ hp.2.1 hd⟩, by simp only; omega, by simp only; omega, .inr ⟨by simp only; omega, fun q => ?_⟩⟩
        · rcases (mem_withL _ _ hp.2.1 x).1 hx with q | q
          · exact hp.1 x q
          · omega
        · have := (mem_withL _ _ hp.2.1 e.g).2 (.inr rfl)
          simp only at q
          rw [q] at this
          simp at this
    rw [if_neg k4] at hR
    by_cases k3 : e.k = 3
    · rw [if_pos k3] at hR hf ⊢
      split at hR
      · rename_i hq
        have hd : L.rd = [] := by
          rcases ll with q | q
          · rw [q]
          · obtain ⟨q1, q2, q3, q4⟩ := (lkB_iff _ _).1 q
            rcases q4 with q4 | q4
            · exact q4.2
            · omega
        simp [lkFree, hd] at hf
      · cases hR
    have k5 : e.k = 5 := by omega
    rw [if_neg k3, if_pos k5] at hR
    rw [if_neg k3, if_neg k4] at hf ⊢
    split at hR
    · rename_i hq
      have hin := (memB_iff _ _).1 hq
      rcases ll with q | q
      · rw [q] at hin; simp at hin
      · obtain ⟨q1, q2, q3, q4⟩ := (lkB_iff _ _).1 q
        have hw : L.wr < 0 := by
          rcases q4 with q4 | q4
          · rw [q4.2] at hin; simp at hin
          · exact q4.1
        refine (lkB_iff _ _).2 ⟨⟨fun x hx => q1.1 x (List.mem_filter.1 hx).1, q1.2.sublist List.filter_sublist⟩, q2, q3, .inr ⟨hw, fun q => ?_⟩⟩
        simp only at q
        simp [lkFree, hw, q] at hf
    · cases hR
  split
  · rename_i hk0 hk1 hk
    refine set_ch hm _ ?_
    have hcc := chan_in hm e.o
    have hco := chan_o m.cs e.o
    unfold restCode at hR
    rw [if_neg hk1, if_pos (by omega)] at hR
    unfold chanCode at hR
    unfold chanTo
    rcases chan_z m e.o with ⟨z1, z2, -⟩ | ⟨z1, z2⟩
    · rw [z1, z2] at hR
      by_cases k6 : e.k = 6
      · rw [if_pos k6, z2]
        have hs := evOk_make hE k6
        exact chB_mk ⟨o1, o2⟩ hs (by simp) (by simp) (by simp only; omega)
      · simp [k6] at hR
    · rw [z1] at hR
      obtain ⟨C, hC⟩ : ∃ C, C = chanOf m.cs e.o := ⟨_, rfl⟩
      rw [← hC] at hcc hR hco ⊢
      by_cases k6 : e.k = 6
      · simp [k6] at hR
      rw [if_neg k6]
      by_cases k7 : e.k = 7
      · rw [if_pos k7]
        simp only [k7] at hR
        by_cases q1 : C.cap = 0
        · simp [q1] at hR
        by_cases q2 : C.cl = true
        · simp [q1, q2] at hR
        by_cases q3 : C.sent - C.got = C.cap
        · simp [q1, q2, q3] at hR
        by_cases q4 : C.sent = 1000000
        · simp [q1, q2, q4] at hR
          omega
        exact chB_mk (by simp only; omega) (by simp only; omega) (by simp only; omega) (by simp only; omega) (by simp only; omega)
      rw [if_neg k7]
      by_cases k8 : e.k = 8
      · rw [if_pos k8]
        simp only [k8] at hR
        by_cases q1 : C.cap = 0
        · simp [q1] at hR
        by_cases q3 : C.sent = C.got
        · simp [q1, q3] at hR
        exact chB_mk (by simp only; omega) (by simp only; omega) (by simp only; omega) (by simp only; omega) (by simp only; omega)
      rw [if_neg k8]
      exact chB_mk (by simp only; omega) (by simp only; omega) (by simp only; omega) (by simp only; omega) (by simp only; omega)
  split
  · rename_i hk0 hk1 hk2 hk
    have hc := count_in hm e.o
    have hs := evOk_add hE hk
    unfold restCode at hR
    rw [if_neg hk1, if_neg (by omega), if_neg (by omega), if_neg (by omega), if_pos hk] at hR
    refine set_ct hm _ _ fun _ => ?_
    split at hR
    · cases hR
    · unfold ctB
      rw [Bool.and_eq_true]
      exact ⟨inB_mk o1 o2, inB_mk (by simp only; omega) (by simp only; omega)⟩
  split
  · rename_i hk0 hk1 hk2 hk3 hk
    have hc := count_in hm e.o
    refine set_ct hm _ _ fun hn => ?_
    unfold restCode at hR
    rw [if_neg hk1, if_neg (by omega), if_pos hk] at hR
    split at hR
    · cases hR
    · unfold ctB
      rw [Bool.and_eq_true]
      exact ⟨inB_mk o1 o2, inB_mk (by simp only; omega) (by simp only; omega)⟩
  split
  · rename_i hk0 hk1 hk2 hk3 hk4 hk
    obtain ⟨h1, h2, h3, h4, h5, h6⟩ := HS
    have hn : memB m.os e.o = false := by
      unfold restCode at hR
      rw [if_neg hk1, if_neg (by omega), if_neg (by omega), if_neg (by omega), if_neg (by omega), if_pos (.inl hk)] at hR
      cases q : memB m.os e.o
      · rfl
      · simp [q, hk] at hR
    refine (scB_iff _).2 ⟨h1, h2, h3, h4, fun x hx => ?_, rise_withL _ _ h6 hn⟩
    rcases (mem_withL _ _ h6 x).1 hx with q | q
    · exact h5 x q
    · omega
  · exact hm
end Go.Proofs.YtihdablgnmkjnaaGreatDoor
