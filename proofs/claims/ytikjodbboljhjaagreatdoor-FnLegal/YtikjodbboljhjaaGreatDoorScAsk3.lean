/-
  The program's questions on a board: full and empty channels.
-/
import Derived.Test.YtikjodbboljhjaaGreatDoorScAsk
namespace Go.Proofs.YtikjodbboljhjaaGreatDoor
open Go.RowKit

def fullB (c : Ch) (e : Ev) : Bool := decide (e.k = 7) && decide (c.sent - c.got = c.cap)
def emptyB (c : Ch) (e : Ev) : Bool := if e.k = 8 then decide (c.sent = c.got) else if e.k = 11 then decide (c.sent ≠ c.got) else false

set_option maxRecDepth 20000 in
set_option maxHeartbeats 1000000 in
theorem isFull_any (b b2 : Nat) (c : Ch) (e : Ev) (w : World) (hb : w.cell? ⟨b, 2, none⟩ = some (.map (some b2)))
    (hs : 0 ≤ c.got ∧ c.got ≤ c.sent ∧ c.sent ≤ 1000000) (hL : ∀ u, Fr w u → (Instr.lookup 128 (.map (some b2)) (.int .i64 e.o) false).run Tryz.prog u = .ok (.agg #[.int .i64 c.o, .int .i64 c.cap, .int .i64 c.sent, .int .i64 c.got, .bool c.cl]) u) :
    Calls Tryz.prog 117 #[.pointer (some ⟨b, 0, none⟩), .agg #[.int .i64 e.k, .int .i64 e.g, .int .i64 e.o, .int .i64 e.w, .int .i64 e.l, .int .i64 e.s, .int .i64 e.f, .int .i64 e.t]] w fun x w' => x = .returned (.bool (fullB c e)) ∧ Fr w w' := by
  have fW := Fr.alloc w (.cells #[.int .i64 e.k, .int .i64 e.g, .int .i64 e.o, .int .i64 e.w, .int .i64 e.l, .int .i64 e.s, .int .i64 e.f, .int .i64 e.t] 31)
  have kE := EvAt.new w e 31
  have hb := fW.cell hb
  obtain ⟨R, hR⟩ : ∃ R, R = fullB c e := ⟨_, rfl⟩
  rw [← hR]
  have HR : Hid (R = fullB c e) := hR
  clear hR
  obtain ⟨k, gr, o, wi, l, sz, f, t⟩ := e
  obtain ⟨co, cap, sent, got, cl⟩ := c
  simp only at fW kE hb hL hs ⊢
  go_enter Tryz.func117, Tryz.ntmps117
  go_wp2_with fail
  obtain ⟨W, hW⟩ : ∃ W, W = w.alloc (.cells #[.int .i64 k, .int .i64 gr, .int .i64 o, .int .i64 wi, .int .i64 l, .int .i64 sz, .int .i64 f, .int .i64 t] 31) := ⟨_, rfl⟩
  rw [← hW] at fW kE hb ⊢
  clear hW
  obtain ⟨c0, c1, c2, c3, c4, c5, c6, c7⟩ := kE
  simp only at c0 c2
  clear c1 c3 c4 c5 c6 c7
  have HL : Hid (∀ u, Fr w u → (Instr.lookup 128 (.map (some b2)) (.int .i64 o) false).run Tryz.prog u = .ok (.agg #[.int .i64 co, .int .i64 cap, .int .i64 sent, .int .i64 got, .bool cl]) u) := hL
  clear hL
  have l1 := HL.out _ (fW.trans (Fr.drew W))
  have l2 := HL.out _ ((fW.trans (Fr.alloc W (.cells #[.int .i64 0, .int .i64 0, .int .i64 0, .int .i64 0, .bool false] 82))).trans (Fr.drew _))
  go_region_held3 (fun u => u.cell? ⟨b, 2, none⟩ = some (.map (some b2)) ∧ u.cell? ⟨w.heap.size, 2, none⟩ = some (.int .i64 o)) (go_keep) (fail)
  all_goals (
    clear l1 l2 HL
    obtain ⟨V, hV⟩ : ∃ V, V = (W.alloc (.cells #[.int .i64 co, .int .i64 cap, .int .i64 sent, .int .i64 got, .bool cl] 82)).drew := ⟨_, rfl⟩
    have fA : Fr W V := by rw [hV]; exact (Fr.alloc _ _).trans (Fr.drew _)
    have fV : Fr w V := fW.trans fA
    have x0 := fA.cell c0
    have y1 : V.cell? ⟨W.heap.size, 1, none⟩ = some (.int .i64 cap) := by rw [hV]; simp [go_sem]
    have y2 : V.cell? ⟨W.heap.size, 2, none⟩ = some (.int .i64 sent) := by rw [hV]; simp [go_sem]
    have y3 : V.cell? ⟨W.heap.size, 3, none⟩ = some (.int .i64 got) := by rw [hV]; simp [go_sem]
    have y4 : V.cell? ⟨W.heap.size, 4, none⟩ = some (.bool cl) := by rw [hV]; simp [go_sem]
    rw [← hV]
    clear hV fA c0 c2 hb
    obtain ⟨s1, s2, s3⟩ := hs
    by_cases hk : k = 7
    · subst hk
      by_cases h2 : sent - got = cap
      · have HN : Hid (R = true) := by show R = true; rw [HR.out]; simp [fullB, h2]
        subst h2
        go_wp2_with fail
        go_ret
        exact ⟨ret_bool HN.out.symm, fV⟩
      · have HN : Hid (R = false) := by show R = false; rw [HR.out]; simp [fullB, h2]
        go_wp2_with fail
        go_ret
        first | exact ⟨ret_bool HN.out.symm, fV⟩ | exact ⟨ret_bool ((show (sent - got == cap) = false by simpa using h2).trans HN.out.symm), fV⟩
    · have HN : Hid (R = false) := by show R = false; rw [HR.out]; simp [fullB, hk]
      go_wp2_with fail
      go_ret
      exact ⟨ret_bool HN.out.symm, fV⟩)

set_option maxRecDepth 20000 in
set_option maxHeartbeats 1000000 in
theorem isWronglyEmpty_any (b b2 : Nat) (c : Ch) (e : Ev) (w : World) (hb : w.cell? ⟨b, 2, none⟩ = some (.map (some b2)))
    (hL : ∀ u, Fr w u → (Instr.lookup 128 (.map (some b2)) (.int .i64 e.o) false).run Tryz.prog u = .ok (.agg #[.int .i64 c.o, .int .i64 c.cap, .int .i64 c.sent, .int .i64 c.got, .bool c.cl]) u) :
    Calls Tryz.prog 118 #[.pointer (some ⟨b, 0, none⟩), .agg #[.int .i64 e.k, .int .i64 e.g, .int .i64 e.o, .int .i64 e.w, .int .i64 e.l, .int .i64 e.s, .int .i64 e.f, .int .i64 e.t]] w fun x w' => x = .returned (.bool (emptyB c e)) ∧ Fr w w' := by
  have fW := Fr.alloc w (.cells #[.int .i64 e.k, .int .i64 e.g, .int .i64 e.o, .int .i64 e.w, .int .i64 e.l, .int .i64 e.s, .int .i64 e.f, .int .i64 e.t] 31)
  have kE := EvAt.new w e 31
  have hb := fW.cell hb
  obtain ⟨R, hR⟩ : ∃ R, R = emptyB c e := ⟨_, rfl⟩
  rw [← hR]
  have HR : Hid (R = emptyB c e) := hR
  clear hR
  obtain ⟨k, gr, o, wi, l, sz, f, t⟩ := e
  obtain ⟨co, cap, sent, got, cl⟩ := c
  simp only at fW kE hb hL ⊢
  go_enter Tryz.func118, Tryz.ntmps118
  go_wp2_with fail
  obtain ⟨W, hW⟩ : ∃ W, W = w.alloc (.cells #[.int .i64 k, .int .i64 gr, .int .i64 o, .int .i64 wi, .int .i64 l, .int .i64 sz, .int .i64 f, .int .i64 t] 31) := ⟨_, rfl⟩
  rw [← hW] at fW kE hb ⊢
  clear hW
  obtain ⟨c0, c1, c2, c3, c4, c5, c6, c7⟩ := kE
  simp only at c0 c2
  clear c1 c3 c4 c5 c6 c7
  have HL : Hid (∀ u, Fr w u → (Instr.lookup 128 (.map (some b2)) (.int .i64 o) false).run Tryz.prog u = .ok (.agg #[.int .i64 co, .int .i64 cap, .int .i64 sent, .int .i64 got, .bool cl]) u) := hL
  clear hL
  have l1 := HL.out _ (fW.trans (Fr.drew W))
  have l2 := HL.out _ ((fW.trans (Fr.alloc W (.cells #[.int .i64 0, .int .i64 0, .int .i64 0, .int .i64 0, .bool false] 82))).trans (Fr.drew _))
  go_region_held3 (fun u => u.cell? ⟨b, 2, none⟩ = some (.map (some b2)) ∧ u.cell? ⟨w.heap.size, 2, none⟩ = some (.int .i64 o)) (go_keep) (fail)
  all_goals (
    clear l1 l2 HL
    obtain ⟨V, hV⟩ : ∃ V, V = (W.alloc (.cells #[.int .i64 co, .int .i64 cap, .int .i64 sent, .int .i64 got, .bool cl] 82)).drew := ⟨_, rfl⟩
    have fA : Fr W V := by rw [hV]; exact (Fr.alloc _ _).trans (Fr.drew _)
    have fV : Fr w V := fW.trans fA
    have x0 := fA.cell c0
    have y1 : V.cell? ⟨W.heap.size, 1, none⟩ = some (.int .i64 cap) := by rw [hV]; simp [go_sem]
    have y2 : V.cell? ⟨W.heap.size, 2, none⟩ = some (.int .i64 sent) := by rw [hV]; simp [go_sem]
    have y3 : V.cell? ⟨W.heap.size, 3, none⟩ = some (.int .i64 got) := by rw [hV]; simp [go_sem]
    have y4 : V.cell? ⟨W.heap.size, 4, none⟩ = some (.bool cl) := by rw [hV]; simp [go_sem]
    rw [← hV]
    clear hV fA c0 c2 hb
    rcases (show k = 8 ∨ k = 11 ∨ (k ≠ 8 ∧ k ≠ 11) by omega) with rfl | rfl | hk
    · by_cases h2 : sent = got
      · have HN : Hid (R = true) := by show R = true; rw [HR.out]; simp [emptyB, h2]
        subst h2
        go_wp2_with fail
        go_ret
        exact ⟨ret_bool HN.out.symm, fV⟩
      · have HN : Hid (R = false) := by show R = false; rw [HR.out]; simp [emptyB, h2]
        go_wp2_with fail
        go_ret
        first | exact ⟨ret_bool HN.out.symm, fV⟩ | exact ⟨ret_bool ((show (sent == got) = false by simpa using h2).trans HN.out.symm), fV⟩
    · by_cases h2 : sent = got
      · have HN : Hid (R = false) := by show R = false; rw [HR.out]; simp [emptyB, h2]
        subst h2
        go_wp2_with fail
        go_ret
        exact ⟨ret_bool HN.out.symm, fV⟩
      · have HN : Hid (R = true) := by show R = true; rw [HR.out]; simp [emptyB, h2]
        go_wp2_with fail
        go_ret
        first | exact ⟨ret_bool HN.out.symm, fV⟩ | exact ⟨ret_bool ((show (sent != got) = true by simpa using h2).trans HN.out.symm), fV⟩
    · obtain ⟨h8, h11⟩ := hk
      have HN : Hid (R = false) := by show R = false; rw [HR.out]; simp [emptyB, h8, h11]
      go_wp2_with fail
      go_ret
      exact ⟨ret_bool HN.out.symm, fV⟩)
end Go.Proofs.YtikjodbboljhjaaGreatDoor
