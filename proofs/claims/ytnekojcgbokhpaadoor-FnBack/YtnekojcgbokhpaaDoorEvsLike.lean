/-
  The walk of the laws' likeEvents, of two like lists.
-/
import Derived.Test.YtnekojcgbokhpaaDoorEvs
import Derived.Test.YtnekojcgbokhpaaDoorGrown
namespace Go.Proofs.YtnekojcgbokhpaaDoor
open Go.RowKit

set_option maxHeartbeats 1000000 in
theorem likeEs_same (ao bo : Option Addr) (n c d : Nat) (es : List Ev) (w : World) (hn : es.length = n) (h : ReadsE w ao es) (h' : ReadsE w bo es) :
    Calls Tryd.prog 11 #[.slice ao n c, .slice bo n d] w fun e w' => e = .returned (.bool true) ∧ Fr w w' := by
  subst hn
  have hl := h.len
  go_enter Tryd.func11, Tryd.ntmps11
  go_wp2_with fail
  go_loopw [5] (fun i wr => ∃ k : Nat, k ≤ es.length ∧ i = .int .i64 k ∧ Fr w wr) (fun i _ => es.length - (intOf i).toNat)
  case atStart => exact ⟨0, Nat.zero_le _, rfl, Fr.refl w⟩
  case round =>
    obtain ⟨k, hk, rfl, hf⟩ := hrel
    by_cases hlt : k < es.length
    · obtain ⟨b, off, rfl, hc⟩ := (h.fr hf).at_ k hlt
      obtain ⟨b', off', rfl, hc'⟩ := (h'.fr hf).at_ k hlt
      obtain ⟨a0, a1, a2, a3, a4, a5, a6, a7⟩ := hc k hlt
      obtain ⟨x0, x1, x2, x3, x4, x5, x6, x7⟩ := hc' k hlt
      obtain ⟨e, he⟩ : ∃ e, e = es[k] := ⟨_, rfl⟩
      simp only [← he] at a0 a1 a2 a3 a4 a5 a6 a7 x0 x1 x2 x3 x4 x5 x6 x7
      clear hc hc' he
      have := Later.some wr
      have p0 : ∀ s : Later wr, s.u.cell? ⟨b, off + k * 8, none⟩ = some (.int .i64 e.k) := fun s => s.fr.cell a0
      have p1 : ∀ s : Later wr, s.u.cell? ⟨b, off + k * 8 + 1, none⟩ = some (.int .i64 e.g) := fun s => s.fr.cell a1
      have p2 : ∀ s : Later wr, s.u.cell? ⟨b, off + k * 8 + 2, none⟩ = some (.int .i64 e.o) := fun s => s.fr.cell a2
      have p3 : ∀ s : Later wr, s.u.cell? ⟨b, off + k * 8 + 3, none⟩ = some (.int .i64 e.w) := fun s => s.fr.cell a3
      have p4 : ∀ s : Later wr, s.u.cell? ⟨b, off + k * 8 + 4, none⟩ = some (.int .i64 e.l) := fun s => s.fr.cell a4
      have p5 : ∀ s : Later wr, s.u.cell? ⟨b, off + k * 8 + 5, none⟩ = some (.int .i64 e.s) := fun s => s.fr.cell a5
      have p6 : ∀ s : Later wr, s.u.cell? ⟨b, off + k * 8 + 6, none⟩ = some (.int .i64 e.f) := fun s => s.fr.cell a6
      have p7 : ∀ s : Later wr, s.u.cell? ⟨b, off + k * 8 + 7, none⟩ = some (.int .i64 e.t) := fun s => s.fr.cell a7
      have q0 : ∀ s : Later wr, s.u.cell? ⟨b', off' + k * 8, none⟩ = some (.int .i64 e.k) := fun s => s.fr.cell x0
      have q1 : ∀ s : Later wr, s.u.cell? ⟨b', off' + k * 8 + 1, none⟩ = some (.int .i64 e.g) := fun s => s.fr.cell x1
      have q2 : ∀ s : Later wr, s.u.cell? ⟨b', off' + k * 8 + 2, none⟩ = some (.int .i64 e.o) := fun s => s.fr.cell x2
      have q3 : ∀ s : Later wr, s.u.cell? ⟨b', off' + k * 8 + 3, none⟩ = some (.int .i64 e.w) := fun s => s.fr.cell x3
      have q4 : ∀ s : Later wr, s.u.cell? ⟨b', off' + k * 8 + 4, none⟩ = some (.int .i64 e.l) := fun s => s.fr.cell x4
      have q5 : ∀ s : Later wr, s.u.cell? ⟨b', off' + k * 8 + 5, none⟩ = some (.int .i64 e.s) := fun s => s.fr.cell x5
      have q6 : ∀ s : Later wr, s.u.cell? ⟨b', off' + k * 8 + 6, none⟩ = some (.int .i64 e.f) := fun s => s.fr.cell x6
      have q7 : ∀ s : Later wr, s.u.cell? ⟨b', off' + k * 8 + 7, none⟩ = some (.int .i64 e.t) := fun s => s.fr.cell x7
      clear a0 a1 a2 a3 a4 a5 a6 a7 x0 x1 x2 x3 x4 x5 x6 x7
      go_wp2_with fail
      refine wp_region_grown (by kernel_rfl) (by kernel_rfl) ?_
      repeat (go_big_quiet_step (fail))
      refine wpQuiet_nil ?_
      rintro _ ⟨s, rfl⟩
      go_wp2_with fail
      go_roundw
      case rel => exact ⟨k + 1, by omega, by go_num, hf.trans s.fr⟩
      case measure => simp [intOf]; omega
    · go_wp2_with fail
      go_ret
      exact ⟨rfl, hf⟩
end Go.Proofs.YtnekojcgbokhpaaDoor
