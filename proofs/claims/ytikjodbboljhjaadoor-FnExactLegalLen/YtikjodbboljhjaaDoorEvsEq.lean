/-
  The walks of the laws' eqEvent and eqEventS of like events.
-/
import Derived.Test.YtikjodbboljhjaaDoorEvsTo
namespace Go.Proofs.YtikjodbboljhjaaDoor
open Go.RowKit

set_option maxHeartbeats 1000000 in
theorem eqEv_same (e : Ev) (w : World) :
    Calls Tryd.prog 16 #[.agg #[.int .i64 e.k, .int .i64 e.g, .int .i64 e.o, .int .i64 e.w, .int .i64 e.l, .int .i64 e.s, .int .i64 e.f, .int .i64 e.t], .agg #[.int .i64 e.k, .int .i64 e.g, .int .i64 e.o, .int .i64 e.w, .int .i64 e.l, .int .i64 e.s, .int .i64 e.f, .int .i64 e.t]] w fun x w' => x = .returned (.bool true) ∧ Fr w w' := by
  obtain ⟨k, g, o, wi, l, sz, f, t⟩ := e
  simp only
  go_enter Tryd.func16, Tryd.ntmps16
  go_wp2_with fail
  go_ret
  exact ⟨rfl, (Fr.alloc _ _).trans (Fr.alloc _ _)⟩

set_option maxHeartbeats 2000000 in
theorem eqEs_same (ao bo : Option Addr) (n c d : Nat) (es : List Ev) (w : World) (hn : es.length = n) (h : ReadsE w ao es) (h' : ReadsE w bo es) :
    Calls Tryd.prog 9 #[.slice ao n c, .slice bo n d] w fun e w' => e = .returned (.bool true) ∧ Fr w w' := by
  subst hn
  have hl := h.len
  go_enter Tryd.func9, Tryd.ntmps9
  go_wp2_with fail
  go_loopw [5] (fun i wr => ∃ k : Nat, k ≤ es.length ∧ i = .int .i64 k ∧ Fr w wr) (fun i _ => es.length - (intOf i).toNat)
  case atStart => exact ⟨0, Nat.zero_le _, rfl, Fr.refl _⟩
  case round =>
    obtain ⟨k, hk, rfl, hf⟩ := hrel
    by_cases hlt : k < es.length
    · obtain ⟨b, off, rfl, hc⟩ := (h.fr hf).at_ k hlt
      obtain ⟨b', off', rfl, hc'⟩ := (h'.fr hf).at_ k hlt
      have hk1 := hc k hlt
      have hk2 := hc' k hlt
      obtain ⟨e, he⟩ : ∃ e, e = es[k] := ⟨_, rfl⟩
      rw [← he] at hk1 hk2
      clear hc hc' he
      have cE := fun w => eqEv_same e w
      have := Later.some wr
      have p0 := fun s : Later wr => s.fr.cell hk1.c0
      have p1 := fun s : Later wr => s.fr.cell hk1.c1
      have p2 := fun s : Later wr => s.fr.cell hk1.c2
      have p3 := fun s : Later wr => s.fr.cell hk1.c3
      have p4 := fun s : Later wr => s.fr.cell hk1.c4
      have p5 := fun s : Later wr => s.fr.cell hk1.c5
      have p6 := fun s : Later wr => s.fr.cell hk1.c6
      have p7 := fun s : Later wr => s.fr.cell hk1.c7
      have r0 := fun s : Later wr => s.fr.cell hk2.c0
      have r1 := fun s : Later wr => s.fr.cell hk2.c1
      have r2 := fun s : Later wr => s.fr.cell hk2.c2
      have r3 := fun s : Later wr => s.fr.cell hk2.c3
      have r4 := fun s : Later wr => s.fr.cell hk2.c4
      have r5 := fun s : Later wr => s.fr.cell hk2.c5
      have r6 := fun s : Later wr => s.fr.cell hk2.c6
      have r7 := fun s : Later wr => s.fr.cell hk2.c7
      clear hk1 hk2
      go_wp2_with fail
      refine wp_region_grown (by kernel_rfl) (by kernel_rfl) ?_
      repeat (go_big_quiet_step (with_reducible exact Calls.grown_of (cE _)))
      refine wpQuiet_nil ?_
      rintro _ ⟨s, rfl⟩
      go_wp2_with fail
      go_roundw
      case rel => exact ⟨k + 1, by omega, by go_num, hf.trans s.fr⟩
      case measure => simp [intOf]; omega
    · go_wp2_with fail
      go_ret
      exact ⟨rfl, hf⟩
end Go.Proofs.YtikjodbboljhjaaDoor
