/-
  What the program's Encoded answers, under the laws' marks.
-/
import Derived.Test.YtlpmcfooaakdgaaDoorEncImpl
import Derived.Test.YtlpmcfooaakdgaaDoorBytesMark
namespace Go.Proofs.YtlpmcfooaakdgaaDoor
open Go.RowKit

/-- A slice of bytes of one's own, or the constant's three. -/
def Mk (w : World) (g n cap : Nat) (J : List Int) : Prop := (n = J.length ∧ OwnB w 0 (.slice (some ⟨g, 0, none⟩) n cap) J) ∨ (n = 3 ∧ cap = 3 ∧ J = [82, 50, 49] ∧ HdM w g)

theorem Mk.reads {w : World} {g n cap : Nat} {J : List Int} (h : Mk w g n cap J) : ReadsB w (some ⟨g, 0, none⟩) J ∧ J.length = n := by
  rcases h with ⟨rfl, h⟩ | ⟨rfl, rfl, rfl, h⟩
  · exact ⟨h.reads, rfl⟩
  · exact ⟨h.reads, rfl⟩
theorem Mk.keep {w w' : World} {g n cap : Nat} {J : List Int} {row : Option Nat} (h : Mk w g n cap J) (k : w.grownBy w' row) (hr : row ≠ some g) : Mk w' g n cap J := by
  rcases h with ⟨rfl, h⟩ | ⟨rfl, rfl, rfl, h⟩
  · exact .inl ⟨rfl, h.keep k (.inr (by simpa [Value.ownBlock] using Ne.symm hr))⟩
  · exact .inr ⟨rfl, rfl, rfl, h.keep k hr⟩
theorem Mk.fr {w w' : World} {g n cap : Nat} {J : List Int} (h : Mk w g n cap J) (k : Fr w w') : Mk w' g n cap J := h.keep k (by simp)
theorem EncR.mk {es : List Ev} {w w' : World} {v : Value} (h : EncR es w w' v) : ∃ g n cap, v = .slice (some ⟨g, 0, none⟩) n cap ∧ w.heap.size ≤ g ∧ g < w'.heap.size ∧ Mk w' g n cap (encA es) := by
  rcases h with ⟨g, cap, rfl, h⟩ | ⟨rfl, g, rfl, hg, h⟩
  · exact ⟨g, _, cap, rfl, (ownB_lt h).1, (ownB_lt h).2, .inl ⟨rfl, h.lower (Nat.zero_le _)⟩⟩
  · exact ⟨g, 3, 3, rfl, hg, h.lt, .inr ⟨rfl, rfl, rfl, h⟩⟩

theorem grown_tr' {a b c : World} {row : Option Nat} (h : a.grownBy b row) (k : b.grownBy c row) : a.grownBy c row :=
  ⟨k.os.trans h.os, k.tape.trans h.tape, k.output.trans h.output, Nat.le_trans h.size k.size, fun i hi hne => (k.block i (Nat.lt_of_lt_of_le hi h.size) hne).trans (h.block i hi hne)⟩
theorem grown_setCell' (w : World) (g o : Nat) (v : Value) : w.grownBy (w.setCell ⟨g, o, none⟩ v) (some g) :=
  ⟨rfl, rfl, rfl, by simp, fun k _ hk => heap_setCell_other w ⟨g, o, none⟩ k v (fun e => hk (by simp [e]))⟩
theorem hd_set {w : World} {g : Nat} {a b c : Value} {f : Nat × Nat} (h : w.heap[g]? = some (.cells #[a, b, c] 5 f)) (v : Value) :
    (w.setCell ⟨g, 0, none⟩ v).heap[g]? = some (.cells #[v, b, c] 5 f) ∧ (w.setCell ⟨g, 1, none⟩ v).heap[g]? = some (.cells #[a, v, c] 5 f) ∧ (w.setCell ⟨g, 2, none⟩ v).heap[g]? = some (.cells #[a, b, v] 5 f) := by
  have hl : g < w.heap.size := (Array.getElem?_eq_some_iff.1 h).1
  have hv := (Array.getElem?_eq_some_iff.1 h).2
  simp [World.setCell, hl, Array.getElem_modify, hv]

set_option maxHeartbeats 1000000 in
theorem markHd_any (g : Nat) (w : World) (h : HdM w g) :
    Calls Tryd.prog 28 #[.slice (some ⟨g, 0, none⟩) 3 3, .int .i64 1] w fun e w' => e = .returned (.int .i64 4) ∧ ReadsB w' (some ⟨g, 0, none⟩) (upsB 1 3) ∧ w.grownBy w' (some g) := by
  have h1 := (hd_set h (.int .u8 1)).1
  have h2 := (hd_set h1 (.int .u8 2)).2.1
  have h3 := (hd_set h2 (.int .u8 3)).2.2
  have hh : w.heap[g]? = _ := h
  have a0 : w.cell? ⟨g, 0, none⟩ = some (.int .u8 82) := by rw [cell_of_row _ _ _ _ _ _ hh]; rfl
  have a1 : w.cell? ⟨g, 1, none⟩ = some (.int .u8 50) := by rw [cell_of_row _ _ _ _ _ _ hh]; rfl
  have a2 : w.cell? ⟨g, 2, none⟩ = some (.int .u8 49) := by rw [cell_of_row _ _ _ _ _ _ hh]; rfl
  have z0 : w.frozen? ⟨g, 0, none⟩ = false := by simp [World.frozen?, hh]
  have z1 : w.frozen? ⟨g, 1, none⟩ = false := by simp [World.frozen?, hh]
  have z2 : w.frozen? ⟨g, 2, none⟩ = false := by simp [World.frozen?, hh]
  have k1 := grown_setCell' w g 0 (.int .u8 1)
  have k2 := grown_setCell' (w.setCell ⟨g, 0, none⟩ (.int .u8 1)) g 1 (.int .u8 2)
  have k3 := grown_setCell' ((w.setCell ⟨g, 0, none⟩ (.int .u8 1)).setCell ⟨g, 1, none⟩ (.int .u8 2)) g 2 (.int .u8 3)
  have hR : Hid (ReadsB (((w.setCell ⟨g, 0, none⟩ (.int .u8 1)).setCell ⟨g, 1, none⟩ (.int .u8 2)).setCell ⟨g, 2, none⟩ (.int .u8 3)) (some ⟨g, 0, none⟩) (upsB 1 3)) := by
    refine ⟨by simp [upsB_length], ?_, fun i _ => ⟨g, 0, rfl, fun j hj => ?_⟩⟩
    · intro x hx
      simp only [upsB, List.mem_map, List.mem_range] at hx
      obtain ⟨j, hj, rfl⟩ := hx
      exact ⟨by omega, by omega⟩
    · rw [cell_of_row _ _ _ _ _ _ h3]
      rw [upsB_length] at hj
      rcases (by omega : j = 0 ∨ j = 1 ∨ j = 2) with rfl | rfl | rfl <;> rfl
  clear h h1 h2 h3 hh
  go_enter Tryd.func28, Tryd.ntmps28
  go_wp2_with fail
  refine wp_loop_rounds 4 ?_
  rw [rounds_succ]
  go_wp2_with fail
  rw [rounds_succ]
  go_wp2_with fail
  rw [rounds_succ]
  go_wp2_with fail
  rw [rounds_succ]
  go_wp2_with fail
  go_ret
  exact ⟨rfl, hR.out, grown_tr' (grown_tr' k1 k2) k3⟩

theorem markMk_any (g n cap : Nat) (J : List Int) (w : World) (h : Mk w g n cap J) :
    Calls Tryd.prog 28 #[.slice (some ⟨g, 0, none⟩) n cap, .int .i64 1] w fun e w' => e = .returned (.int .i64 (1 + (n : Int))) ∧ ReadsB w' (some ⟨g, 0, none⟩) (upsB 1 n) ∧ w.grownBy w' (some g) := by
  rcases h with ⟨rfl, h⟩ | ⟨rfl, rfl, rfl, h⟩
  · exact (markB_any g _ cap 0 1 J w rfl (by omega) (by omega) h).mono fun e w' ⟨he, ho, hg⟩ => ⟨he, ho.reads, hg⟩
  · exact (markHd_any g w h).mono fun e w' ⟨he, ho, hg⟩ => ⟨he, ho, hg⟩
end Go.Proofs.YtlpmcfooaakdgaaDoor
