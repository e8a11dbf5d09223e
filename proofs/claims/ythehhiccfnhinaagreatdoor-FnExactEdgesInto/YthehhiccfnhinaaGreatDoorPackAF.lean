/-
  byNumber: a list's things in a map, by their numbers.
-/
import Derived.Test.YthehhiccfnhinaaGreatDoorPackAE
import Derived.Test.YthehhiccfnhinaaGreatDoorPackAC
import Derived.Carry
import Derived.Deep.RegionHeld3
import Derived.Test.YthehhiccfnhinaaGreatDoorPackAB
import Derived.Test.YthehhiccfnhinaaGreatDoorPackAA
import Derived.Test.YthehhiccfnhinaaGreatDoorPackAD
import Derived.Deep.CutBlock
namespace Go.Proofs.YthehhiccfnhinaaGreatDoor
open Go.RowKit

/-- What the map holds. -/
def numF {α : Type} (num : α → Int) (val : α → Value) (xs : List α) : Int → Option Value := xs.foldl (fun f x => putM f (num x) (val x)) (fun _ => none)
theorem numF_snoc {α : Type} (num : α → Int) (val : α → Value) (xs : List α) (k : Nat) (hk : k < xs.length) : numF num val (xs.take (k + 1)) = putM (numF num val (xs.take k)) (num xs[k]) (val xs[k]) := by
  unfold numF
  rw [List.take_succ_eq_append_getElem hk, List.foldl_append]
  rfl

set_option maxHeartbeats 1000000 in
theorem byI_any (ao : Option Addr) (n c : Nat) (xs : List Int) (w : World) (hn : xs.length = n) (hl : xs.length ≤ 1048576) (h : Reads w ao xs) :
    Calls Tryz.prog 113 #[.slice ao n c, .func (.func 68) #[] #[]] w fun e w' => ∃ b, e = .returned (.map (some b)) ∧ w.heap.size ≤ b ∧ MapF w' b xs.length (numF id (fun x => .int .i64 x) xs) ∧ Fr w w' := by
  subst hn
  have hmk : ∀ u : World, Sem.run Tryz.prog (Instr.makeMap 150 none) u = .ok (.map (some u.heap.size)) (u.alloc (.map #[] 0)) := fun u => run_makeMap _ u
  go_enter Tryz.func113, Tryz.ntmps113
  go_wp2_with fail
  obtain ⟨B, hB⟩ : ∃ B, B = w.heap.size := ⟨_, rfl⟩
  have M0 := MapF.made w
  rw [← hB] at M0 ⊢
  have HB : Hid (w.heap.size ≤ B) := Nat.le_of_eq hB.symm
  clear hB
  go_loopw [11] (fun i wr => ∃ (k : Nat), k ≤ xs.length ∧ i = .int .i64 k ∧ MapF wr B k (numF id (fun x => .int .i64 x) (xs.take k)) ∧ Fr w wr) (fun i _ => xs.length - (intOf i).toNat)
  case atStart => exact ⟨0, Nat.zero_le _, rfl, by simpa [numF] using M0, Fr.alloc w _⟩
  case round =>
    clear M0
    obtain ⟨k, hk, rfl, M, hf⟩ := hrel
    by_cases hlt : k < xs.length
    · obtain ⟨b, off, rfl, hc⟩ := (h.fr hf).at_ k hlt
      have hck := hc k hlt
      rw [getD_at hlt] at hck
      have hz := h.bd xs[k] (List.getElem_mem hlt)
      have HS : Hid (numF id (fun x => .int .i64 x) (xs.take (k + 1)) = putM (numF id (fun x => .int .i64 x) (xs.take k)) xs[k] (.int .i64 xs[k])) := numF_snoc id (fun x => .int .i64 x) xs k hlt
      obtain ⟨F, hF⟩ : ∃ F, F = numF id (fun x => .int .i64 x) (xs.take k) := ⟨_, rfl⟩
      rw [← hF] at HS M
      clear hF
      obtain ⟨z, hzz⟩ : ∃ z, z = xs[k] := ⟨_, rfl⟩
      rw [← hzz] at hck HS hz
      clear hzz hc
      go_wp2_with fail
      refine (itself_any _ _).mono ?_
      rintro e y ⟨rfl, rfl⟩
      go_wp2_with (at_mapUpdate; refine wp_put rfl _ _ _ _ rfl Tryz.underlying150 B k F z (.int .i64 z) rfl rfl rfl M (by unfold maxLen; omega) hz ?_; intro w1 M1 g1)
      go_roundw
      case rel => exact ⟨k + 1, by omega, by go_num, by rw [HS.out]; exact M1, hf.then g1 (fun j hj => by cases hj; exact HB.out)⟩
      case measure => simp [intOf]; omega
    · have e : xs.take k = xs := List.take_of_length_le (by omega)
      have e2 : k = xs.length := by omega
      rw [e] at M
      have HM : Hid (MapF wr B xs.length (numF id (fun x => .int .i64 x) xs)) := by rw [e2] at M; exact M
      clear M e e2
      go_wp2_with fail
      go_ret
      exact ⟨B, rfl, HB.out, HM.out, hf⟩
set_option maxHeartbeats 1000000 in
theorem byN_any (ao : Option Addr) (n c : Nat) (xs : List Ct) (w : World) (hn : xs.length = n) (hl : xs.length ≤ 1048576) (h : ReadsG layN w ao xs) (hi : ∀ x ∈ xs, I64 x.o) :
    Calls Tryz.prog 111 #[.slice ao n c, .func (.func 112) #[] #[]] w fun e w' => ∃ b, e = .returned (.map (some b)) ∧ w.heap.size ≤ b ∧ MapF w' b xs.length (numF Ct.o (fun x => .agg #[.int .i64 x.o, .int .i64 x.n]) xs) ∧ Fr w w' := by
  subst hn
  have hmk : ∀ u : World, Sem.run Tryz.prog (Instr.makeMap 147 none) u = .ok (.map (some u.heap.size)) (u.alloc (.map #[] 0)) := fun u => run_makeMap _ u
  go_enter Tryz.func111, Tryz.ntmps111
  go_wp2_with fail
  obtain ⟨B, hB⟩ : ∃ B, B = w.heap.size := ⟨_, rfl⟩
  have M0 := MapF.made w
  rw [← hB] at M0 ⊢
  have HB : Hid (w.heap.size ≤ B) := Nat.le_of_eq hB.symm
  clear hB
  go_loopw [11] (fun i wr => ∃ (k : Nat), k ≤ xs.length ∧ i = .int .i64 k ∧ MapF wr B k (numF Ct.o (fun x => .agg #[.int .i64 x.o, .int .i64 x.n]) (xs.take k)) ∧ Fr w wr) (fun i _ => xs.length - (intOf i).toNat)
  case atStart => exact ⟨0, Nat.zero_le _, rfl, by simpa [numF] using M0, Fr.alloc w _⟩
  case round =>
    clear M0
    obtain ⟨k, hk, rfl, M, hf⟩ := hrel
    by_cases hlt : k < xs.length
    · obtain ⟨b, off, rfl, d0, d1⟩ := ct_at (h.fr hf) k hlt
      have hz := hi xs[k] (List.getElem_mem hlt)
      have HS : Hid (numF Ct.o (fun x => .agg #[.int .i64 x.o, .int .i64 x.n]) (xs.take (k + 1)) = putM (numF Ct.o (fun x => .agg #[.int .i64 x.o, .int .i64 x.n]) (xs.take k)) xs[k].o ((fun x => .agg #[.int .i64 x.o, .int .i64 x.n]) xs[k])) := numF_snoc Ct.o (fun x => .agg #[.int .i64 x.o, .int .i64 x.n]) xs k hlt
      obtain ⟨F, hF⟩ : ∃ F, F = numF Ct.o (fun x => .agg #[.int .i64 x.o, .int .i64 x.n]) (xs.take k) := ⟨_, rfl⟩
      rw [← hF] at HS M
      clear hF
      obtain ⟨e, he⟩ : ∃ e, e = xs[k] := ⟨_, rfl⟩
      rw [← he] at HS hz
      simp only [← he] at d0 d1
      clear he
      obtain ⟨z, n2⟩ := e
      simp only at d0 d1 HS hz
      have hne : ¬ (some wr.heap.size = some B) := fun q => by have := M.lt; simp only [Option.some.injEq] at q; omega
      have f1 := Fr.alloc wr (.cells #[.int .i64 z, .int .i64 n2] 88)
      have kC : ∀ u row, (wr.alloc (.cells #[.int .i64 z, .int .i64 n2] 88)).grownBy u row → ¬ (some wr.heap.size = row) → u.cell? ⟨wr.heap.size, 0, none⟩ = some (.int .i64 z) ∧ u.cell? ⟨wr.heap.size, 1, none⟩ = some (.int .i64 n2) := fun u row g q => ⟨g.cell (v := .int .i64 z) (by simp [go_sem]) q, g.cell (v := .int .i64 n2) (by simp [go_sem]) q⟩
      have M := M.fr f1
      have hf := hf.trans f1
      clear f1
      go_wp2_with fail
      obtain ⟨C, hC⟩ : ∃ C, C = wr.heap.size := ⟨_, rfl⟩
      obtain ⟨W, hW⟩ : ∃ W, W = wr.alloc (.cells #[.int .i64 z, .int .i64 n2] 88) := ⟨_, rfl⟩
      rw [← hC] at hne kC ⊢
      rw [← hW] at M hf kC ⊢
      clear hC hW d0 d1
      obtain ⟨y0, y1⟩ := kC W none (Fr.refl W) (by simp)
      go_region_held3 (fun u => u.cell? ⟨C, 0, none⟩ = some (.int .i64 z) ∧ u.cell? ⟨C, 1, none⟩ = some (.int .i64 n2)) (go_keep)
        (first | (go_at_call 112; refine (countNumber_any ⟨z, n2⟩ _).mono ?_; rintro x u3 ⟨rfl, f3⟩; have g3 := (Fr.drew W).trans f3; obtain ⟨p0, p1⟩ := kC u3 none g3 (by simp); obtain ⟨w1, hrun, M1, g1⟩ := (M.fr g3).put Tryz.underlying147 (by unfold maxLen; omega) hz (.agg #[.int .i64 z, .int .i64 n2]); obtain ⟨q0, q1⟩ := kC w1 (some B) (grown_trans g3.wide g1) hne))
      go_wp2_with fail
      go_roundw
      case rel => exact ⟨k + 1, by omega, by go_num, by rw [HS.out]; exact M1, (hf.trans g3).then g1 (fun j hj => by cases hj; exact HB.out)⟩
      case measure => simp [intOf]; omega
    · have e : xs.take k = xs := List.take_of_length_le (by omega)
      have e2 : k = xs.length := by omega
      rw [e] at M
      have HM : Hid (MapF wr B xs.length (numF Ct.o (fun x => .agg #[.int .i64 x.o, .int .i64 x.n]) xs)) := by rw [e2] at M; exact M
      clear M e e2
      go_wp2_with fail
      go_ret
      exact ⟨B, rfl, HB.out, HM.out, hf⟩

set_option maxHeartbeats 1000000 in
theorem byC_any (ao : Option Addr) (n c : Nat) (xs : List Ch) (w : World) (hn : xs.length = n) (hl : xs.length ≤ 1048576) (h : ReadsG layC w ao xs) (hi : ∀ x ∈ xs, I64 x.o) :
    Calls Tryz.prog 109 #[.slice ao n c, .func (.func 110) #[] #[]] w fun e w' => ∃ b, e = .returned (.map (some b)) ∧ w.heap.size ≤ b ∧ MapF w' b xs.length (numF Ch.o (fun x => .agg #[.int .i64 x.o, .int .i64 x.cap, .int .i64 x.sent, .int .i64 x.got, .bool x.cl]) xs) ∧ Fr w w' := by
  subst hn
  have hmk : ∀ u : World, Sem.run Tryz.prog (Instr.makeMap 144 none) u = .ok (.map (some u.heap.size)) (u.alloc (.map #[] 0)) := fun u => run_makeMap _ u
  go_enter Tryz.func109, Tryz.ntmps109
  go_wp2_with fail
  obtain ⟨B, hB⟩ : ∃ B, B = w.heap.size := ⟨_, rfl⟩
  have M0 := MapF.made w
  rw [← hB] at M0 ⊢
  have HB : Hid (w.heap.size ≤ B) := Nat.le_of_eq hB.symm
  clear hB
  go_loopw [11] (fun i wr => ∃ (k : Nat), k ≤ xs.length ∧ i = .int .i64 k ∧ MapF wr B k (numF Ch.o (fun x => .agg #[.int .i64 x.o, .int .i64 x.cap, .int .i64 x.sent, .int .i64 x.got, .bool x.cl]) (xs.take k)) ∧ Fr w wr) (fun i _ => xs.length - (intOf i).toNat)
  case atStart => exact ⟨0, Nat.zero_le _, rfl, by simpa [numF] using M0, Fr.alloc w _⟩
  case round =>
    clear M0
    obtain ⟨k, hk, rfl, M, hf⟩ := hrel
    by_cases hlt : k < xs.length
    · obtain ⟨b, off, rfl, d0, d1, d2, d3, d4⟩ := ch_at (h.fr hf) k hlt
      have hz := hi xs[k] (List.getElem_mem hlt)
      have HS : Hid (numF Ch.o (fun x => .agg #[.int .i64 x.o, .int .i64 x.cap, .int .i64 x.sent, .int .i64 x.got, .bool x.cl]) (xs.take (k + 1)) = putM (numF Ch.o (fun x => .agg #[.int .i64 x.o, .int .i64 x.cap, .int .i64 x.sent, .int .i64 x.got, .bool x.cl]) (xs.take k)) xs[k].o ((fun x => .agg #[.int .i64 x.o, .int .i64 x.cap, .int .i64 x.sent, .int .i64 x.got, .bool x.cl]) xs[k])) := numF_snoc Ch.o (fun x => .agg #[.int .i64 x.o, .int .i64 x.cap, .int .i64 x.sent, .int .i64 x.got, .bool x.cl]) xs k hlt
      obtain ⟨F, hF⟩ : ∃ F, F = numF Ch.o (fun x => .agg #[.int .i64 x.o, .int .i64 x.cap, .int .i64 x.sent, .int .i64 x.got, .bool x.cl]) (xs.take k) := ⟨_, rfl⟩
      rw [← hF] at HS M
      clear hF
      obtain ⟨e, he⟩ : ∃ e, e = xs[k] := ⟨_, rfl⟩
      rw [← he] at HS hz
      simp only [← he] at d0 d1 d2 d3 d4
      clear he
      obtain ⟨z, cap, sent, got, cl⟩ := e
      simp only at d0 d1 d2 d3 d4 HS hz
      have hne : ¬ (some wr.heap.size = some B) := fun q => by have := M.lt; simp only [Option.some.injEq] at q; omega
      have f1 := Fr.alloc wr (.cells #[.int .i64 z, .int .i64 cap, .int .i64 sent, .int .i64 got, .bool cl] 85)
      have kC : ∀ u row, (wr.alloc (.cells #[.int .i64 z, .int .i64 cap, .int .i64 sent, .int .i64 got, .bool cl] 85)).grownBy u row → ¬ (some wr.heap.size = row) → u.cell? ⟨wr.heap.size, 0, none⟩ = some (.int .i64 z) ∧ u.cell? ⟨wr.heap.size, 1, none⟩ = some (.int .i64 cap) ∧ u.cell? ⟨wr.heap.size, 2, none⟩ = some (.int .i64 sent) ∧ u.cell? ⟨wr.heap.size, 3, none⟩ = some (.int .i64 got) ∧ u.cell? ⟨wr.heap.size, 4, none⟩ = some (.bool cl) := fun u row g q => ⟨g.cell (v := .int .i64 z) (by simp [go_sem]) q, g.cell (v := .int .i64 cap) (by simp [go_sem]) q, g.cell (v := .int .i64 sent) (by simp [go_sem]) q, g.cell (v := .int .i64 got) (by simp [go_sem]) q, g.cell (v := .bool cl) (by simp [go_sem]) q⟩
      have M := M.fr f1
      have hf := hf.trans f1
      clear f1
      go_wp2_with fail
      obtain ⟨C, hC⟩ : ∃ C, C = wr.heap.size := ⟨_, rfl⟩
      obtain ⟨W, hW⟩ : ∃ W, W = wr.alloc (.cells #[.int .i64 z, .int .i64 cap, .int .i64 sent, .int .i64 got, .bool cl] 85) := ⟨_, rfl⟩
      rw [← hC] at hne kC ⊢
      rw [← hW] at M hf kC ⊢
      clear hC hW d0 d1 d2 d3 d4
      obtain ⟨y0, y1, y2, y3, y4⟩ := kC W none (Fr.refl W) (by simp)
      go_region_held3 (fun u => u.cell? ⟨C, 0, none⟩ = some (.int .i64 z) ∧ u.cell? ⟨C, 1, none⟩ = some (.int .i64 cap) ∧ u.cell? ⟨C, 2, none⟩ = some (.int .i64 sent) ∧ u.cell? ⟨C, 3, none⟩ = some (.int .i64 got) ∧ u.cell? ⟨C, 4, none⟩ = some (.bool cl)) (go_keep)
        (first | (go_at_call 110; refine (chanNumber_any ⟨z, cap, sent, got, cl⟩ _).mono ?_; rintro x u3 ⟨rfl, f3⟩; have g3 := (Fr.drew W).trans f3; obtain ⟨p0, p1, p2, p3, p4⟩ := kC u3 none g3 (by simp); obtain ⟨w1, hrun, M1, g1⟩ := (M.fr g3).put Tryz.underlying144 (by unfold maxLen; omega) hz (.agg #[.int .i64 z, .int .i64 cap, .int .i64 sent, .int .i64 got, .bool cl]); obtain ⟨q0, q1, q2, q3, q4⟩ := kC w1 (some B) (grown_trans g3.wide g1) hne))
      go_wp2_with fail
      go_roundw
      case rel => exact ⟨k + 1, by omega, by go_num, by rw [HS.out]; exact M1, (hf.trans g3).then g1 (fun j hj => by cases hj; exact HB.out)⟩
      case measure => simp [intOf]; omega
    · have e : xs.take k = xs := List.take_of_length_le (by omega)
      have e2 : k = xs.length := by omega
      rw [e] at M
      have HM : Hid (MapF wr B xs.length (numF Ch.o (fun x => .agg #[.int .i64 x.o, .int .i64 x.cap, .int .i64 x.sent, .int .i64 x.got, .bool x.cl]) xs)) := by rw [e2] at M; exact M
      clear M e e2
      go_wp2_with fail
      go_ret
      exact ⟨B, rfl, HB.out, HM.out, hf⟩

set_option maxHeartbeats 1000000 in
theorem byL_any (ao : Option Addr) (n c : Nat) (xs : List Lv) (w : World) (hn : xs.length = n) (hl : xs.length ≤ 1048576) (h : ReadsG layL w ao xs) (hi : ∀ x ∈ xs, I64 x.o) :
    Calls Tryz.prog 107 #[.slice ao n c, .func (.func 108) #[] #[]] w fun e w' => ∃ b, e = .returned (.map (some b)) ∧ w.heap.size ≤ b ∧ MapF w' b xs.length (numF Lv.o (fun x => .agg #[.int .i64 x.o, .int .i64 x.wr, .slice x.ro x.rn x.rc]) xs) ∧ Fr w w' := by
  subst hn
  have hmk : ∀ u : World, Sem.run Tryz.prog (Instr.makeMap 141 none) u = .ok (.map (some u.heap.size)) (u.alloc (.map #[] 0)) := fun u => run_makeMap _ u
  go_enter Tryz.func107, Tryz.ntmps107
  go_wp2_with fail
  obtain ⟨B, hB⟩ : ∃ B, B = w.heap.size := ⟨_, rfl⟩
  have M0 := MapF.made w
  rw [← hB] at M0 ⊢
  have HB : Hid (w.heap.size ≤ B) := Nat.le_of_eq hB.symm
  clear hB
  go_loopw [11] (fun i wr => ∃ (k : Nat), k ≤ xs.length ∧ i = .int .i64 k ∧ MapF wr B k (numF Lv.o (fun x => .agg #[.int .i64 x.o, .int .i64 x.wr, .slice x.ro x.rn x.rc]) (xs.take k)) ∧ Fr w wr) (fun i _ => xs.length - (intOf i).toNat)
  case atStart => exact ⟨0, Nat.zero_le _, rfl, by simpa [numF] using M0, Fr.alloc w _⟩
  case round =>
    clear M0
    obtain ⟨k, hk, rfl, M, hf⟩ := hrel
    by_cases hlt : k < xs.length
    · obtain ⟨b, off, rfl, d0, d1, d2⟩ := lv_at (h.fr hf) k hlt
      have hz := hi xs[k] (List.getElem_mem hlt)
      have HS : Hid (numF Lv.o (fun x => .agg #[.int .i64 x.o, .int .i64 x.wr, .slice x.ro x.rn x.rc]) (xs.take (k + 1)) = putM (numF Lv.o (fun x => .agg #[.int .i64 x.o, .int .i64 x.wr, .slice x.ro x.rn x.rc]) (xs.take k)) xs[k].o ((fun x => .agg #[.int .i64 x.o, .int .i64 x.wr, .slice x.ro x.rn x.rc]) xs[k])) := numF_snoc Lv.o (fun x => .agg #[.int .i64 x.o, .int .i64 x.wr, .slice x.ro x.rn x.rc]) xs k hlt
      obtain ⟨F, hF⟩ : ∃ F, F = numF Lv.o (fun x => .agg #[.int .i64 x.o, .int .i64 x.wr, .slice x.ro x.rn x.rc]) (xs.take k) := ⟨_, rfl⟩
      rw [← hF] at HS M
      clear hF
      obtain ⟨e, he⟩ : ∃ e, e = xs[k] := ⟨_, rfl⟩
      rw [← he] at HS hz
      simp only [← he] at d0 d1 d2
      clear he
      obtain ⟨z, wr2, ro, rn, rc⟩ := e
      simp only at d0 d1 d2 HS hz
      have hne : ¬ (some wr.heap.size = some B) := fun q => by have := M.lt; simp only [Option.some.injEq] at q; omega
      have f1 := Fr.alloc wr (.cells #[.int .i64 z, .int .i64 wr2, .slice ro rn rc] 82)
      have kC : ∀ u row, (wr.alloc (.cells #[.int .i64 z, .int .i64 wr2, .slice ro rn rc] 82)).grownBy u row → ¬ (some wr.heap.size = row) → u.cell? ⟨wr.heap.size, 0, none⟩ = some (.int .i64 z) ∧ u.cell? ⟨wr.heap.size, 1, none⟩ = some (.int .i64 wr2) ∧ u.cell? ⟨wr.heap.size, 2, none⟩ = some (.slice ro rn rc) := fun u row g q => ⟨g.cell (v := .int .i64 z) (by simp [go_sem]) q, g.cell (v := .int .i64 wr2) (by simp [go_sem]) q, g.cell (v := .slice ro rn rc) (by simp [go_sem]) q⟩
      have M := M.fr f1
      have hf := hf.trans f1
      clear f1
      go_wp2_with fail
      obtain ⟨C, hC⟩ : ∃ C, C = wr.heap.size := ⟨_, rfl⟩
      obtain ⟨W, hW⟩ : ∃ W, W = wr.alloc (.cells #[.int .i64 z, .int .i64 wr2, .slice ro rn rc] 82) := ⟨_, rfl⟩
      rw [← hC] at hne kC ⊢
      rw [← hW] at M hf kC ⊢
      clear hC hW d0 d1 d2
      obtain ⟨y0, y1, y2⟩ := kC W none (Fr.refl W) (by simp)
      go_region_held3 (fun u => u.cell? ⟨C, 0, none⟩ = some (.int .i64 z) ∧ u.cell? ⟨C, 1, none⟩ = some (.int .i64 wr2) ∧ u.cell? ⟨C, 2, none⟩ = some (.slice ro rn rc)) (go_keep)
        (first | (go_at_call 108; refine (lockNumber_any ⟨z, wr2, ro, rn, rc⟩ _).mono ?_; rintro x u3 ⟨rfl, f3⟩; have g3 := (Fr.drew W).trans f3; obtain ⟨p0, p1, p2⟩ := kC u3 none g3 (by simp); obtain ⟨w1, hrun, M1, g1⟩ := (M.fr g3).put Tryz.underlying141 (by unfold maxLen; omega) hz (.agg #[.int .i64 z, .int .i64 wr2, .slice ro rn rc]); obtain ⟨q0, q1, q2⟩ := kC w1 (some B) (grown_trans g3.wide g1) hne))
      go_wp2_with fail
      go_roundw
      case rel => exact ⟨k + 1, by omega, by go_num, by rw [HS.out]; exact M1, (hf.trans g3).then g1 (fun j hj => by cases hj; exact HB.out)⟩
      case measure => simp [intOf]; omega
    · have e : xs.take k = xs := List.take_of_length_le (by omega)
      have e2 : k = xs.length := by omega
      rw [e] at M
      have HM : Hid (MapF wr B xs.length (numF Lv.o (fun x => .agg #[.int .i64 x.o, .int .i64 x.wr, .slice x.ro x.rn x.rc]) xs)) := by rw [e2] at M; exact M
      clear M e e2
      go_wp2_with fail
      go_ret
      exact ⟨B, rfl, HB.out, HM.out, hf⟩
end Go.Proofs.YthehhiccfnhinaaGreatDoor
/-
  boardOf: a scene's board.
-/
namespace Go.Proofs.YthehhiccfnhinaaGreatDoor
open Go.RowKit

def valL (x : Lv) : Value := .agg #[.int .i64 x.o, .int .i64 x.wr, .slice x.ro x.rn x.rc]
def valC (x : Ch) : Value := .agg #[.int .i64 x.o, .int .i64 x.cap, .int .i64 x.sent, .int .i64 x.got, .bool x.cl]
def valN (x : Ct) : Value := .agg #[.int .i64 x.o, .int .i64 x.n]
def valI (x : Int) : Value := .int .i64 x

/-- Block b is a board: the goroutines' number, four maps. -/
structure Board (w : World) (b : Nat) (g : Int) (b1 b2 b3 b4 n1 n2 n3 n4 : Nat) (fl fc fn fo : Int → Option Value) : Prop where
  row : w.heap[b]? = some (.cells #[.int .i64 g, .map (some b1), .map (some b2), .map (some b3), .map (some b4)] 153 (0, 0))
  c0 : w.cell? ⟨b, 0, none⟩ = some (.int .i64 g)
  c1 : w.cell? ⟨b, 1, none⟩ = some (.map (some b1))
  c2 : w.cell? ⟨b, 2, none⟩ = some (.map (some b2))
  c3 : w.cell? ⟨b, 3, none⟩ = some (.map (some b3))
  c4 : w.cell? ⟨b, 4, none⟩ = some (.map (some b4))
  m1 : MapF w b1 n1 fl
  m2 : MapF w b2 n2 fc
  m3 : MapF w b3 n3 fn
  m4 : MapF w b4 n4 fo
theorem Board.fr {w w' : World} {b : Nat} {g : Int} {b1 b2 b3 b4 n1 n2 n3 n4 : Nat} {fl fc fn fo : Int → Option Value} (h : Board w b g b1 b2 b3 b4 n1 n2 n3 n4 fl fc fn fo) (k : Fr w w') : Board w' b g b1 b2 b3 b4 n1 n2 n3 n4 fl fc fn fo :=
  ⟨(k.block b (Array.getElem?_eq_some_iff.1 h.row).1 (by simp)).trans h.row, k.cell h.c0, k.cell h.c1, k.cell h.c2, k.cell h.c3, k.cell h.c4, h.m1.fr k, h.m2.fr k, h.m3.fr k, h.m4.fr k⟩

set_option maxHeartbeats 2000000 in
theorem boardOf_any {B : Nat → Prop} (s : Sv) (m : Scn) (lvs : List Lv) (w : World) (h : ScR B w s m) (r1 : ReadsG layL w s.lo lvs) (e1 : s.ll = lvs.length) (l1 : LksR B w lvs m.ls) :
    Calls Tryz.prog 50 #[.agg #[.int .i64 s.g, .slice s.lo s.ll s.lc, .slice s.co s.cl s.cc, .slice s.no s.nl s.nc, .slice s.oo s.ol s.oc]] w fun e w' => ∃ b b1 b2 b3 b4, e = .returned (.pointer (some ⟨b, 0, none⟩)) ∧ (w.heap.size ≤ b1 ∧ b1 < b2 ∧ b2 < b3 ∧ b3 < b4 ∧ b4 < b) ∧ Board w' b m.g b1 b2 b3 b4 lvs.length m.cs.length m.gs.length m.os.length (numF Lv.o valL lvs) (numF Ch.o valC m.cs) (numF Ct.o valN m.gs) (numF id valI m.os) ∧ Fr w w' := by
  have fW := Fr.alloc w (.cells #[.int .i64 s.g, .slice s.lo s.ll s.lc, .slice s.co s.cl s.cc, .slice s.no s.nl s.nc, .slice s.oo s.ol s.oc] 29)
  have k1 := ScK.new w s
  have hl1 : lvs.length ≤ 1048576 := by rw [l1.len]; exact h.sl
  have cL := fun u (f : Fr w u) => byL_any s.lo s.ll s.lc lvs u e1.symm hl1 (r1.fr f) (fun x hx => by
    obtain ⟨j, hj, rfl⟩ := List.mem_iff_getElem.1 hx
    have q := l1.at_ j hj (by rw [← l1.len]; exact hj)
    rw [q.o]; exact q.io)
  have cC := fun u (f : Fr w u) => byC_any s.co s.cl s.cc m.cs u h.cl.symm h.sc (h.chs.fr f) (fun x hx => (h.ic x hx).1)
  have cN := fun u (f : Fr w u) => byN_any s.no s.nl s.nc m.gs u h.nl.symm h.sn (h.cts.fr f) (fun x hx => (h.inn x hx).1)
  have cO := fun u (f : Fr w u) => byI_any s.oo s.ol s.oc m.os u h.ol.symm h.so (h.ons.fr f)
  have HG : Hid (s.g = m.g) := h.g
  have eL : numF Lv.o (fun x => .agg #[.int .i64 x.o, .int .i64 x.wr, .slice x.ro x.rn x.rc]) lvs = numF Lv.o valL lvs := rfl
  have eC : numF Ch.o (fun x => .agg #[.int .i64 x.o, .int .i64 x.cap, .int .i64 x.sent, .int .i64 x.got, .bool x.cl]) m.cs = numF Ch.o valC m.cs := rfl
  have eN : numF Ct.o (fun x => .agg #[.int .i64 x.o, .int .i64 x.n]) m.gs = numF Ct.o valN m.gs := rfl
  have eO : numF id (fun x => .int .i64 x) m.os = numF id valI m.os := rfl
  simp only [eL] at cL
  simp only [eC] at cC
  simp only [eN] at cN
  simp only [eO] at cO
  clear eL eC eN eO
  obtain ⟨FL, hFL⟩ : ∃ F, F = numF Lv.o valL lvs := ⟨_, rfl⟩
  obtain ⟨FC, hFC⟩ : ∃ F, F = numF Ch.o valC m.cs := ⟨_, rfl⟩
  obtain ⟨FN, hFN⟩ : ∃ F, F = numF Ct.o valN m.gs := ⟨_, rfl⟩
  obtain ⟨FO, hFO⟩ : ∃ F, F = numF id valI m.os := ⟨_, rfl⟩
  obtain ⟨N1, hN1⟩ : ∃ F, F = lvs.length := ⟨_, rfl⟩
  obtain ⟨N2, hN2⟩ : ∃ F, F = m.cs.length := ⟨_, rfl⟩
  obtain ⟨N3, hN3⟩ : ∃ F, F = m.gs.length := ⟨_, rfl⟩
  obtain ⟨N4, hN4⟩ : ∃ F, F = m.os.length := ⟨_, rfl⟩
  simp only [← hFL, ← hN1] at cL ⊢
  simp only [← hFC, ← hN2] at cC ⊢
  simp only [← hFN, ← hN3] at cN ⊢
  simp only [← hFO, ← hN4] at cO ⊢
  rw [← HG.out]
  clear hFL hFC hFN hFO hN1 hN2 hN3 hN4 h r1 e1 l1 hl1 HG
  obtain ⟨sg, lo, ll, lc, co, cl, cc, no, nl, nc, oo, ol, oc⟩ := s
  simp only at fW k1 cL cC cN cO ⊢
  go_enter Tryz.func50, Tryz.ntmps50
  go_wp2_with fail
  obtain ⟨W, hW⟩ : ∃ W, W = w.alloc (.cells #[.int .i64 sg, .slice lo ll lc, .slice co cl cc, .slice no nl nc, .slice oo ol oc] 29) := ⟨_, rfl⟩
  rw [← hW] at fW k1 ⊢
  clear hW
  have HQ : Hid (∀ u, Fr W u → ScB u w.heap.size ⟨sg, lo, ll, lc, co, cl, cc, no, nl, nc, oo, ol, oc⟩) := fun u f => (k1.fr f).at
  have fD : Fr w W.drew := fW.trans (Fr.drew W)
  obtain ⟨s0, s1, s2, s3, s4⟩ := k1.at
  simp only at s0 s1 s2 s3 s4
  clear k1
  go_region_held3 (fun u => u.cell? ⟨w.heap.size, 0, none⟩ = some (.int .i64 sg) ∧ u.cell? ⟨w.heap.size, 1, none⟩ = some (.slice lo ll lc) ∧ u.cell? ⟨w.heap.size, 2, none⟩ = some (.slice co cl cc) ∧ u.cell? ⟨w.heap.size, 3, none⟩ = some (.slice no nl nc) ∧ u.cell? ⟨w.heap.size, 4, none⟩ = some (.slice oo ol oc)) (go_keep)
    (first | (go_at_call 107; refine (cL _ fD).mono ?_; rintro x u1 ⟨b1, rfl, z1, M1, f1⟩; have g1 := (Fr.drew W).trans f1; obtain ⟨p0, p1, p2, p3, p4⟩ := HQ.out _ g1; simp only at p0 p1 p2 p3 p4) | (go_at_call 109; refine (cC _ (fW.trans g1)).mono ?_; rintro x u2 ⟨b2, rfl, z2, M2, f2⟩; have g2 := g1.trans f2; obtain ⟨q0, q1, q2, q3, q4⟩ := HQ.out _ g2; simp only at q0 q1 q2 q3 q4) | (go_at_call 111; refine (cN _ (fW.trans g2)).mono ?_; rintro x u3 ⟨b3, rfl, z3, M3, f3⟩; have g3 := g2.trans f3; obtain ⟨t0, t1, t2, t3, t4⟩ := HQ.out _ g3; simp only at t0 t1 t2 t3 t4) | (go_at_call 113; refine (cO _ (fW.trans g3)).mono ?_; rintro x u4 ⟨b4, rfl, z4, M4, f4⟩; have g4 := g3.trans f4; obtain ⟨v0, v1, v2, v3, v4⟩ := HQ.out _ g4; simp only at v0 v1 v2 v3 v4))
  go_wp2_with fail
  go_ret
  have fE := Fr.alloc u4 (.cells #[.int .i64 sg, .map (some b1), .map (some b2), .map (some b3), .map (some b4)] 153)
  have y1 := fD.size
  have y2 := f1.size
  have y3 := f2.size
  have y4 := f3.size
  have y5 := f4.size
  have y6 := M1.lt
  have y7 := M2.lt
  have y8 := M3.lt
  have y9 := M4.lt
  exact ⟨u4.heap.size, b1, b2, b3, b4, rfl, ⟨by omega, by omega, by omega, by omega, by omega⟩, { row := heap_alloc_new u4 _, c0 := by simp [go_sem], c1 := by simp [go_sem], c2 := by simp [go_sem], c3 := by simp [go_sem], c4 := by simp [go_sem], m1 := M1.fr (f2.trans (f3.trans (f4.trans fE))), m2 := M2.fr (f3.trans (f4.trans fE)), m3 := M3.fr (f4.trans fE), m4 := M4.fr fE }, (fW.trans g4).trans fE⟩
end Go.Proofs.YthehhiccfnhinaaGreatDoor
/-
  The scene with one goroutine: NewScene of the specification.
-/
namespace Go.Proofs.YthehhiccfnhinaaGreatDoor
open Go.RowKit

def scn0 : Scn := ⟨1, [], [], [], []⟩
theorem inB_none (B : Nat → Prop) : InB B none := fun b hb => by simp [blk] at hb
theorem scR_new (B : Nat → Prop) (w : World) : ScR B w ⟨1, none, 0, 0, none, 0, 0, none, 0, 0, none, 0, 0⟩ scn0 where
  g := rfl
  ig := ⟨by decide, by decide⟩
  lks := ⟨[], ReadsG.nil _ _ _, rfl, LksR.nil _ _⟩
  chs := ReadsG.nil _ _ _
  cl := rfl
  cts := ReadsG.nil _ _ _
  nl := rfl
  ons := Reads.nil _ _
  ol := rfl
  bl := inB_none _
  bc := inB_none _
  bn := inB_none _
  bo := inB_none _
  zo _ := rfl
  sl := by simp [scn0]
  sc := by simp [scn0]
  sn := by simp [scn0]
  so := by simp [scn0]
  ic c hc := by simp [scn0] at hc
  inn c hc := by simp [scn0] at hc

theorem newScene_any (B : Nat → Prop) (w : World) :
    Calls Tryz.prog 185 #[] w fun e w' => ∃ s : Sv, e = .returned (.agg #[.int .i64 s.g, .slice s.lo s.ll s.lc, .slice s.co s.cl s.cc, .slice s.no s.nl s.nc, .slice s.oo s.ol s.oc]) ∧ ScR B w' s scn0 ∧ Fr w w' := by
  go_enter Tryz.func185, Tryz.ntmps185
  go_wp2
  refine bodyPost_ret (v := .agg #[.int .i64 1, .slice none 0 0, .slice none 0 0, .slice none 0 0, .slice none 0 0]) (by simp [results, Tryz.results185, go_sem]) rfl ⟨⟨1, none, 0, 0, none, 0, 0, none, 0, 0, none, 0, 0⟩, rfl, scR_new _ _, Fr.alloc _ _⟩
end Go.Proofs.YthehhiccfnhinaaGreatDoor
/-
  What can be done in a scene, and what comes of it: the model.
-/
namespace Go.Proofs.YthehhiccfnhinaaGreatDoor
open Go.RowKit

def lockCode (m : Scn) (e : Ev) : Int :=
  if e.k = 2 then (if 0 ≤ (lockOf m.ls e.o).wr ∨ 0 < (lockOf m.ls e.o).rd.length then 3 else 0)
  else if e.k = 4 then (if 0 ≤ (lockOf m.ls e.o).wr ∨ memB (lockOf m.ls e.o).rd e.g = true then 3 else 0)
  else if e.k = 3 then (if (lockOf m.ls e.o).wr = e.g then 0 else 4)
  else if e.k = 5 then (if memB (lockOf m.ls e.o).rd e.g = true then 0 else 4)
  else 0
def chanCode (m : Scn) (e : Ev) : Int :=
  if isChan m.cs e.o = decide (e.k = 6) then 5
  else if ((e.k = 7 ∨ e.k = 8) ∧ (chanOf m.cs e.o).cap = 0) ∨ (e.k = 9 ∧ (chanOf m.cs e.o).cap ≠ 0) then 5
  else if ((e.k = 7 ∨ e.k = 9 ∨ e.k = 10) ∧ (chanOf m.cs e.o).cl = true) ∨ (e.k = 11 ∧ (chanOf m.cs e.o).cl = false) then 6
  else if e.k = 7 ∧ (chanOf m.cs e.o).sent - (chanOf m.cs e.o).got = (chanOf m.cs e.o).cap then 7
  else if (e.k = 8 ∧ (chanOf m.cs e.o).sent = (chanOf m.cs e.o).got) ∨ (e.k = 11 ∧ (chanOf m.cs e.o).sent ≠ (chanOf m.cs e.o).got) then 8
  else if e.k = 7 ∧ (chanOf m.cs e.o).sent = 1000000 then 9
  else 0
/-- Gor, Obj of a go, With of a meeting: is one of them no goroutine that it can be? -/
def gorBad (m : Scn) (e : Ev) : Prop := m.g ≤ e.g ∨ (e.k = 1 ∧ e.o ≠ m.g) ∨ (e.k = 9 ∧ (m.g ≤ e.w ∨ e.w = e.g))
instance (m : Scn) (e : Ev) : Decidable (gorBad m e) := by unfold gorBad; exact inferInstance
def restCode (m : Scn) (e : Ev) : Int :=
  if 2 ≤ e.k ∧ e.k ≤ 5 then lockCode m e
  else if 6 ≤ e.k ∧ e.k ≤ 11 then chanCode m e
  else if e.k = 13 then (if countOf m.gs e.o = 0 then 9 else 0)
  else if e.k = 14 then (if countOf m.gs e.o = 0 then 0 else 9)
  else if e.k = 12 then (if 1000000 < countOf m.gs e.o + e.s then 9 else 0)
  else if e.k = 15 ∨ e.k = 16 then (if memB m.os e.o = decide (e.k = 15) then 10 else 0)
  else 0
def codeIn (m : Scn) (e : Ev) : Int :=
  if evOk e = false ∨ scB m = false then 1 else if gorBad m e then 2 else restCode m e

/-- One put in its place in a list that rises by key: in the place of the one that has it, if there is one. -/
def setS {α : Type} (key : α → Int) (x : α) (a : List α × Bool) (y : α) : List α × Bool :=
  let a1 := if !a.2 && decide (key x ≤ key y) then (a.1 ++ [x], true) else a
  if key y = key x then a1 else (a1.1 ++ [y], a1.2)
def setP {α : Type} (key : α → Int) (x : α) (put : Bool) (xs : List α) : List α × Bool := xs.foldl (setS key x) ([], put)
def setL {α : Type} (key : α → Int) (x : α) (put : Bool) (xs : List α) : List α := if (setP key x put xs).2 then (setP key x put xs).1 else (setP key x put xs).1 ++ [x]
theorem setP_step {α : Type} (key : α → Int) (x : α) (put : Bool) (xs : List α) (k : Nat) (hk : k < xs.length) : setP key x put (xs.take (k + 1)) = setS key x (setP key x put (xs.take k)) xs[k] := by
  rw [setP, List.take_succ_eq_append_getElem hk, List.foldl_append]
  rfl
/-- The four ways of a round. -/
theorem setS_in {α : Type} {key : α → Int} {x y : α} {out : List α} (h : key x < key y) : setS key x (out, false) y = (out ++ [x] ++ [y], true) := by
  unfold setS
  have h1 : key x ≤ key y := by omega
  have h2 : ¬ key y = key x := by omega
  simp [h1, h2]
theorem setS_at {α : Type} {key : α → Int} {x y : α} {out : List α} (h : key y = key x) : setS key x (out, false) y = (out ++ [x], true) := by
  unfold setS
  simp [h]
theorem setS_on {α : Type} {key : α → Int} {x y : α} {out : List α} (h : key y < key x) : setS key x (out, false) y = (out ++ [y], false) := by
  unfold setS
  have h1 : ¬ key x ≤ key y := by omega
  have h2 : ¬ key y = key x := by omega
  simp [h1, h2]
theorem setS_by {α : Type} {key : α → Int} {x y : α} {out : List α} (h : key y = key x) : setS key x (out, true) y = (out, true) := by
  unfold setS
  simp [h]
theorem setS_go {α : Type} {key : α → Int} {x y : α} {out : List α} (h : key y ≠ key x) : setS key x (out, true) y = (out ++ [y], true) := by
  unfold setS
  simp [h]
theorem setS_len {α : Type} (key : α → Int) (x : α) (a : List α × Bool) (y : α) : (setS key x a y).1.length ≤ a.1.length + 2 := by
  unfold setS
  dsimp only
  split <;> split <;> simp
theorem setP_len {α : Type} (key : α → Int) (x : α) (put : Bool) (xs : List α) (k : Nat) (hk : k ≤ xs.length) : (setP key x put (xs.take k)).1.length ≤ 2 * k := by
  induction k with
  | zero => simp [setP]
  | succ k ih =>
    have := ih (by omega)
    have h2 := setS_len key x (setP key x put (xs.take k)) (xs[k]'(by omega))
    rw [setP_step key x put xs k (by omega)]
    omega

/-- A channel after an event; a lock after one. -/
def chanTo (m : Scn) (e : Ev) : Ch :=
  if e.k = 6 then { chanOf m.cs e.o with cap := e.s }
  else if e.k = 7 then { chanOf m.cs e.o with sent := (chanOf m.cs e.o).sent + 1 }
  else if e.k = 8 then { chanOf m.cs e.o with got := (chanOf m.cs e.o).got + 1 }
  else { chanOf m.cs e.o with cl := true }
def lockTo (m : Scn) (e : Ev) : Lk :=
  if e.k = 2 then { lockOf m.ls e.o with wr := e.g }
  else if e.k = 3 then { lockOf m.ls e.o with wr := -1 }
  else if e.k = 4 then { lockOf m.ls e.o with rd := withL (lockOf m.ls e.o).rd e.g }
  else { lockOf m.ls e.o with rd := outL (lockOf m.ls e.o).rd e.g }
/-- Nobody has it. -/
def lkFree (l : Lk) : Bool := decide (l.wr < 0) && decide (l.rd.length = 0)
def setLk (m : Scn) (l : Lk) : Scn := { m with ls := setL Lk.o l (lkFree l) m.ls }
def setCh (m : Scn) (c : Ch) : Scn := { m with cs := setL Ch.o c false m.cs }
def setCt (m : Scn) (o n : Int) : Scn := { m with gs := setL Ct.o ⟨o, n⟩ (n == 0) m.gs }
/-- What an event makes of a scene. -/
def doS (m : Scn) (e : Ev) : Scn :=
  if e.k = 1 then { m with g := m.g + 1 }
  else if 2 ≤ e.k ∧ e.k ≤ 5 then setLk m (lockTo m e)
  else if 6 ≤ e.k ∧ e.k ≤ 8 ∨ e.k = 10 then setCh m (chanTo m e)
  else if e.k = 12 then setCt m e.o (countOf m.gs e.o + e.s)
  else if e.k = 13 then setCt m e.o (countOf m.gs e.o - 1)
  else if e.k = 15 then { m with os := withL m.os e.o }
  else m
end Go.Proofs.YthehhiccfnhinaaGreatDoor
/-
  The laws' own copy of an event.
-/
namespace Go.Proofs.YthehhiccfnhinaaGreatDoor
open Go.RowKit

/-- An event's eight cells. -/
def EvAt (w : World) (b : Nat) (e : Ev) : Prop :=
  w.cell? ⟨b, 0, none⟩ = some (.int .i64 e.k) ∧ w.cell? ⟨b, 1, none⟩ = some (.int .i64 e.g) ∧ w.cell? ⟨b, 2, none⟩ = some (.int .i64 e.o) ∧ w.cell? ⟨b, 3, none⟩ = some (.int .i64 e.w) ∧ w.cell? ⟨b, 4, none⟩ = some (.int .i64 e.l) ∧ w.cell? ⟨b, 5, none⟩ = some (.int .i64 e.s) ∧ w.cell? ⟨b, 6, none⟩ = some (.int .i64 e.f) ∧ w.cell? ⟨b, 7, none⟩ = some (.int .i64 e.t)
theorem EvAt.fr {w w' : World} {b : Nat} {e : Ev} (h : EvAt w b e) (k : Fr w w') : EvAt w' b e := by
  obtain ⟨c0, c1, c2, c3, c4, c5, c6, c7⟩ := h
  exact ⟨k.cell c0, k.cell c1, k.cell c2, k.cell c3, k.cell c4, k.cell c5, k.cell c6, k.cell c7⟩
theorem EvAt.new (w : World) (e : Ev) (t : TypeId) : EvAt (w.alloc (.cells #[.int .i64 e.k, .int .i64 e.g, .int .i64 e.o, .int .i64 e.w, .int .i64 e.l, .int .i64 e.s, .int .i64 e.f, .int .i64 e.t] t)) w.heap.size e := by
  refine ⟨?_, ?_, ?_, ?_, ?_, ?_, ?_, ?_⟩ <;> rw [cell_of_row _ _ _ _ _ _ (heap_alloc_new w _)] <;> rfl

set_option maxHeartbeats 1000000 in
theorem toEvent_any (e : Ev) (w : World) :
    Calls Tryz.prog 34 #[.agg #[.int .i64 e.k, .int .i64 e.g, .int .i64 e.o, .int .i64 e.w, .int .i64 e.l, .int .i64 e.s, .int .i64 e.f, .int .i64 e.t]] w fun x w' => x = .returned (.agg #[.int .i64 e.k, .int .i64 e.g, .int .i64 e.o, .int .i64 e.w, .int .i64 e.l, .int .i64 e.s, .int .i64 e.f, .int .i64 e.t]) ∧ Fr w w' := by
  obtain ⟨k, g, o, wi, l, sz, f, t⟩ := e
  simp only
  go_enter Tryz.func34, Tryz.ntmps34
  go_wp2_with fail
  refine bodyPost_ret (v := .agg #[.int .i64 k, .int .i64 g, .int .i64 o, .int .i64 wi, .int .i64 l, .int .i64 sz, .int .i64 f, .int .i64 t]) (by simp [results, Tryz.results34, go_sem]) rfl ⟨rfl, ?_⟩
  exact ((Fr.alloc _ _).trans (Fr.alloc _ _)).trans (Fr.alloc _ _)

/-- An event that lies in a block of its own. -/
def EvB (w : World) (b : Nat) (e : Ev) : Prop := w.heap[b]? = some (.cells #[.int .i64 e.k, .int .i64 e.g, .int .i64 e.o, .int .i64 e.w, .int .i64 e.l, .int .i64 e.s, .int .i64 e.f, .int .i64 e.t] 31 (0, 0))

theorem EvB.lt {w : World} {b : Nat} {e : Ev} (h : EvB w b e) : b < w.heap.size := (Array.getElem?_eq_some_iff.1 h).1
theorem EvB.keep {w w' : World} {b : Nat} {e : Ev} {row : Option Nat} (h : EvB w b e) (k : w.grownBy w' row) (hr : row ≠ some b) : EvB w' b e := (k.block b h.lt (fun q => hr q.symm)).trans h
theorem EvB.new (w : World) (e : Ev) : EvB (w.alloc (.cells #[.int .i64 e.k, .int .i64 e.g, .int .i64 e.o, .int .i64 e.w, .int .i64 e.l, .int .i64 e.s, .int .i64 e.f, .int .i64 e.t] 31)) w.heap.size e := heap_alloc_new w _
theorem EvB.at {w : World} {b : Nat} {e : Ev} (h : EvB w b e) : EvAt w b e := by
  refine ⟨?_, ?_, ?_, ?_, ?_, ?_, ?_, ?_⟩ <;> rw [cell_of_row _ _ _ _ _ _ h] <;> rfl
theorem EvB.free {w : World} {b : Nat} {e : Ev} (h : EvB w b e) (i : Nat) : w.frozen? ⟨b, i, none⟩ = false := frozen_of_row w b i _ _ h
theorem EvB.setK {w : World} {b : Nat} {e : Ev} (h : EvB w b e) (x : Int) : EvB (w.setCell ⟨b, 0, none⟩ (.int .i64 x)) b { e with k := x } := by
  have h1 := heap_setCell_same w b 0 _ _ (.int .i64 x) h
  exact h1
theorem EvB.setG {w : World} {b : Nat} {e : Ev} (h : EvB w b e) (x : Int) : EvB (w.setCell ⟨b, 1, none⟩ (.int .i64 x)) b { e with g := x } := by
  have h1 := heap_setCell_same w b 1 _ _ (.int .i64 x) h
  exact h1
theorem EvB.setO {w : World} {b : Nat} {e : Ev} (h : EvB w b e) (x : Int) : EvB (w.setCell ⟨b, 2, none⟩ (.int .i64 x)) b { e with o := x } := by
  have h1 := heap_setCell_same w b 2 _ _ (.int .i64 x) h
  exact h1
theorem EvB.setW {w : World} {b : Nat} {e : Ev} (h : EvB w b e) (x : Int) : EvB (w.setCell ⟨b, 3, none⟩ (.int .i64 x)) b { e with w := x } := by
  have h1 := heap_setCell_same w b 3 _ _ (.int .i64 x) h
  exact h1
theorem EvB.setL {w : World} {b : Nat} {e : Ev} (h : EvB w b e) (x : Int) : EvB (w.setCell ⟨b, 4, none⟩ (.int .i64 x)) b { e with l := x } := by
  have h1 := heap_setCell_same w b 4 _ _ (.int .i64 x) h
  exact h1
theorem EvB.setS {w : World} {b : Nat} {e : Ev} (h : EvB w b e) (x : Int) : EvB (w.setCell ⟨b, 5, none⟩ (.int .i64 x)) b { e with s := x } := by
  have h1 := heap_setCell_same w b 5 _ _ (.int .i64 x) h
  exact h1
theorem EvB.setF {w : World} {b : Nat} {e : Ev} (h : EvB w b e) (x : Int) : EvB (w.setCell ⟨b, 6, none⟩ (.int .i64 x)) b { e with f := x } := by
  have h1 := heap_setCell_same w b 6 _ _ (.int .i64 x) h
  exact h1
theorem EvB.setT {w : World} {b : Nat} {e : Ev} (h : EvB w b e) (x : Int) : EvB (w.setCell ⟨b, 7, none⟩ (.int .i64 x)) b { e with t := x } := by
  have h1 := heap_setCell_same w b 7 _ _ (.int .i64 x) h
  exact h1
end Go.Proofs.YthehhiccfnhinaaGreatDoor
/-
  The program's questions on a board: who lacks a goroutine; what was done once.
-/
namespace Go.Proofs.YthehhiccfnhinaaGreatDoor
open Go.RowKit

def lacksB (g : Int) (e : Ev) : Bool := decide (g ≤ e.g) || (decide (e.k = 1) && decide (e.o ≠ g)) || (decide (e.k = 9) && (decide (g ≤ e.w) || decide (e.w = e.g)))

set_option maxHeartbeats 1000000 in
theorem lacksGor_any (b : Nat) (g : Int) (e : Ev) (w : World) (hb : w.cell? ⟨b, 0, none⟩ = some (.int .i64 g)) :
    Calls Tryz.prog 127 #[.pointer (some ⟨b, 0, none⟩), .agg #[.int .i64 e.k, .int .i64 e.g, .int .i64 e.o, .int .i64 e.w, .int .i64 e.l, .int .i64 e.s, .int .i64 e.f, .int .i64 e.t]] w fun x w' => x = .returned (.bool (lacksB g e)) ∧ Fr w w' := by
  have fW := Fr.alloc w (.cells #[.int .i64 e.k, .int .i64 e.g, .int .i64 e.o, .int .i64 e.w, .int .i64 e.l, .int .i64 e.s, .int .i64 e.f, .int .i64 e.t] 31)
  have kE := EvAt.new w e 31
  have hb := fW.cell hb
  obtain ⟨R, hR⟩ : ∃ R, R = lacksB g e := ⟨_, rfl⟩
  rw [← hR]
  have HR : Hid (R = lacksB g e) := hR
  clear hR
  obtain ⟨k, gr, o, wi, l, sz, f, t⟩ := e
  simp only at fW kE hb ⊢
  go_enter Tryz.func127, Tryz.ntmps127
  go_wp2_with fail
  obtain ⟨W, hW⟩ : ∃ W, W = w.alloc (.cells #[.int .i64 k, .int .i64 gr, .int .i64 o, .int .i64 wi, .int .i64 l, .int .i64 sz, .int .i64 f, .int .i64 t] 31) := ⟨_, rfl⟩
  rw [← hW] at fW kE hb ⊢
  clear hW
  obtain ⟨c0, c1, c2, c3, c4, c5, c6, c7⟩ := kE
  simp only at c0 c1 c2 c3
  clear c4 c5 c6 c7
  go_region_held3 (fun u => u.cell? ⟨b, 0, none⟩ = some (.int .i64 g) ∧ u.cell? ⟨w.heap.size, 0, none⟩ = some (.int .i64 k) ∧ u.cell? ⟨w.heap.size, 1, none⟩ = some (.int .i64 gr) ∧ u.cell? ⟨w.heap.size, 2, none⟩ = some (.int .i64 o) ∧ u.cell? ⟨w.heap.size, 3, none⟩ = some (.int .i64 wi)) (go_keep) (fail)
  obtain ⟨V, hV⟩ : ∃ V, V = W.drew := ⟨_, rfl⟩
  have fV : Fr w V := by rw [hV]; exact fW.trans (Fr.drew W)
  have kE : V.cell? ⟨b, 0, none⟩ = some (.int .i64 g) ∧ V.cell? ⟨w.heap.size, 0, none⟩ = some (.int .i64 k) ∧ V.cell? ⟨w.heap.size, 1, none⟩ = some (.int .i64 gr) ∧ V.cell? ⟨w.heap.size, 2, none⟩ = some (.int .i64 o) ∧ V.cell? ⟨w.heap.size, 3, none⟩ = some (.int .i64 wi) := by rw [hV]; exact ⟨hb, c0, c1, c2, c3⟩
  rw [← hV]
  clear hV fW hb c0 c1 c2 c3
  obtain ⟨hb, c0, c1, c2, c3⟩ := kE
  by_cases h1 : g ≤ gr
  · have HN : Hid (R = true) := by show R = true; rw [HR.out]; simp [lacksB, h1]
    go_wp2_with fail
    go_ret
    exact ⟨ret_bool HN.out.symm, fV⟩
  · by_cases h2 : k = 1
    · subst h2
      by_cases h3 : o = g
      · have HN : Hid (R = false) := by show R = false; rw [HR.out]; simp [lacksB, h1, h3]
        have hq : (o != g) = false := by simp [h3]
        have h3 : Hid (o = g) := h3
        go_wp2_with fail
        go_region_held3 (fun u => u.cell? ⟨b, 0, none⟩ = some (.int .i64 g) ∧ u.cell? ⟨w.heap.size, 0, none⟩ = some (.int .i64 1) ∧ u.cell? ⟨w.heap.size, 1, none⟩ = some (.int .i64 gr) ∧ u.cell? ⟨w.heap.size, 2, none⟩ = some (.int .i64 o) ∧ u.cell? ⟨w.heap.size, 3, none⟩ = some (.int .i64 wi)) (go_keep) (fail)
        go_wp2_with fail
        go_ret
        exact ⟨ret_bool HN.out.symm, fV.trans (Fr.drew V)⟩
      · have HN : Hid (R = true) := by show R = true; rw [HR.out]; simp [lacksB, h1, h3]
        have hq : (o != g) = true := by simp [h3]
        go_wp2_with fail
        go_region_held3 (fun u => u.cell? ⟨b, 0, none⟩ = some (.int .i64 g) ∧ u.cell? ⟨w.heap.size, 0, none⟩ = some (.int .i64 1) ∧ u.cell? ⟨w.heap.size, 1, none⟩ = some (.int .i64 gr) ∧ u.cell? ⟨w.heap.size, 2, none⟩ = some (.int .i64 o) ∧ u.cell? ⟨w.heap.size, 3, none⟩ = some (.int .i64 wi)) (go_keep) (fail)
        go_wp2_with fail
        go_ret
        exact ⟨ret_bool HN.out.symm, fV.trans (Fr.drew V)⟩
    · by_cases h3 : k = 9
      · subst h3
        have := Later.some V
        have q0 : ∀ s : Later V, s.u.cell? ⟨b, 0, none⟩ = some (.int .i64 g) := fun s => s.fr.cell hb
        have q1 : ∀ s : Later V, s.u.cell? ⟨w.heap.size, 1, none⟩ = some (.int .i64 gr) := fun s => s.fr.cell c1
        have q3 : ∀ s : Later V, s.u.cell? ⟨w.heap.size, 3, none⟩ = some (.int .i64 wi) := fun s => s.fr.cell c3
        by_cases h4 : g ≤ wi
        · have HN : Hid (R = true) := by show R = true; rw [HR.out]; simp [lacksB, h4]
          go_wp2_with fail
          refine wp_region_grown (by kernel_rfl) (by kernel_rfl) ?_
          repeat (go_big_quiet_step (fail))
          refine wpQuiet_nil ?_
          rintro _ ⟨s, rfl⟩
          go_wp2_with fail
          go_ret
          exact ⟨ret_bool HN.out.symm, fV.trans s.fr⟩
        · by_cases h5 : wi = gr
          · have HN : Hid (R = true) := by show R = true; rw [HR.out]; simp [lacksB, h5]
            subst h5
            have hd : decide (g ≤ wi) = false := by simpa using h4
            go_wp2_with fail
            refine wp_region_grown (by kernel_rfl) (by kernel_rfl) ?_
            repeat (go_big_quiet_step (fail))
            refine wpQuiet_nil ?_
            rintro _ ⟨s, rfl⟩
            go_wp2_with fail
            go_ret
            exact ⟨ret_bool HN.out.symm, fV.trans s.fr⟩
          · have HN : Hid (R = false) := by show R = false; rw [HR.out]; simp [lacksB, h1, h4, h5]
            have hd : decide (g ≤ wi) = false := by simpa using h4
            go_wp2_with fail
            refine wp_region_grown (by kernel_rfl) (by kernel_rfl) ?_
            repeat (go_big_quiet_step (fail))
            refine wpQuiet_nil ?_
            rintro _ ⟨s, rfl⟩
            go_wp2_with fail
            go_ret
            exact ⟨ret_bool ((show (wi == gr) = false by simpa using h5).trans HN.out.symm), fV.trans s.fr⟩
      · have HN : Hid (R = false) := by show R = false; rw [HR.out]; simp [lacksB, h1, h2, h3]
        go_wp2_with fail
        go_ret
        exact ⟨ret_bool HN.out.symm, fV⟩
end Go.Proofs.YthehhiccfnhinaaGreatDoor
/-
  A switch that falls through: blocks in blocks, each with what is done behind it.
-/
namespace Go.Proofs.YthehhiccfnhinaaGreatDoor
open Go.RowKit

/-- The blocks, the innermost first, each with the code behind it. -/
def nestC : List (Nat × Code) → Code → Code
  | [], c => c
  | (n, t) :: r, c => nestC r ((Code.block n c).seq t)
def postC (P : Program) (Q : Exit → Act → World → Prop) : List (Nat × Code) → Exit → Act → World → Prop
  | [] => Q
  | (n, t) :: r => Exit.inBlock n (Exit.then (t.wp P (postC P Q r)) (postC P Q r))
theorem wp_nestC {P : Program} {Q : Exit → Act → World → Prop} {a : Act} {w : World} : ∀ (L : List (Nat × Code)) (c : Code), c.wp P (postC P Q L) a w → (nestC L c).wp P Q a w
  | [], _, h => h
  | (_, _) :: r, _, h => wp_nestC r _ (wp_seq (wp_block h))
/-- The code behind is not looked at. -/
theorem wp_opaque {P : Program} {c : Code} {Q : Exit → Act → World → Prop} {a : Act} {w : World} (h : ∀ Q0 : Exit → Act → World → Prop, (∀ e a w, Q e a w → Q0 e a w) → c.wp P Q0 a w) : c.wp P Q a w := h Q fun _ _ _ h => h
/-- Out to the block m, and on behind it. -/
theorem postC_at {P : Program} {Q : Exit → Act → World → Prop} {a : Act} {w : World} {m : Nat} {t : Code} {r : List (Nat × Code)} : ∀ (L : List (Nat × Code)), (L.all fun x => x.1 != m) = true → t.wp P (postC P Q r) a w → postC P Q (L ++ (m, t) :: r) (.exit m) a w
  | [], _, h => by
    show Exit.inBlock m (Exit.then (t.wp P (postC P Q r)) (postC P Q r)) (.exit m) a w
    simpa [Exit.inBlock, Exit.then] using h
  | (n, c) :: L, hL, h => by
    simp only [List.all_cons, Bool.and_eq_true, bne_iff_ne, ne_eq] at hL
    have ih := postC_at (P := P) (Q := Q) (a := a) (w := w) (m := m) (t := t) (r := r) L hL.2 h
    show Exit.inBlock n (Exit.then (c.wp P (postC P Q (L ++ (m, t) :: r))) (postC P Q (L ++ (m, t) :: r))) (.exit m) a w
    have hne : ¬ m = n := fun q => hL.1 q.symm
    simpa [Exit.inBlock, Exit.then, hne] using ih
/-- Out of them all. -/
theorem postC_out {P : Program} {Q : Exit → Act → World → Prop} {a : Act} {w : World} {m : Nat} : ∀ (L : List (Nat × Code)), (L.all fun x => x.1 != m) = true → Q (.exit m) a w → postC P Q L (.exit m) a w
  | [], _, h => h
  | (n, c) :: L, hL, h => by
    simp only [List.all_cons, Bool.and_eq_true, bne_iff_ne, ne_eq] at hL
    have ih := postC_out (P := P) (Q := Q) (a := a) (w := w) (m := m) L hL.2 h
    show Exit.inBlock n (Exit.then (c.wp P (postC P Q L)) (postC P Q L)) (.exit m) a w
    have hne : ¬ m = n := fun q => hL.1 q.symm
    simpa [Exit.inBlock, Exit.then, hne] using ih
theorem postC_ret {P : Program} {Q : Exit → Act → World → Prop} {a : Act} {w : World} : ∀ (L : List (Nat × Code)), Q .ret a w → postC P Q L .ret a w
  | [], h => h
  | (_, _) :: L, h => postC_ret (P := P) L h
/-- On into the next one. -/
theorem postC_on {P : Program} {Q : Exit → Act → World → Prop} {a : Act} {w : World} {n : Nat} {t : Code} {r : List (Nat × Code)} (h : t.wp P (postC P Q r) a w) : postC P Q ((n, t) :: r) .normal a w := h
theorem inBlock_same {Q : Exit → Act → World → Prop} {a : Act} {w : World} {n : Nat} (h : Q .normal a w) : Exit.inBlock n Q (.exit n) a w := by
  simpa [Exit.inBlock] using h
theorem inBlock_ret {Q : Exit → Act → World → Prop} {a : Act} {w : World} {n : Nat} (h : Q .ret a w) : Exit.inBlock n Q .ret a w := h
theorem then_ret {K : Act → World → Prop} {Q : Exit → Act → World → Prop} {a : Act} {w : World} (h : Q .ret a w) : Exit.then K Q .ret a w := h
end Go.Proofs.YthehhiccfnhinaaGreatDoor
/-
  The program's touches: what the kinds have in common.
-/
namespace Go.Proofs.YthehhiccfnhinaaGreatDoor
open Go.RowKit

theorem Tryz.infoT : (Tryz.prog.info? 225).map (fun i => (i.zero, i.size, i.bytes)) = some (some (.agg #[.int .i64 0, .int .i64 0, .int .i64 0, .bool false, .bool false]), 5, 32) := by kernel_rfl
/-- A touch in a block of its own. -/
def TchJ (w : World) (b : Nat) (c : Tch) : Prop := w.heap[b]? = some (.cells #[.int .i64 c.sp, .int .i64 c.ob, .int .i64 c.sl, .bool c.tk, .bool c.gv] 225 (0, 0))
theorem TchJ.lt {w : World} {b : Nat} {c : Tch} (h : TchJ w b c) : b < w.heap.size := (Array.getElem?_eq_some_iff.1 h).1
theorem TchJ.keep {w w' : World} {b : Nat} {c : Tch} {row : Option Nat} (h : TchJ w b c) (k : w.grownBy w' row) (hr : some b ≠ row) : TchJ w' b c := (k.block b h.lt hr).trans h
theorem TchJ.free {w : World} {b : Nat} {c : Tch} (h : TchJ w b c) (i : Nat) : w.frozen? ⟨b, i, none⟩ = false := frozen_of_row w b i _ _ h
theorem TchJ.at {w : World} {b : Nat} {c : Tch} (h : TchJ w b c) : w.cell? ⟨b, 0, none⟩ = some (.int .i64 c.sp) ∧ w.cell? ⟨b, 1, none⟩ = some (.int .i64 c.ob) ∧ w.cell? ⟨b, 2, none⟩ = some (.int .i64 c.sl) ∧ w.cell? ⟨b, 3, none⟩ = some (.bool c.tk) ∧ w.cell? ⟨b, 4, none⟩ = some (.bool c.gv) :=
  ⟨cell_of_row w b 0 _ _ _ h, cell_of_row w b 1 _ _ _ h, cell_of_row w b 2 _ _ _ h, cell_of_row w b 3 _ _ _ h, cell_of_row w b 4 _ _ _ h⟩
theorem litK_reads {α : Type} (L : Lay α) (w : World) (xs : List α) (hl : xs.length ≤ 1000) (o : Obj) (ho : o = .cells (xs.flatMap L.cs).toArray L.ty (0, 0)) (k : Nat) (hk : w.heap.size = k) : ReadsG L (w.alloc o) (some ⟨k, 0, none⟩) xs := by
  obtain ⟨g, c, e, h1, h2⟩ := ownG_litK L w xs hl o ho k 0 hk (Nat.zero_le _)
  simp only [Value.slice.injEq, Option.some.injEq, Addr.mk.injEq, and_true, true_and] at e
  obtain ⟨rfl, -⟩ := e
  exact own_readsG h1 h2
end Go.Proofs.YthehhiccfnhinaaGreatDoor
