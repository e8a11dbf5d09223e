/-
  byNumber: a list's things in a map, by their numbers.
-/
import Derived.Test.YtikjodbboljhjaaGreatDoorScMap
import Derived.Test.YtikjodbboljhjaaGreatDoorScRise
import Derived.Carry
import Derived.Deep.RegionHeld3
namespace Go.Proofs.YtikjodbboljhjaaGreatDoor
open Go.RowKit

/-- What the map holds. -/
def numF {α : Type} (num : α → Int) (val : α → Value) (xs : List α) : Int → Option Value := xs.foldl (fun f x => putM f (num x) (val x)) (fun _ => none)
theorem numF_snoc {α : Type} (num : α → Int) (val : α → Value) (xs : List α) (k : Nat) (hk : k < xs.length) : numF num val (xs.take (k + 1)) = putM (numF num val (xs.take k)) (num xs[k]) (val xs[k]) := by
  unfold numF
  rw [List.take_succ_eq_append_getElem hk, List.foldl_append]
  rfl

set_option maxHeartbeats 1000000 in
theorem byI_any (ao : Option Addr) (n c : Nat) (xs : List Int) (w : World) (hn : xs.length = n) (hl : xs.length ≤ 1048576) (h : Reads w ao xs) :
    Calls Tryz.prog 98 #[.slice ao n c, .func (.func 58) #[] #[]] w fun e w' => ∃ b, e = .returned (.map (some b)) ∧ w.heap.size ≤ b ∧ MapF w' b xs.length (numF id (fun x => .int .i64 x) xs) ∧ Fr w w' := by
  subst hn
  have hmk : ∀ u : World, Sem.run Tryz.prog (Instr.makeMap 134 none) u = .ok (.map (some u.heap.size)) (u.alloc (.map #[] 0)) := fun u => run_makeMap _ u
  go_enter Tryz.func98, Tryz.ntmps98
  go_wp2_with fail
  obtain ⟨B, hB⟩ : ∃ B, B = w.heap.size := ⟨_, rfl⟩
  have M0 := MapF.made w
  rw [← hB] at M0 ⊢
  have HB : Hid (w.heap.size ≤ B) := Nat.le_of_eq hB.symm
  clear hB
  go_loopw [11] (fun i wr => ∃ (k : Nat), k ≤ xs.length ∧ i = .int .i64 k ∧ MapF wr B k (numF id (fun x => .int .i64 x) (xs.take k)) ∧ Fr w wr) (fun i _ => xs.length - (intOf i).toNat)
  case atStart => exact ⟨0, Nat.zero_le _, rfl, by simpa [numF] using M0, Fr.alloc w _⟩
  case round =>
    clear M0
    obtain ⟨k, hk, rfl, M, hf⟩ := hrel
    by_cases hlt : k < xs.length
    · obtain ⟨b, off, rfl, hc⟩ := (h.fr hf).at_ k hlt
      have hck := hc k hlt
      rw [getD_at hlt] at hck
      have hz := h.bd xs[k] (List.getElem_mem hlt)
      have HS : Hid (numF id (fun x => .int .i64 x) (xs.take (k + 1)) = putM (numF id (fun x => .int .i64 x) (xs.take k)) xs[k] (.int .i64 xs[k])) := numF_snoc id (fun x => .int .i64 x) xs k hlt
      obtain ⟨F, hF⟩ : ∃ F, F = numF id (fun x => .int .i64 x) (xs.take k) := ⟨_, rfl⟩
      rw [← hF] at HS M
      clear hF
      obtain ⟨z, hzz⟩ : ∃ z, z = xs[k] := ⟨_, rfl⟩
      rw [← hzz] at hck HS hz
      clear hzz hc
      go_wp2_with fail
      refine (itself_any _ _).mono ?_
      rintro e y ⟨rfl, rfl⟩
      go_wp2_with (at_mapUpdate; refine wp_put rfl _ _ _ _ rfl Tryz.underlying134 B k F z (.int .i64 z) rfl rfl rfl M (by unfold maxLen; omega) hz ?_; intro w1 M1 g1)
      go_roundw
      case rel => exact ⟨k + 1, by omega, by go_num, by rw [HS.out]; exact M1, hf.then g1 (fun j hj => by cases hj; exact HB.out)⟩
      case measure => simp [intOf]; omega
    · have e : xs.take k = xs := List.take_of_length_le (by omega)
      have e2 : k = xs.length := by omega
      rw [e] at M
      have HM : Hid (MapF wr B xs.length (numF id (fun x => .int .i64 x) xs)) := by rw [e2] at M; exact M
      clear M e e2
      go_wp2_with fail
      go_ret
      exact ⟨B, rfl, HB.out, HM.out, hf⟩
set_option maxHeartbeats 1000000 in
theorem byN_any (ao : Option Addr) (n c : Nat) (xs : List Ct) (w : World) (hn : xs.length = n) (hl : xs.length ≤ 1048576) (h : ReadsG layN w ao xs) (hi : ∀ x ∈ xs, I64 x.o) :
    Calls Tryz.prog 96 #[.slice ao n c, .func (.func 97) #[] #[]] w fun e w' => ∃ b, e = .returned (.map (some b)) ∧ w.heap.size ≤ b ∧ MapF w' b xs.length (numF Ct.o (fun x => .agg #[.int .i64 x.o, .int .i64 x.n]) xs) ∧ Fr w w' := by
  subst hn
  have hmk : ∀ u : World, Sem.run Tryz.prog (Instr.makeMap 131 none) u = .ok (.map (some u.heap.size)) (u.alloc (.map #[] 0)) := fun u => run_makeMap _ u
  go_enter Tryz.func96, Tryz.ntmps96
  go_wp2_with fail
  obtain ⟨B, hB⟩ : ∃ B, B = w.heap.size := ⟨_, rfl⟩
  have M0 := MapF.made w
  rw [← hB] at M0 ⊢
  have HB : Hid (w.heap.size ≤ B) := Nat.le_of_eq hB.symm
  clear hB
  go_loopw [11] (fun i wr => ∃ (k : Nat), k ≤ xs.length ∧ i = .int .i64 k ∧ MapF wr B k (numF Ct.o (fun x => .agg #[.int .i64 x.o, .int .i64 x.n]) (xs.take k)) ∧ Fr w wr) (fun i _ => xs.length - (intOf i).toNat)
  case atStart => exact ⟨0, Nat.zero_le _, rfl, by simpa [numF] using M0, Fr.alloc w _⟩
  case round =>
    clear M0
    obtain ⟨k, hk, rfl, M, hf⟩ := hrel
    by_cases hlt : k < xs.length
    · obtain ⟨b, off, rfl, d0, d1⟩ := ct_at (h.fr hf) k hlt
      have hz := hi xs[k] (List.getElem_mem hlt)
      have HS : Hid (numF Ct.o (fun x => .agg #[.int .i64 x.o, .int .i64 x.n]) (xs.take (k + 1)) = putM (numF Ct.o (fun x => .agg #[.int .i64 x.o, .int .i64 x.n]) (xs.take k)) xs[k].o ((fun x => .agg #[.int .i64 x.o, .int .i64 x.n]) xs[k])) := numF_snoc Ct.o (fun x => .agg #[.int .i64 x.o, .int .i64 x.n]) xs k hlt
      obtain ⟨F, hF⟩ : ∃ F, F = numF Ct.o (fun x => .agg #[.int .i64 x.o, .int .i64 x.n]) (xs.take k) := ⟨_, rfl⟩
      rw [← hF] at HS M
      clear hF
      obtain ⟨e, he⟩ : ∃ e, e = xs[k] := ⟨_, rfl⟩
      rw [← he] at HS hz
      simp only [← he] at d0 d1
      clear he
      obtain ⟨z, n2⟩ := e
      simp only at d0 d1 HS hz
      have hne : ¬ (some wr.heap.size = some B) := fun q => by have := M.lt; simp only [Option.some.injEq] at q; omega
      have f1 := Fr.alloc wr (.cells #[.int .i64 z, .int .i64 n2] 85)
      have kC : ∀ u row, (wr.alloc (.cells #[.int .i64 z, .int .i64 n2] 85)).grownBy u row → ¬ (some wr.heap.size = row) → u.cell? ⟨wr.heap.size, 0, none⟩ = some (.int .i64 z) ∧ u.cell? ⟨wr.heap.size, 1, none⟩ = some (.int .i64 n2) := fun u row g q => ⟨g.cell (v := .int .i64 z) (by simp [go_sem]) q, g.cell (v := .int .i64 n2) (by simp [go_sem]) q⟩
      have M := M.fr f1
      have hf := hf.trans f1
      clear f1
      go_wp2_with fail
      obtain ⟨C, hC⟩ : ∃ C, C = wr.heap.size := ⟨_, rfl⟩
      obtain ⟨W, hW⟩ : ∃ W, W = wr.alloc (.cells #[.int .i64 z, .int .i64 n2] 85) := ⟨_, rfl⟩
      rw [← hC] at hne kC ⊢
      rw [← hW] at M hf kC ⊢
      clear hC hW d0 d1
      obtain ⟨y0, y1⟩ := kC W none (Fr.refl W) (by simp)
      go_region_held3 (fun u => u.cell? ⟨C, 0, none⟩ = some (.int .i64 z) ∧ u.cell? ⟨C, 1, none⟩ = some (.int .i64 n2)) (go_keep)
        (first | (go_at_call 97; refine (countNumber_any ⟨z, n2⟩ _).mono ?_; rintro x u3 ⟨rfl, f3⟩; have g3 := (Fr.drew W).trans f3; obtain ⟨p0, p1⟩ := kC u3 none g3 (by simp); obtain ⟨w1, hrun, M1, g1⟩ := (M.fr g3).put Tryz.underlying131 (by unfold maxLen; omega) hz (.agg #[.int .i64 z, .int .i64 n2]); obtain ⟨q0, q1⟩ := kC w1 (some B) (grown_trans g3.wide g1) hne))
      go_wp2_with fail
      go_roundw
      case rel => exact ⟨k + 1, by omega, by go_num, by rw [HS.out]; exact M1, (hf.trans g3).then g1 (fun j hj => by cases hj; exact HB.out)⟩
      case measure => simp [intOf]; omega
    · have e : xs.take k = xs := List.take_of_length_le (by omega)
      have e2 : k = xs.length := by omega
      rw [e] at M
      have HM : Hid (MapF wr B xs.length (numF Ct.o (fun x => .agg #[.int .i64 x.o, .int .i64 x.n]) xs)) := by rw [e2] at M; exact M
      clear M e e2
      go_wp2_with fail
      go_ret
      exact ⟨B, rfl, HB.out, HM.out, hf⟩

set_option maxHeartbeats 1000000 in
theorem byC_any (ao : Option Addr) (n c : Nat) (xs : List Ch) (w : World) (hn : xs.length = n) (hl : xs.length ≤ 1048576) (h : ReadsG layC w ao xs) (hi : ∀ x ∈ xs, I64 x.o) :
    Calls Tryz.prog 94 #[.slice ao n c, .func (.func 95) #[] #[]] w fun e w' => ∃ b, e = .returned (.map (some b)) ∧ w.heap.size ≤ b ∧ MapF w' b xs.length (numF Ch.o (fun x => .agg #[.int .i64 x.o, .int .i64 x.cap, .int .i64 x.sent, .int .i64 x.got, .bool x.cl]) xs) ∧ Fr w w' := by
  subst hn
  have hmk : ∀ u : World, Sem.run Tryz.prog (Instr.makeMap 128 none) u = .ok (.map (some u.heap.size)) (u.alloc (.map #[] 0)) := fun u => run_makeMap _ u
  go_enter Tryz.func94, Tryz.ntmps94
  go_wp2_with fail
  obtain ⟨B, hB⟩ : ∃ B, B = w.heap.size := ⟨_, rfl⟩
  have M0 := MapF.made w
  rw [← hB] at M0 ⊢
  have HB : Hid (w.heap.size ≤ B) := Nat.le_of_eq hB.symm
  clear hB
  go_loopw [11] (fun i wr => ∃ (k : Nat), k ≤ xs.length ∧ i = .int .i64 k ∧ MapF wr B k (numF Ch.o (fun x => .agg #[.int .i64 x.o, .int .i64 x.cap, .int .i64 x.sent, .int .i64 x.got, .bool x.cl]) (xs.take k)) ∧ Fr w wr) (fun i _ => xs.length - (intOf i).toNat)
  case atStart => exact ⟨0, Nat.zero_le _, rfl, by simpa [numF] using M0, Fr.alloc w _⟩
  case round =>
    clear M0
    obtain ⟨k, hk, rfl, M, hf⟩ := hrel
    by_cases hlt : k < xs.length
    · obtain ⟨b, off, rfl, d0, d1, d2, d3, d4⟩ := ch_at (h.fr hf) k hlt
      have hz := hi xs[k] (List.getElem_mem hlt)
      have HS : Hid (numF Ch.o (fun x => .agg #[.int .i64 x.o, .int .i64 x.cap, .int .i64 x.sent, .int .i64 x.got, .bool x.cl]) (xs.take (k + 1)) = putM (numF Ch.o (fun x => .agg #[.int .i64 x.o, .int .i64 x.cap, .int .i64 x.sent, .int .i64 x.got, .bool x.cl]) (xs.take k)) xs[k].o ((fun x => .agg #[.int .i64 x.o, .int .i64 x.cap, .int .i64 x.sent, .int .i64 x.got, .bool x.cl]) xs[k])) := numF_snoc Ch.o (fun x => .agg #[.int .i64 x.o, .int .i64 x.cap, .int .i64 x.sent, .int .i64 x.got, .bool x.cl]) xs k hlt
      obtain ⟨F, hF⟩ : ∃ F, F = numF Ch.o (fun x => .agg #[.int .i64 x.o, .int .i64 x.cap, .int .i64 x.sent, .int .i64 x.got, .bool x.cl]) (xs.take k) := ⟨_, rfl⟩
      rw [← hF] at HS M
      clear hF
      obtain ⟨e, he⟩ : ∃ e, e = xs[k] := ⟨_, rfl⟩
      rw [← he] at HS hz
      simp only [← he] at d0 d1 d2 d3 d4
      clear he
      obtain ⟨z, cap, sent, got, cl⟩ := e
      simp only at d0 d1 d2 d3 d4 HS hz
      have hne : ¬ (some wr.heap.size = some B) := fun q => by have := M.lt; simp only [Option.some.injEq] at q; omega
      have f1 := Fr.alloc wr (.cells #[.int .i64 z, .int .i64 cap, .int .i64 sent, .int .i64 got, .bool cl] 82)
      have kC : ∀ u row, (wr.alloc (.cells #[.int .i64 z, .int .i64 cap, .int .i64 sent, .int .i64 got, .bool cl] 82)).grownBy u row → ¬ (some wr.heap.size = row) → u.cell? ⟨wr.heap.size, 0, none⟩ = some (.int .i64 z) ∧ u.cell? ⟨wr.heap.size, 1, none⟩ = some (.int .i64 cap) ∧ u.cell? ⟨wr.heap.size, 2, none⟩ = some (.int .i64 sent) ∧ u.cell? ⟨wr.heap.size, 3, none⟩ = some (.int .i64 got) ∧ u.cell? ⟨wr.heap.size, 4, none⟩ = some (.bool cl) := fun u row g q => ⟨g.cell (v := .int .i64 z) (by simp [go_sem]) q, g.cell (v := .int .i64 cap) (by simp [go_sem]) q, g.cell (v := .int .i64 sent) (by simp [go_sem]) q, g.cell (v := .int .i64 got) (by simp [go_sem]) q, g.cell (v := .bool cl) (by simp [go_sem]) q⟩
      have M := M.fr f1
      have hf := hf.trans f1
      clear f1
      go_wp2_with fail
      obtain ⟨C, hC⟩ : ∃ C, C = wr.heap.size := ⟨_, rfl⟩
      obtain ⟨W, hW⟩ : ∃ W, W = wr.alloc (.cells #[.int .i64 z, .int .i64 cap, .int .i64 sent, .int .i64 got, .bool cl] 82) := ⟨_, rfl⟩
      rw [← hC] at hne kC ⊢
      rw [← hW] at M hf kC ⊢
      clear hC hW d0 d1 d2 d3 d4
      obtain ⟨y0, y1, y2, y3, y4⟩ := kC W none (Fr.refl W) (by simp)
      go_region_held3 (fun u => u.cell? ⟨C, 0, none⟩ = some (.int .i64 z) ∧ u.cell? ⟨C, 1, none⟩ = some (.int .i64 cap) ∧ u.cell? ⟨C, 2, none⟩ = some (.int .i64 sent) ∧ u.cell? ⟨C, 3, none⟩ = some (.int .i64 got) ∧ u.cell? ⟨C, 4, none⟩ = some (.bool cl)) (go_keep)
        (first | (go_at_call 95; refine (chanNumber_any ⟨z, cap, sent, got, cl⟩ _).mono ?_; rintro x u3 ⟨rfl, f3⟩; have g3 := (Fr.drew W).trans f3; obtain ⟨p0, p1, p2, p3, p4⟩ := kC u3 none g3 (by simp); obtain ⟨w1, hrun, M1, g1⟩ := (M.fr g3).put Tryz.underlying128 (by unfold maxLen; omega) hz (.agg #[.int .i64 z, .int .i64 cap, .int .i64 sent, .int .i64 got, .bool cl]); obtain ⟨q0, q1, q2, q3, q4⟩ := kC w1 (some B) (grown_trans g3.wide g1) hne))
      go_wp2_with fail
      go_roundw
      case rel => exact ⟨k + 1, by omega, by go_num, by rw [HS.out]; exact M1, (hf.trans g3).then g1 (fun j hj => by cases hj; exact HB.out)⟩
      case measure => simp [intOf]; omega
    · have e : xs.take k = xs := List.take_of_length_le (by omega)
      have e2 : k = xs.length := by omega
      rw [e] at M
      have HM : Hid (MapF wr B xs.length (numF Ch.o (fun x => .agg #[.int .i64 x.o, .int .i64 x.cap, .int .i64 x.sent, .int .i64 x.got, .bool x.cl]) xs)) := by rw [e2] at M; exact M
      clear M e e2
      go_wp2_with fail
      go_ret
      exact ⟨B, rfl, HB.out, HM.out, hf⟩

set_option maxHeartbeats 1000000 in
theorem byL_any (ao : Option Addr) (n c : Nat) (xs : List Lv) (w : World) (hn : xs.length = n) (hl : xs.length ≤ 1048576) (h : ReadsG layL w ao xs) (hi : ∀ x ∈ xs, I64 x.o) :
    Calls Tryz.prog 92 #[.slice ao n c, .func (.func 93) #[] #[]] w fun e w' => ∃ b, e = .returned (.map (some b)) ∧ w.heap.size ≤ b ∧ MapF w' b xs.length (numF Lv.o (fun x => .agg #[.int .i64 x.o, .int .i64 x.wr, .slice x.ro x.rn x.rc]) xs) ∧ Fr w w' := by
  subst hn
  have hmk : ∀ u : World, Sem.run Tryz.prog (Instr.makeMap 125 none) u = .ok (.map (some u.heap.size)) (u.alloc (.map #[] 0)) := fun u => run_makeMap _ u
  go_enter Tryz.func92, Tryz.ntmps92
  go_wp2_with fail
  obtain ⟨B, hB⟩ : ∃ B, B = w.heap.size := ⟨_, rfl⟩
  have M0 := MapF.made w
  rw [← hB] at M0 ⊢
  have HB : Hid (w.heap.size ≤ B) := Nat.le_of_eq hB.symm
  clear hB
  go_loopw [11] (fun i wr => ∃ (k : Nat), k ≤ xs.length ∧ i = .int .i64 k ∧ MapF wr B k (numF Lv.o (fun x => .agg #[.int .i64 x.o, .int .i64 x.wr, .slice x.ro x.rn x.rc]) (xs.take k)) ∧ Fr w wr) (fun i _ => xs.length - (intOf i).toNat)
  case atStart => exact ⟨0, Nat.zero_le _, rfl, by simpa [numF] using M0, Fr.alloc w _⟩
  case round =>
    clear M0
    obtain ⟨k, hk, rfl, M, hf⟩ := hrel
    by_cases hlt : k < xs.length
    · obtain ⟨b, off, rfl, d0, d1, d2⟩ := lv_at (h.fr hf) k hlt
      have hz := hi xs[k] (List.getElem_mem hlt)
      have HS : Hid (numF Lv.o (fun x => .agg #[.int .i64 x.o, .int .i64 x.wr, .slice x.ro x.rn x.rc]) (xs.take (k + 1)) = putM (numF Lv.o (fun x => .agg #[.int .i64 x.o, .int .i64 x.wr, .slice x.ro x.rn x.rc]) (xs.take k)) xs[k].o ((fun x => .agg #[.int .i64 x.o, .int .i64 x.wr, .slice x.ro x.rn x.rc]) xs[k])) := numF_snoc Lv.o (fun x => .agg #[.int .i64 x.o, .int .i64 x.wr, .slice x.ro x.rn x.rc]) xs k hlt
      obtain ⟨F, hF⟩ : ∃ F, F = numF Lv.o (fun x => .agg #[.int .i64 x.o, .int .i64 x.wr, .slice x.ro x.rn x.rc]) (xs.take k) := ⟨_, rfl⟩
      rw [← hF] at HS M
      clear hF
      obtain ⟨e, he⟩ : ∃ e, e = xs[k] := ⟨_, rfl⟩
      rw [← he] at HS hz
      simp only [← he] at d0 d1 d2
      clear he
      obtain ⟨z, wr2, ro, rn, rc⟩ := e
      simp only at d0 d1 d2 HS hz
      have hne : ¬ (some wr.heap.size = some B) := fun q => by have := M.lt; simp only [Option.some.injEq] at q; omega
      have f1 := Fr.alloc wr (.cells #[.int .i64 z, .int .i64 wr2, .slice ro rn rc] 47)
      have kC : ∀ u row, (wr.alloc (.cells #[.int .i64 z, .int .i64 wr2, .slice ro rn rc] 47)).grownBy u row → ¬ (some wr.heap.size = row) → u.cell? ⟨wr.heap.size, 0, none⟩ = some (.int .i64 z) ∧ u.cell? ⟨wr.heap.size, 1, none⟩ = some (.int .i64 wr2) ∧ u.cell? ⟨wr.heap.size, 2, none⟩ = some (.slice ro rn rc) := fun u row g q => ⟨g.cell (v := .int .i64 z) (by simp [go_sem]) q, g.cell (v := .int .i64 wr2) (by simp [go_sem]) q, g.cell (v := .slice ro rn rc) (by simp [go_sem]) q⟩
      have M := M.fr f1
      have hf := hf.trans f1
      clear f1
      go_wp2_with fail
      obtain ⟨C, hC⟩ : ∃ C, C = wr.heap.size := ⟨_, rfl⟩
      obtain ⟨W, hW⟩ : ∃ W, W = wr.alloc (.cells #[.int .i64 z, .int .i64 wr2, .slice ro rn rc] 47) := ⟨_, rfl⟩
      rw [← hC] at hne kC ⊢
      rw [← hW] at M hf kC ⊢
      clear hC hW d0 d1 d2
      obtain ⟨y0, y1, y2⟩ := kC W none (Fr.refl W) (by simp)
      go_region_held3 (fun u => u.cell? ⟨C, 0, none⟩ = some (.int .i64 z) ∧ u.cell? ⟨C, 1, none⟩ = some (.int .i64 wr2) ∧ u.cell? ⟨C, 2, none⟩ = some (.slice ro rn rc)) (go_keep)
        (first | (go_at_call 93; refine (lockNumber_any ⟨z, wr2, ro, rn, rc⟩ _).mono ?_; rintro x u3 ⟨rfl, f3⟩; have g3 := (Fr.drew W).trans f3; obtain ⟨p0, p1, p2⟩ := kC u3 none g3 (by simp); obtain ⟨w1, hrun, M1, g1⟩ := (M.fr g3).put Tryz.underlying125 (by unfold maxLen; omega) hz (.agg #[.int .i64 z, .int .i64 wr2, .slice ro rn rc]); obtain ⟨q0, q1, q2⟩ := kC w1 (some B) (grown_trans g3.wide g1) hne))
      go_wp2_with fail
      go_roundw
      case rel => exact ⟨k + 1, by omega, by go_num, by rw [HS.out]; exact M1, (hf.trans g3).then g1 (fun j hj => by cases hj; exact HB.out)⟩
      case measure => simp [intOf]; omega
    · have e : xs.take k = xs := List.take_of_length_le (by omega)
      have e2 : k = xs.length := by omega
      rw [e] at M
      have HM : Hid (MapF wr B xs.length (numF Lv.o (fun x => .agg #[.int .i64 x.o, .int .i64 x.wr, .slice x.ro x.rn x.rc]) xs)) := by rw [e2] at M; exact M
      clear M e e2
      go_wp2_with fail
      go_ret
      exact ⟨B, rfl, HB.out, HM.out, hf⟩
end Go.Proofs.YtikjodbboljhjaaGreatDoor
