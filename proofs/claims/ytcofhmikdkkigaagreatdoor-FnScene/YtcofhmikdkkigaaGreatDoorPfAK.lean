/-
  Pack AK: ScBy, ScBoard, ScNum, ScAsk.
-/
import Derived.Test.YtcofhmikdkkigaaGreatDoorPfAG
import Derived.Test.YtcofhmikdkkigaaGreatDoorPfAH
import Derived.Carry
import Derived.Deep.RegionHeld3
import Derived.Test.YtcofhmikdkkigaaGreatDoorPfAJ
import Derived.Test.YtcofhmikdkkigaaGreatDoorPfAI
namespace Go.Proofs.YtcofhmikdkkigaaGreatDoor
open Go.RowKit

def numF {α : Type} (num : α → Int) (val : α → Value) (xs : List α) : Int → Option Value := xs.foldl (fun f x => putM f (num x) (val x)) (fun _ => none)
theorem numF_snoc {α : Type} (num : α → Int) (val : α → Value) (xs : List α) (k : Nat) (hk : k < xs.length) : numF num val (xs.take (k + 1)) = putM (numF num val (xs.take k)) (num xs[k]) (val xs[k]) := by
  unfold numF
  rw [List.take_succ_eq_append_getElem hk, List.foldl_append]
  rfl

set_option maxHeartbeats 1000000 in
theorem byI_any (ao : Option Addr) (n c : Nat) (xs : List Int) (w : World) (hn : xs.length = n) (hl : xs.length ≤ 1048576) (h : Reads w ao xs) :
    Calls Tryz.prog 101 #[.slice ao n c, .func (.func 70) #[] #[]] w fun e w' => ∃ b, e = .returned (.map (some b)) ∧ w.heap.size ≤ b ∧ MapF w' b xs.length (numF id (fun x => .int .i64 x) xs) ∧ Fr w w' := by
  subst hn
  have hmk : ∀ u : World, Sem.run Tryz.prog (Instr.makeMap 138 none) u = .ok (.map (some u.heap.size)) (u.alloc (.map #[] 0)) := fun u => run_makeMap _ u
  go_enter Tryz.func101, Tryz.ntmps101
  go_wp2_with fail
  obtain ⟨B, hB⟩ : ∃ B, B = w.heap.size := ⟨_, rfl⟩
  have M0 := MapF.made w
  rw [← hB] at M0 ⊢
  have HB : Hid (w.heap.size ≤ B) := Nat.le_of_eq hB.symm
  clear hB
  go_loopw [11] (fun i wr => ∃ (k : Nat), k ≤ xs.length ∧ i = .int .i64 k ∧ MapF wr B k (numF id (fun x => .int .i64 x) (xs.take k)) ∧ Fr w wr) (fun i _ => xs.length - (intOf i).toNat)
  case atStart => exact ⟨0, Nat.zero_le _, rfl, by simpa [numF] using M0, Fr.alloc w _⟩
  case round =>
    clear M0
    obtain ⟨k, hk, rfl, M, hf⟩ := hrel
    by_cases hlt : k < xs.length
    · obtain ⟨b, off, rfl, hc⟩ := (h.fr hf).at_ k hlt
      have hck := hc k hlt
      rw [getD_at hlt] at hck
      have hz := h.bd xs[k] (List.getElem_mem hlt)
      have HS : Hid (numF id (fun x => .int .i64 x) (xs.take (k + 1)) = putM (numF id (fun x => .int .i64 x) (xs.take k)) xs[k] (.int .i64 xs[k])) := numF_snoc id (fun x => .int .i64 x) xs k hlt
      obtain ⟨F, hF⟩ : ∃ F, F = numF id (fun x => .int .i64 x) (xs.take k) := ⟨_, rfl⟩
      rw [← hF] at HS M
      clear hF
      obtain ⟨z, hzz⟩ : ∃ z, z = xs[k] := ⟨_, rfl⟩
      rw [← hzz] at hck HS hz
      clear hzz hc
      go_wp2_with fail
      refine (itself_any _ _).mono ?_
      rintro e y ⟨rfl, rfl⟩
      go_wp2_with (at_mapUpdate; refine wp_put rfl _ _ _ _ rfl Tryz.underlying138 B k F z (.int .i64 z) rfl rfl rfl M (by unfold maxLen; omega) hz ?_; intro w1 M1 g1)
      go_roundw
      case rel => exact ⟨k + 1, by omega, by go_num, by rw [HS.out]; exact M1, hf.then g1 (fun j hj => by cases hj; exact HB.out)⟩
      case measure => simp [intOf]; omega
    · have e : xs.take k = xs := List.take_of_length_le (by omega)
      have e2 : k = xs.length := by omega
      rw [e] at M
      have HM : Hid (MapF wr B xs.length (numF id (fun x => .int .i64 x) xs)) := by rw [e2] at M; exact M
      clear M e e2
      go_wp2_with fail
      go_ret
      exact ⟨B, rfl, HB.out, HM.out, hf⟩
set_option maxHeartbeats 1000000 in
theorem byN_any (ao : Option Addr) (n c : Nat) (xs : List Ct) (w : World) (hn : xs.length = n) (hl : xs.length ≤ 1048576) (h : ReadsG layN w ao xs) (hi : ∀ x ∈ xs, I64 x.o) :
    Calls Tryz.prog 99 #[.slice ao n c, .func (.func 100) #[] #[]] w fun e w' => ∃ b, e = .returned (.map (some b)) ∧ w.heap.size ≤ b ∧ MapF w' b xs.length (numF Ct.o (fun x => .agg #[.int .i64 x.o, .int .i64 x.n]) xs) ∧ Fr w w' := by
  subst hn
  have hmk : ∀ u : World, Sem.run Tryz.prog (Instr.makeMap 135 none) u = .ok (.map (some u.heap.size)) (u.alloc (.map #[] 0)) := fun u => run_makeMap _ u
  go_enter Tryz.func99, Tryz.ntmps99
  go_wp2_with fail
  obtain ⟨B, hB⟩ : ∃ B, B = w.heap.size := ⟨_, rfl⟩
  have M0 := MapF.made w
  rw [← hB] at M0 ⊢
  have HB : Hid (w.heap.size ≤ B) := Nat.le_of_eq hB.symm
  clear hB
  go_loopw [11] (fun i wr => ∃ (k : Nat), k ≤ xs.length ∧ i = .int .i64 k ∧ MapF wr B k (numF Ct.o (fun x => .agg #[.int .i64 x.o, .int .i64 x.n]) (xs.take k)) ∧ Fr w wr) (fun i _ => xs.length - (intOf i).toNat)
  case atStart => exact ⟨0, Nat.zero_le _, rfl, by simpa [numF] using M0, Fr.alloc w _⟩
  case round =>
    clear M0
    obtain ⟨k, hk, rfl, M, hf⟩ := hrel
    by_cases hlt : k < xs.length
    · obtain ⟨b, off, rfl, d0, d1⟩ := ct_at (h.fr hf) k hlt
      have hz := hi xs[k] (List.getElem_mem hlt)
      have HS : Hid (numF Ct.o (fun x => .agg #[.int .i64 x.o, .int .i64 x.n]) (xs.take (k + 1)) = putM (numF Ct.o (fun x => .agg #[.int .i64 x.o, .int .i64 x.n]) (xs.take k)) xs[k].o ((fun x => .agg #[.int .i64 x.o, .int .i64 x.n]) xs[k])) := numF_snoc Ct.o (fun x => .agg #[.int .i64 x.o, .int .i64 x.n]) xs k hlt
      obtain ⟨F, hF⟩ : ∃ F, F = numF Ct.o (fun x => .agg #[.int .i64 x.o, .int .i64 x.n]) (xs.take k) := ⟨_, rfl⟩
      rw [← hF] at HS M
      clear hF
      obtain ⟨e, he⟩ : ∃ e, e = xs[k] := ⟨_, rfl⟩
      rw [← he] at HS hz
      simp only [← he] at d0 d1
      clear he
      obtain ⟨z, n2⟩ := e
      simp only at d0 d1 HS hz
      have hne : ¬ (some wr.heap.size = some B) := fun q => by have := M.lt; simp only [Option.some.injEq] at q; omega
      have f1 := Fr.alloc wr (.cells #[.int .i64 z, .int .i64 n2] 92)
      have kC : ∀ u row, (wr.alloc (.cells #[.int .i64 z, .int .i64 n2] 92)).grownBy u row → ¬ (some wr.heap.size = row) → u.cell? ⟨wr.heap.size, 0, none⟩ = some (.int .i64 z) ∧ u.cell? ⟨wr.heap.size, 1, none⟩ = some (.int .i64 n2) := fun u row g q => ⟨g.cell (v := .int .i64 z) (by simp [go_sem]) q, g.cell (v := .int .i64 n2) (by simp [go_sem]) q⟩
      have M := M.fr f1
      have hf := hf.trans f1
      clear f1
      go_wp2_with fail
      obtain ⟨C, hC⟩ : ∃ C, C = wr.heap.size := ⟨_, rfl⟩
      obtain ⟨W, hW⟩ : ∃ W, W = wr.alloc (.cells #[.int .i64 z, .int .i64 n2] 92) := ⟨_, rfl⟩
      rw [← hC] at hne kC ⊢
      rw [← hW] at M hf kC ⊢
      clear hC hW d0 d1
      obtain ⟨y0, y1⟩ := kC W none (Fr.refl W) (by simp)
      go_region_held3 (fun u => u.cell? ⟨C, 0, none⟩ = some (.int .i64 z) ∧ u.cell? ⟨C, 1, none⟩ = some (.int .i64 n2)) (go_keep)
        (first | (go_at_call 100; refine (countNumber_any ⟨z, n2⟩ _).mono ?_; rintro x u3 ⟨rfl, f3⟩; have g3 := (Fr.drew W).trans f3; obtain ⟨p0, p1⟩ := kC u3 none g3 (by simp); obtain ⟨w1, hrun, M1, g1⟩ := (M.fr g3).put Tryz.underlying135 (by unfold maxLen; omega) hz (.agg #[.int .i64 z, .int .i64 n2]); obtain ⟨q0, q1⟩ := kC w1 (some B) (grown_trans g3.wide g1) hne))
      go_wp2_with fail
      go_roundw
      case rel => exact ⟨k + 1, by omega, by go_num, by rw [HS.out]; exact M1, (hf.trans g3).then g1 (fun j hj => by cases hj; exact HB.out)⟩
      case measure => simp [intOf]; omega
    · have e : xs.take k = xs := List.take_of_length_le (by omega)
      have e2 : k = xs.length := by omega
      rw [e] at M
      have HM : Hid (MapF wr B xs.length (numF Ct.o (fun x => .agg #[.int .i64 x.o, .int .i64 x.n]) xs)) := by rw [e2] at M; exact M
      clear M e e2
      go_wp2_with fail
      go_ret
      exact ⟨B, rfl, HB.out, HM.out, hf⟩

set_option maxHeartbeats 1000000 in
theorem byC_any (ao : Option Addr) (n c : Nat) (xs : List Ch) (w : World) (hn : xs.length = n) (hl : xs.length ≤ 1048576) (h : ReadsG layC w ao xs) (hi : ∀ x ∈ xs, I64 x.o) :
    Calls Tryz.prog 97 #[.slice ao n c, .func (.func 98) #[] #[]] w fun e w' => ∃ b, e = .returned (.map (some b)) ∧ w.heap.size ≤ b ∧ MapF w' b xs.length (numF Ch.o (fun x => .agg #[.int .i64 x.o, .int .i64 x.cap, .int .i64 x.sent, .int .i64 x.got, .bool x.cl]) xs) ∧ Fr w w' := by
  subst hn
  have hmk : ∀ u : World, Sem.run Tryz.prog (Instr.makeMap 132 none) u = .ok (.map (some u.heap.size)) (u.alloc (.map #[] 0)) := fun u => run_makeMap _ u
  go_enter Tryz.func97, Tryz.ntmps97
  go_wp2_with fail
  obtain ⟨B, hB⟩ : ∃ B, B = w.heap.size := ⟨_, rfl⟩
  have M0 := MapF.made w
  rw [← hB] at M0 ⊢
  have HB : Hid (w.heap.size ≤ B) := Nat.le_of_eq hB.symm
  clear hB
  go_loopw [11] (fun i wr => ∃ (k : Nat), k ≤ xs.length ∧ i = .int .i64 k ∧ MapF wr B k (numF Ch.o (fun x => .agg #[.int .i64 x.o, .int .i64 x.cap, .int .i64 x.sent, .int .i64 x.got, .bool x.cl]) (xs.take k)) ∧ Fr w wr) (fun i _ => xs.length - (intOf i).toNat)
  case atStart => exact ⟨0, Nat.zero_le _, rfl, by simpa [numF] using M0, Fr.alloc w _⟩
  case round =>
    clear M0
    obtain ⟨k, hk, rfl, M, hf⟩ := hrel
    by_cases hlt : k < xs.length
    · obtain ⟨b, off, rfl, d0, d1, d2, d3, d4⟩ := ch_at (h.fr hf) k hlt
      have hz := hi xs[k] (List.getElem_mem hlt)
      have HS : Hid (numF Ch.o (fun x => .agg #[.int .i64 x.o, .int .i64 x.cap, .int .i64 x.sent, .int .i64 x.got, .bool x.cl]) (xs.take (k + 1)) = putM (numF Ch.o (fun x => .agg #[.int .i64 x.o, .int .i64 x.cap, .int .i64 x.sent, .int .i64 x.got, .bool x.cl]) (xs.take k)) xs[k].o ((fun x => .agg #[.int .i64 x.o, .int .i64 x.cap, .int .i64 x.sent, .int .i64 x.got, .bool x.cl]) xs[k])) := numF_snoc Ch.o (fun x => .agg #[.int .i64 x.o, .int .i64 x.cap, .int .i64 x.sent, .int .i64 x.got, .bool x.cl]) xs k hlt
      obtain ⟨F, hF⟩ : ∃ F, F = numF Ch.o (fun x => .agg #[.int .i64 x.o, .int .i64 x.cap, .int .i64 x.sent, .int .i64 x.got, .bool x.cl]) (xs.take k) := ⟨_, rfl⟩
      rw [← hF] at HS M
      clear hF
      obtain ⟨e, he⟩ : ∃ e, e = xs[k] := ⟨_, rfl⟩
      rw [← he] at HS hz
      simp only [← he] at d0 d1 d2 d3 d4
      clear he
      obtain ⟨z, cap, sent, got, cl⟩ := e
      simp only at d0 d1 d2 d3 d4 HS hz
      have hne : ¬ (some wr.heap.size = some B) := fun q => by have := M.lt; simp only [Option.some.injEq] at q; omega
      have f1 := Fr.alloc wr (.cells #[.int .i64 z, .int .i64 cap, .int .i64 sent, .int .i64 got, .bool cl] 89)
      have kC : ∀ u row, (wr.alloc (.cells #[.int .i64 z, .int .i64 cap, .int .i64 sent, .int .i64 got, .bool cl] 89)).grownBy u row → ¬ (some wr.heap.size = row) → u.cell? ⟨wr.heap.size, 0, none⟩ = some (.int .i64 z) ∧ u.cell? ⟨wr.heap.size, 1, none⟩ = some (.int .i64 cap) ∧ u.cell? ⟨wr.heap.size, 2, none⟩ = some (.int .i64 sent) ∧ u.cell? ⟨wr.heap.size, 3, none⟩ = some (.int .i64 got) ∧ u.cell? ⟨wr.heap.size, 4, none⟩ = some (.bool cl) := fun u row g q => ⟨g.cell (v := .int .i64 z) (by simp [go_sem]) q, g.cell (v := .int .i64 cap) (by simp [go_sem]) q, g.cell (v := .int .i64 sent) (by simp [go_sem]) q, g.cell (v := .int .i64 got) (by simp [go_sem]) q, g.cell (v := .bool cl) (by simp [go_sem]) q⟩
      have M := M.fr f1
      have hf := hf.trans f1
      clear f1
      go_wp2_with fail
      obtain ⟨C, hC⟩ : ∃ C, C = wr.heap.size := ⟨_, rfl⟩
      obtain ⟨W, hW⟩ : ∃ W, W = wr.alloc (.cells #[.int .i64 z, .int .i64 cap, .int .i64 sent, .int .i64 got, .bool cl] 89) := ⟨_, rfl⟩
      rw [← hC] at hne kC ⊢
      rw [← hW] at M hf kC ⊢
      clear hC hW d0 d1 d2 d3 d4
      obtain ⟨y0, y1, y2, y3, y4⟩ := kC W none (Fr.refl W) (by simp)
      go_region_held3 (fun u => u.cell? ⟨C, 0, none⟩ = some (.int .i64 z) ∧ u.cell? ⟨C, 1, none⟩ = some (.int .i64 cap) ∧ u.cell? ⟨C, 2, none⟩ = some (.int .i64 sent) ∧ u.cell? ⟨C, 3, none⟩ = some (.int .i64 got) ∧ u.cell? ⟨C, 4, none⟩ = some (.bool cl)) (go_keep)
        (first | (go_at_call 98; refine (chanNumber_any ⟨z, cap, sent, got, cl⟩ _).mono ?_; rintro x u3 ⟨rfl, f3⟩; have g3 := (Fr.drew W).trans f3; obtain ⟨p0, p1, p2, p3, p4⟩ := kC u3 none g3 (by simp); obtain ⟨w1, hrun, M1, g1⟩ := (M.fr g3).put Tryz.underlying132 (by unfold maxLen; omega) hz (.agg #[.int .i64 z, .int .i64 cap, .int .i64 sent, .int .i64 got, .bool cl]); obtain ⟨q0, q1, q2, q3, q4⟩ := kC w1 (some B) (grown_trans g3.wide g1) hne))
      go_wp2_with fail
      go_roundw
      case rel => exact ⟨k + 1, by omega, by go_num, by rw [HS.out]; exact M1, (hf.trans g3).then g1 (fun j hj => by cases hj; exact HB.out)⟩
      case measure => simp [intOf]; omega
    · have e : xs.take k = xs := List.take_of_length_le (by omega)
      have e2 : k = xs.length := by omega
      rw [e] at M
      have HM : Hid (MapF wr B xs.length (numF Ch.o (fun x => .agg #[.int .i64 x.o, .int .i64 x.cap, .int .i64 x.sent, .int .i64 x.got, .bool x.cl]) xs)) := by rw [e2] at M; exact M
      clear M e e2
      go_wp2_with fail
      go_ret
      exact ⟨B, rfl, HB.out, HM.out, hf⟩

set_option maxHeartbeats 1000000 in
theorem byL_any (ao : Option Addr) (n c : Nat) (xs : List Lv) (w : World) (hn : xs.length = n) (hl : xs.length ≤ 1048576) (h : ReadsG layL w ao xs) (hi : ∀ x ∈ xs, I64 x.o) :
    Calls Tryz.prog 95 #[.slice ao n c, .func (.func 96) #[] #[]] w fun e w' => ∃ b, e = .returned (.map (some b)) ∧ w.heap.size ≤ b ∧ MapF w' b xs.length (numF Lv.o (fun x => .agg #[.int .i64 x.o, .int .i64 x.wr, .slice x.ro x.rn x.rc]) xs) ∧ Fr w w' := by
  subst hn
  have hmk : ∀ u : World, Sem.run Tryz.prog (Instr.makeMap 129 none) u = .ok (.map (some u.heap.size)) (u.alloc (.map #[] 0)) := fun u => run_makeMap _ u
  go_enter Tryz.func95, Tryz.ntmps95
  go_wp2_with fail
  obtain ⟨B, hB⟩ : ∃ B, B = w.heap.size := ⟨_, rfl⟩
  have M0 := MapF.made w
  rw [← hB] at M0 ⊢
  have HB : Hid (w.heap.size ≤ B) := Nat.le_of_eq hB.symm
  clear hB
  go_loopw [11] (fun i wr => ∃ (k : Nat), k ≤ xs.length ∧ i = .int .i64 k ∧ MapF wr B k (numF Lv.o (fun x => .agg #[.int .i64 x.o, .int .i64 x.wr, .slice x.ro x.rn x.rc]) (xs.take k)) ∧ Fr w wr) (fun i _ => xs.length - (intOf i).toNat)
  case atStart => exact ⟨0, Nat.zero_le _, rfl, by simpa [numF] using M0, Fr.alloc w _⟩
  case round =>
    clear M0
    obtain ⟨k, hk, rfl, M, hf⟩ := hrel
    by_cases hlt : k < xs.length
    · obtain ⟨b, off, rfl, d0, d1, d2⟩ := lv_at (h.fr hf) k hlt
      have hz := hi xs[k] (List.getElem_mem hlt)
      have HS : Hid (numF Lv.o (fun x => .agg #[.int .i64 x.o, .int .i64 x.wr, .slice x.ro x.rn x.rc]) (xs.take (k + 1)) = putM (numF Lv.o (fun x => .agg #[.int .i64 x.o, .int .i64 x.wr, .slice x.ro x.rn x.rc]) (xs.take k)) xs[k].o ((fun x => .agg #[.int .i64 x.o, .int .i64 x.wr, .slice x.ro x.rn x.rc]) xs[k])) := numF_snoc Lv.o (fun x => .agg #[.int .i64 x.o, .int .i64 x.wr, .slice x.ro x.rn x.rc]) xs k hlt
      obtain ⟨F, hF⟩ : ∃ F, F = numF Lv.o (fun x => .agg #[.int .i64 x.o, .int .i64 x.wr, .slice x.ro x.rn x.rc]) (xs.take k) := ⟨_, rfl⟩
      rw [← hF] at HS M
      clear hF
      obtain ⟨e, he⟩ : ∃ e, e = xs[k] := ⟨_, rfl⟩
      rw [← he] at HS hz
      simp only [← he] at d0 d1 d2
      clear he
      obtain ⟨z, wr2, ro, rn, rc⟩ := e
      simp only at d0 d1 d2 HS hz
      have hne : ¬ (some wr.heap.size = some B) := fun q => by have := M.lt; simp only [Option.some.injEq] at q; omega
      have f1 := Fr.alloc wr (.cells #[.int .i64 z, .int .i64 wr2, .slice ro rn rc] 86)
      have kC : ∀ u row, (wr.alloc (.cells #[.int .i64 z, .int .i64 wr2, .slice ro rn rc] 86)).grownBy u row → ¬ (some wr.heap.size = row) → u.cell? ⟨wr.heap.size, 0, none⟩ = some (.int .i64 z) ∧ u.cell? ⟨wr.heap.size, 1, none⟩ = some (.int .i64 wr2) ∧ u.cell? ⟨wr.heap.size, 2, none⟩ = some (.slice ro rn rc) := fun u row g q => ⟨g.cell (v := .int .i64 z) (by simp [go_sem]) q, g.cell (v := .int .i64 wr2) (by simp [go_sem]) q, g.cell (v := .slice ro rn rc) (by simp [go_sem]) q⟩
      have M := M.fr f1
      have hf := hf.trans f1
      clear f1
      go_wp2_with fail
      obtain ⟨C, hC⟩ : ∃ C, C = wr.heap.size := ⟨_, rfl⟩
      obtain ⟨W, hW⟩ : ∃ W, W = wr.alloc (.cells #[.int .i64 z, .int .i64 wr2, .slice ro rn rc] 86) := ⟨_, rfl⟩
      rw [← hC] at hne kC ⊢
      rw [← hW] at M hf kC ⊢
      clear hC hW d0 d1 d2
      obtain ⟨y0, y1, y2⟩ := kC W none (Fr.refl W) (by simp)
      go_region_held3 (fun u => u.cell? ⟨C, 0, none⟩ = some (.int .i64 z) ∧ u.cell? ⟨C, 1, none⟩ = some (.int .i64 wr2) ∧ u.cell? ⟨C, 2, none⟩ = some (.slice ro rn rc)) (go_keep)
        (first | (go_at_call 96; refine (lockNumber_any ⟨z, wr2, ro, rn, rc⟩ _).mono ?_; rintro x u3 ⟨rfl, f3⟩; have g3 := (Fr.drew W).trans f3; obtain ⟨p0, p1, p2⟩ := kC u3 none g3 (by simp); obtain ⟨w1, hrun, M1, g1⟩ := (M.fr g3).put Tryz.underlying129 (by unfold maxLen; omega) hz (.agg #[.int .i64 z, .int .i64 wr2, .slice ro rn rc]); obtain ⟨q0, q1, q2⟩ := kC w1 (some B) (grown_trans g3.wide g1) hne))
      go_wp2_with fail
      go_roundw
      case rel => exact ⟨k + 1, by omega, by go_num, by rw [HS.out]; exact M1, (hf.trans g3).then g1 (fun j hj => by cases hj; exact HB.out)⟩
      case measure => simp [intOf]; omega
    · have e : xs.take k = xs := List.take_of_length_le (by omega)
      have e2 : k = xs.length := by omega
      rw [e] at M
      have HM : Hid (MapF wr B xs.length (numF Lv.o (fun x => .agg #[.int .i64 x.o, .int .i64 x.wr, .slice x.ro x.rn x.rc]) xs)) := by rw [e2] at M; exact M
      clear M e e2
      go_wp2_with fail
      go_ret
      exact ⟨B, rfl, HB.out, HM.out, hf⟩
end Go.Proofs.YtcofhmikdkkigaaGreatDoor
namespace Go.Proofs.YtcofhmikdkkigaaGreatDoor
open Go.RowKit

def valL (x : Lv) : Value := .agg #[.int .i64 x.o, .int .i64 x.wr, .slice x.ro x.rn x.rc]
def valC (x : Ch) : Value := .agg #[.int .i64 x.o, .int .i64 x.cap, .int .i64 x.sent, .int .i64 x.got, .bool x.cl]
def valN (x : Ct) : Value := .agg #[.int .i64 x.o, .int .i64 x.n]
def valI (x : Int) : Value := .int .i64 x

structure Board (w : World) (b : Nat) (g : Int) (b1 b2 b3 b4 n1 n2 n3 n4 : Nat) (fl fc fn fo : Int → Option Value) : Prop where
  row : w.heap[b]? = some (.cells #[.int .i64 g, .map (some b1), .map (some b2), .map (some b3), .map (some b4)] 141 (0, 0))
  c0 : w.cell? ⟨b, 0, none⟩ = some (.int .i64 g)
  c1 : w.cell? ⟨b, 1, none⟩ = some (.map (some b1))
  c2 : w.cell? ⟨b, 2, none⟩ = some (.map (some b2))
  c3 : w.cell? ⟨b, 3, none⟩ = some (.map (some b3))
  c4 : w.cell? ⟨b, 4, none⟩ = some (.map (some b4))
  m1 : MapF w b1 n1 fl
  m2 : MapF w b2 n2 fc
  m3 : MapF w b3 n3 fn
  m4 : MapF w b4 n4 fo
theorem Board.fr {w w' : World} {b : Nat} {g : Int} {b1 b2 b3 b4 n1 n2 n3 n4 : Nat} {fl fc fn fo : Int → Option Value} (h : Board w b g b1 b2 b3 b4 n1 n2 n3 n4 fl fc fn fo) (k : Fr w w') : Board w' b g b1 b2 b3 b4 n1 n2 n3 n4 fl fc fn fo :=
  ⟨(k.block b (Array.getElem?_eq_some_iff.1 h.row).1 (by simp)).trans h.row, k.cell h.c0, k.cell h.c1, k.cell h.c2, k.cell h.c3, k.cell h.c4, h.m1.fr k, h.m2.fr k, h.m3.fr k, h.m4.fr k⟩

set_option maxHeartbeats 2000000 in
theorem boardOf_any {B : Nat → Prop} (s : Sv) (m : Scn) (lvs : List Lv) (w : World) (h : ScR B w s m) (r1 : ReadsG layL w s.lo lvs) (e1 : s.ll = lvs.length) (l1 : LksR B w lvs m.ls) :
    Calls Tryz.prog 51 #[.agg #[.int .i64 s.g, .slice s.lo s.ll s.lc, .slice s.co s.cl s.cc, .slice s.no s.nl s.nc, .slice s.oo s.ol s.oc]] w fun e w' => ∃ b b1 b2 b3 b4, e = .returned (.pointer (some ⟨b, 0, none⟩)) ∧ (w.heap.size ≤ b1 ∧ b1 < b2 ∧ b2 < b3 ∧ b3 < b4 ∧ b4 < b) ∧ Board w' b m.g b1 b2 b3 b4 lvs.length m.cs.length m.gs.length m.os.length (numF Lv.o valL lvs) (numF Ch.o valC m.cs) (numF Ct.o valN m.gs) (numF id valI m.os) ∧ Fr w w' := by
  have fW := Fr.alloc w (.cells #[.int .i64 s.g, .slice s.lo s.ll s.lc, .slice s.co s.cl s.cc, .slice s.no s.nl s.nc, .slice s.oo s.ol s.oc] 29)
  have k1 := ScK.new w s
  have hl1 : lvs.length ≤ 1048576 := by rw [l1.len]; exact h.sl
  have cL := fun u (f : Fr w u) => byL_any s.lo s.ll s.lc lvs u e1.symm hl1 (r1.fr f) (fun x hx => by
    obtain ⟨j, hj, rfl⟩ := List.mem_iff_getElem.1 hx
    have q := l1.at_ j hj (by rw [← l1.len]; exact hj)
    rw [q.o]; exact q.io)
  have cC := fun u (f : Fr w u) => byC_any s.co s.cl s.cc m.cs u h.cl.symm h.sc (h.chs.fr f) (fun x hx => (h.ic x hx).1)
  have cN := fun u (f : Fr w u) => byN_any s.no s.nl s.nc m.gs u h.nl.symm h.sn (h.cts.fr f) (fun x hx => (h.inn x hx).1)
  have cO := fun u (f : Fr w u) => byI_any s.oo s.ol s.oc m.os u h.ol.symm h.so (h.ons.fr f)
  have HG : Hid (s.g = m.g) := h.g
  have eL : numF Lv.o (fun x => .agg #[.int .i64 x.o, .int .i64 x.wr, .slice x.ro x.rn x.rc]) lvs = numF Lv.o valL lvs := rfl
  have eC : numF Ch.o (fun x => .agg #[.int .i64 x.o, .int .i64 x.cap, .int .i64 x.sent, .int .i64 x.got, .bool x.cl]) m.cs = numF Ch.o valC m.cs := rfl
  have eN : numF Ct.o (fun x => .agg #[.int .i64 x.o, .int .i64 x.n]) m.gs = numF Ct.o valN m.gs := rfl
  have eO : numF id (fun x => .int .i64 x) m.os = numF id valI m.os := rfl
  simp only [eL] at cL
  simp only [eC] at cC
  simp only [eN] at cN
  simp only [eO] at cO
  clear eL eC eN eO
  obtain ⟨FL, hFL⟩ : ∃ F, F = numF Lv.o valL lvs := ⟨_, rfl⟩
  obtain ⟨FC, hFC⟩ : ∃ F, F = numF Ch.o valC m.cs := ⟨_, rfl⟩
  obtain ⟨FN, hFN⟩ : ∃ F, F = numF Ct.o valN m.gs := ⟨_, rfl⟩
  obtain ⟨FO, hFO⟩ : ∃ F, F = numF id valI m.os := ⟨_, rfl⟩
  obtain ⟨N1, hN1⟩ : ∃ F, F = lvs.length := ⟨_, rfl⟩
  obtain ⟨N2, hN2⟩ : ∃ F, F = m.cs.length := ⟨_, rfl⟩
  obtain ⟨N3, hN3⟩ : ∃ F, F = m.gs.length := ⟨_, rfl⟩
  obtain ⟨N4, hN4⟩ : ∃ F, F = m.os.length := ⟨_, rfl⟩
  simp only [← hFL, ← hN1] at cL ⊢
  simp only [← hFC, ← hN2] at cC ⊢
  simp only [← hFN, ← hN3] at cN ⊢
  simp only [← hFO, ← hN4] at cO ⊢
  rw [← HG.out]
  clear hFL hFC hFN hFO hN1 hN2 hN3 hN4 h r1 e1 l1 hl1 HG
  obtain ⟨sg, lo, ll, lc, co, cl, cc, no, nl, nc, oo, ol, oc⟩ := s
  simp only at fW k1 cL cC cN cO ⊢
  go_enter Tryz.func51, Tryz.ntmps51
  go_wp2_with fail
  obtain ⟨W, hW⟩ : ∃ W, W = w.alloc (.cells #[.int .i64 sg, .slice lo ll lc, .slice co cl cc, .slice no nl nc, .slice oo ol oc] 29) := ⟨_, rfl⟩
  rw [← hW] at fW k1 ⊢
  clear hW
  have HQ : Hid (∀ u, Fr W u → ScB u w.heap.size ⟨sg, lo, ll, lc, co, cl, cc, no, nl, nc, oo, ol, oc⟩) := fun u f => (k1.fr f).at
  have fD : Fr w W.drew := fW.trans (Fr.drew W)
  obtain ⟨s0, s1, s2, s3, s4⟩ := k1.at
  simp only at s0 s1 s2 s3 s4
  clear k1
  go_region_held3 (fun u => u.cell? ⟨w.heap.size, 0, none⟩ = some (.int .i64 sg) ∧ u.cell? ⟨w.heap.size, 1, none⟩ = some (.slice lo ll lc) ∧ u.cell? ⟨w.heap.size, 2, none⟩ = some (.slice co cl cc) ∧ u.cell? ⟨w.heap.size, 3, none⟩ = some (.slice no nl nc) ∧ u.cell? ⟨w.heap.size, 4, none⟩ = some (.slice oo ol oc)) (go_keep)
    (first | (go_at_call 95; refine (cL _ fD).mono ?_; rintro x u1 ⟨b1, rfl, z1, M1, f1⟩; have g1 := (Fr.drew W).trans f1; obtain ⟨p0, p1, p2, p3, p4⟩ := HQ.out _ g1; simp only at p0 p1 p2 p3 p4) | (go_at_call 97; refine (cC _ (fW.trans g1)).mono ?_; rintro x u2 ⟨b2, rfl, z2, M2, f2⟩; have g2 := g1.trans f2; obtain ⟨q0, q1, q2, q3, q4⟩ := HQ.out _ g2; simp only at q0 q1 q2 q3 q4) | (go_at_call 99; refine (cN _ (fW.trans g2)).mono ?_; rintro x u3 ⟨b3, rfl, z3, M3, f3⟩; have g3 := g2.trans f3; obtain ⟨t0, t1, t2, t3, t4⟩ := HQ.out _ g3; simp only at t0 t1 t2 t3 t4) | (go_at_call 101; refine (cO _ (fW.trans g3)).mono ?_; rintro x u4 ⟨b4, rfl, z4, M4, f4⟩; have g4 := g3.trans f4; obtain ⟨v0, v1, v2, v3, v4⟩ := HQ.out _ g4; simp only at v0 v1 v2 v3 v4))
  go_wp2_with fail
  go_ret
  have fE := Fr.alloc u4 (.cells #[.int .i64 sg, .map (some b1), .map (some b2), .map (some b3), .map (some b4)] 141)
  have y1 := fD.size
  have y2 := f1.size
  have y3 := f2.size
  have y4 := f3.size
  have y5 := f4.size
  have y6 := M1.lt
  have y7 := M2.lt
  have y8 := M3.lt
  have y9 := M4.lt
  exact ⟨u4.heap.size, b1, b2, b3, b4, rfl, ⟨by omega, by omega, by omega, by omega, by omega⟩, { row := heap_alloc_new u4 _, c0 := by simp [go_sem], c1 := by simp [go_sem], c2 := by simp [go_sem], c3 := by simp [go_sem], c4 := by simp [go_sem], m1 := M1.fr (f2.trans (f3.trans (f4.trans fE))), m2 := M2.fr (f3.trans (f4.trans fE)), m3 := M3.fr (f4.trans fE), m4 := M4.fr fE }, (fW.trans g4).trans fE⟩
end Go.Proofs.YtcofhmikdkkigaaGreatDoor
namespace Go.Proofs.YtcofhmikdkkigaaGreatDoor
open Go.RowKit

theorem numF_fold {α : Type} (num : α → Int) (val : α → Value) (o : Int) : ∀ (xs : List α) (f : Int → Option Value), (xs.foldl (fun f x => putM f (num x) (val x)) f) o = ((xs.reverse.find? (fun x => num x == o)).map val).or (f o)
  | [], f => rfl
  | x :: xs, f => by
    rw [List.foldl_cons, numF_fold num val o xs, List.reverse_cons, List.find?_append]
    cases h : xs.reverse.find? (fun x => num x == o) with
    | some y => rfl
    | none =>
      by_cases e : num x = o
      · simp [putM, e]
      · have e2 : ¬ o = num x := fun q => e q.symm
        simp [putM, e, e2]
theorem numF_at {α : Type} (num : α → Int) (val : α → Value) (xs : List α) (o : Int) : numF num val xs o = (xs.reverse.find? (fun x => num x == o)).map val := by
  rw [numF, numF_fold]
  simp
theorem find_rev {α : Type} (num : α → Int) (o : Int) (xs : List α) (h : xs.Pairwise (fun a b => num a < num b)) : xs.reverse.find? (fun x => num x == o) = xs.find? (fun x => num x == o) := by
  induction xs with
  | nil => rfl
  | cons x xs ih =>
    obtain ⟨h1, h2⟩ := List.pairwise_cons.1 h
    rw [List.reverse_cons, List.find?_append, ih h2, List.find?_cons]
    by_cases e : num x = o
    · have : xs.find? (fun x => num x == o) = none := List.find?_eq_none.2 fun y hy => by
        have := h1 y hy
        simp
        omega
      simp [this, e]
    · have e2 : (num x == o) = false := by simpa using e
      simp [e2]
theorem numF_up {α : Type} (num : α → Int) (val : α → Value) (xs : List α) (o : Int) (h : xs.Pairwise (fun a b => num a < num b)) : numF num val xs o = (xs.find? (fun x => num x == o)).map val := by
  rw [numF_at, find_rev num o xs h]
theorem up_pair {α : Type} (num : α → Int) (most : Int) : ∀ (xs : List α) (last : Int), upFrom most last (xs.map num) = true → (∀ x ∈ xs, last < num x) ∧ xs.Pairwise (fun a b => num a < num b)
  | [], _, _ => ⟨by simp, List.Pairwise.nil⟩
  | x :: xs, last, h => by
    rw [List.map_cons, upFrom] at h
    simp only [Bool.and_eq_true, decide_eq_true_eq] at h
    obtain ⟨⟨h1, _⟩, h3⟩ := h
    obtain ⟨i1, i2⟩ := up_pair num most xs (num x) h3
    refine ⟨fun y hy => ?_, List.pairwise_cons.2 ⟨i1, i2⟩⟩
    rcases List.mem_cons.1 hy with rfl | hy
    · exact h1
    · have := i1 y hy
      omega
end Go.Proofs.YtcofhmikdkkigaaGreatDoor
namespace Go.Proofs.YtcofhmikdkkigaaGreatDoor
open Go.RowKit

def lacksB (g : Int) (e : Ev) : Bool := decide (g ≤ e.g) || (decide (e.k = 1) && decide (e.o ≠ g)) || (decide (e.k = 9) && (decide (g ≤ e.w) || decide (e.w = e.g)))

set_option maxHeartbeats 1000000 in
theorem lacksGor_any (b : Nat) (g : Int) (e : Ev) (w : World) (hb : w.cell? ⟨b, 0, none⟩ = some (.int .i64 g)) :
    Calls Tryz.prog 115 #[.pointer (some ⟨b, 0, none⟩), .agg #[.int .i64 e.k, .int .i64 e.g, .int .i64 e.o, .int .i64 e.w, .int .i64 e.l, .int .i64 e.s, .int .i64 e.f, .int .i64 e.t]] w fun x w' => x = .returned (.bool (lacksB g e)) ∧ Fr w w' := by
  have fW := Fr.alloc w (.cells #[.int .i64 e.k, .int .i64 e.g, .int .i64 e.o, .int .i64 e.w, .int .i64 e.l, .int .i64 e.s, .int .i64 e.f, .int .i64 e.t] 31)
  have kE := EvAt.new w e 31
  have hb := fW.cell hb
  obtain ⟨R, hR⟩ : ∃ R, R = lacksB g e := ⟨_, rfl⟩
  rw [← hR]
  have HR : Hid (R = lacksB g e) := hR
  clear hR
  obtain ⟨k, gr, o, wi, l, sz, f, t⟩ := e
  simp only at fW kE hb ⊢
  go_enter Tryz.func115, Tryz.ntmps115
  go_wp2_with fail
  obtain ⟨W, hW⟩ : ∃ W, W = w.alloc (.cells #[.int .i64 k, .int .i64 gr, .int .i64 o, .int .i64 wi, .int .i64 l, .int .i64 sz, .int .i64 f, .int .i64 t] 31) := ⟨_, rfl⟩
  rw [← hW] at fW kE hb ⊢
  clear hW
  obtain ⟨c0, c1, c2, c3, c4, c5, c6, c7⟩ := kE
  simp only at c0 c1 c2 c3
  clear c4 c5 c6 c7
  go_region_held3 (fun u => u.cell? ⟨b, 0, none⟩ = some (.int .i64 g) ∧ u.cell? ⟨w.heap.size, 0, none⟩ = some (.int .i64 k) ∧ u.cell? ⟨w.heap.size, 1, none⟩ = some (.int .i64 gr) ∧ u.cell? ⟨w.heap.size, 2, none⟩ = some (.int .i64 o) ∧ u.cell? ⟨w.heap.size, 3, none⟩ = some (.int .i64 wi)) (go_keep) (fail)
  obtain ⟨V, hV⟩ : ∃ V, V = W.drew := ⟨_, rfl⟩
  have fV : Fr w V := by rw [hV]; exact fW.trans (Fr.drew W)
  have kE : V.cell? ⟨b, 0, none⟩ = some (.int .i64 g) ∧ V.cell? ⟨w.heap.size, 0, none⟩ = some (.int .i64 k) ∧ V.cell? ⟨w.heap.size, 1, none⟩ = some (.int .i64 gr) ∧ V.cell? ⟨w.heap.size, 2, none⟩ = some (.int .i64 o) ∧ V.cell? ⟨w.heap.size, 3, none⟩ = some (.int .i64 wi) := by rw [hV]; exact ⟨hb, c0, c1, c2, c3⟩
  rw [← hV]
  clear hV fW hb c0 c1 c2 c3
  obtain ⟨hb, c0, c1, c2, c3⟩ := kE
  by_cases h1 : g ≤ gr
  · have HN : Hid (R = true) := by show R = true; rw [HR.out]; simp [lacksB, h1]
    go_wp2_with fail
    go_ret
    exact ⟨ret_bool HN.out.symm, fV⟩
  · by_cases h2 : k = 1
    · subst h2
      by_cases h3 : o = g
      · have HN : Hid (R = false) := by show R = false; rw [HR.out]; simp [lacksB, h1, h3]
        have hq : (o != g) = false := by simp [h3]
        have h3 : Hid (o = g) := h3
        go_wp2_with fail
        go_region_held3 (fun u => u.cell? ⟨b, 0, none⟩ = some (.int .i64 g) ∧ u.cell? ⟨w.heap.size, 0, none⟩ = some (.int .i64 1) ∧ u.cell? ⟨w.heap.size, 1, none⟩ = some (.int .i64 gr) ∧ u.cell? ⟨w.heap.size, 2, none⟩ = some (.int .i64 o) ∧ u.cell? ⟨w.heap.size, 3, none⟩ = some (.int .i64 wi)) (go_keep) (fail)
        go_wp2_with fail
        go_ret
        exact ⟨ret_bool HN.out.symm, fV.trans (Fr.drew V)⟩
      · have HN : Hid (R = true) := by show R = true; rw [HR.out]; simp [lacksB, h1, h3]
        have hq : (o != g) = true := by simp [h3]
        go_wp2_with fail
        go_region_held3 (fun u => u.cell? ⟨b, 0, none⟩ = some (.int .i64 g) ∧ u.cell? ⟨w.heap.size, 0, none⟩ = some (.int .i64 1) ∧ u.cell? ⟨w.heap.size, 1, none⟩ = some (.int .i64 gr) ∧ u.cell? ⟨w.heap.size, 2, none⟩ = some (.int .i64 o) ∧ u.cell? ⟨w.heap.size, 3, none⟩ = some (.int .i64 wi)) (go_keep) (fail)
        go_wp2_with fail
        go_ret
        exact ⟨ret_bool HN.out.symm, fV.trans (Fr.drew V)⟩
    · by_cases h3 : k = 9
      · subst h3
        have := Later.some V
        have q0 : ∀ s : Later V, s.u.cell? ⟨b, 0, none⟩ = some (.int .i64 g) := fun s => s.fr.cell hb
        have q1 : ∀ s : Later V, s.u.cell? ⟨w.heap.size, 1, none⟩ = some (.int .i64 gr) := fun s => s.fr.cell c1
        have q3 : ∀ s : Later V, s.u.cell? ⟨w.heap.size, 3, none⟩ = some (.int .i64 wi) := fun s => s.fr.cell c3
        by_cases h4 : g ≤ wi
        · have HN : Hid (R = true) := by show R = true; rw [HR.out]; simp [lacksB, h4]
          go_wp2_with fail
          refine wp_region_grown (by kernel_rfl) (by kernel_rfl) ?_
          repeat (go_big_quiet_step (fail))
          refine wpQuiet_nil ?_
          rintro _ ⟨s, rfl⟩
          go_wp2_with fail
          go_ret
          exact ⟨ret_bool HN.out.symm, fV.trans s.fr⟩
        · by_cases h5 : wi = gr
          · have HN : Hid (R = true) := by show R = true; rw [HR.out]; simp [lacksB, h5]
            subst h5
            have hd : decide (g ≤ wi) = false := by simpa using h4
            go_wp2_with fail
            refine wp_region_grown (by kernel_rfl) (by kernel_rfl) ?_
            repeat (go_big_quiet_step (fail))
            refine wpQuiet_nil ?_
            rintro _ ⟨s, rfl⟩
            go_wp2_with fail
            go_ret
            exact ⟨ret_bool HN.out.symm, fV.trans s.fr⟩
          · have HN : Hid (R = false) := by show R = false; rw [HR.out]; simp [lacksB, h1, h4, h5]
            have hd : decide (g ≤ wi) = false := by simpa using h4
            go_wp2_with fail
            refine wp_region_grown (by kernel_rfl) (by kernel_rfl) ?_
            repeat (go_big_quiet_step (fail))
            refine wpQuiet_nil ?_
            rintro _ ⟨s, rfl⟩
            go_wp2_with fail
            go_ret
            exact ⟨ret_bool ((show (wi == gr) = false by simpa using h5).trans HN.out.symm), fV.trans s.fr⟩
      · have HN : Hid (R = false) := by show R = false; rw [HR.out]; simp [lacksB, h1, h2, h3]
        go_wp2_with fail
        go_ret
        exact ⟨ret_bool HN.out.symm, fV⟩
end Go.Proofs.YtcofhmikdkkigaaGreatDoor
