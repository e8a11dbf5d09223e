/-
  Pack BQ: EvsEq, EvsMark.
-/
import Derived.Test.YtplnijpolkflcaaGreatDoorPqBE
namespace Go.Proofs.YtplnijpolkflcaaGreatDoor
open Go.RowKit

set_option maxHeartbeats 1000000 in
theorem eqEv_same (e : Ev) (w : World) :
    Calls Tryz.prog 101 #[.agg #[.int .i64 e.k, .int .i64 e.g, .int .i64 e.o, .int .i64 e.w, .int .i64 e.l, .int .i64 e.s, .int .i64 e.f, .int .i64 e.t], .agg #[.int .i64 e.k, .int .i64 e.g, .int .i64 e.o, .int .i64 e.w, .int .i64 e.l, .int .i64 e.s, .int .i64 e.f, .int .i64 e.t]] w fun x w' => x = .returned (.bool true) ∧ Fr w w' := by
  obtain ⟨k, g, o, wi, l, sz, f, t⟩ := e
  simp only
  go_enter Tryz.func101, Tryz.ntmps101
  go_wp2_with fail
  go_ret
  exact ⟨rfl, (Fr.alloc _ _).trans (Fr.alloc _ _)⟩

set_option maxHeartbeats 2000000 in
theorem eqEs_same (ao bo : Option Addr) (n c d : Nat) (es : List Ev) (w : World) (hn : es.length = n) (h : ReadsE w ao es) (h' : ReadsE w bo es) :
    Calls Tryz.prog 42 #[.slice ao n c, .slice bo n d] w fun e w' => e = .returned (.bool true) ∧ Fr w w' := by
  subst hn
  have hl := h.len
  go_enter Tryz.func42, Tryz.ntmps42
  go_wp2_with fail
  go_loopw [5] (fun i wr => ∃ k : Nat, k ≤ es.length ∧ i = .int .i64 k ∧ Fr w wr) (fun i _ => es.length - (intOf i).toNat)
  case atStart => exact ⟨0, Nat.zero_le _, rfl, Fr.refl _⟩
  case round =>
    obtain ⟨k, hk, rfl, hf⟩ := hrel
    by_cases hlt : k < es.length
    · obtain ⟨b, off, rfl, hc⟩ := (h.fr hf).at_ k hlt
      obtain ⟨b', off', rfl, hc'⟩ := (h'.fr hf).at_ k hlt
      have hk1 := hc k hlt
      have hk2 := hc' k hlt
      obtain ⟨e, he⟩ : ∃ e, e = es[k] := ⟨_, rfl⟩
      rw [← he] at hk1 hk2
      clear hc hc' he
      have cE := fun w => eqEv_same e w
      have := Later.some wr
      have p0 := fun s : Later wr => s.fr.cell hk1.c0
      have p1 := fun s : Later wr => s.fr.cell hk1.c1
      have p2 := fun s : Later wr => s.fr.cell hk1.c2
      have p3 := fun s : Later wr => s.fr.cell hk1.c3
      have p4 := fun s : Later wr => s.fr.cell hk1.c4
      have p5 := fun s : Later wr => s.fr.cell hk1.c5
      have p6 := fun s : Later wr => s.fr.cell hk1.c6
      have p7 := fun s : Later wr => s.fr.cell hk1.c7
      have r0 := fun s : Later wr => s.fr.cell hk2.c0
      have r1 := fun s : Later wr => s.fr.cell hk2.c1
      have r2 := fun s : Later wr => s.fr.cell hk2.c2
      have r3 := fun s : Later wr => s.fr.cell hk2.c3
      have r4 := fun s : Later wr => s.fr.cell hk2.c4
      have r5 := fun s : Later wr => s.fr.cell hk2.c5
      have r6 := fun s : Later wr => s.fr.cell hk2.c6
      have r7 := fun s : Later wr => s.fr.cell hk2.c7
      clear hk1 hk2
      go_wp2_with fail
      refine wp_region_grown (by kernel_rfl) (by kernel_rfl) ?_
      repeat (go_big_quiet_step (with_reducible exact Calls.grown_of (cE _)))
      refine wpQuiet_nil ?_
      rintro _ ⟨s, rfl⟩
      go_wp2_with fail
      go_roundw
      case rel => exact ⟨k + 1, by omega, by go_num, hf.trans s.fr⟩
      case measure => simp [intOf]; omega
    · go_wp2_with fail
      go_ret
      exact ⟨rfl, hf⟩
end Go.Proofs.YtplnijpolkflcaaGreatDoor
namespace Go.Proofs.YtplnijpolkflcaaGreatDoor
open Go.RowKit

def upE (c : Int) : Ev := ⟨c, c + 1, c + 1 + 1, c + 1 + 1 + 1, c + 1 + 1 + 1 + 1, c + 1 + 1 + 1 + 1 + 1, c + 1 + 1 + 1 + 1 + 1 + 1, c + 1 + 1 + 1 + 1 + 1 + 1 + 1⟩
def upsE (q : Int) (n : Nat) : List Ev := (List.range n).map fun j : Nat => upE (q + 8 * (j : Int))
theorem upsE_length (q : Int) (n : Nat) : (upsE q n).length = n := by simp [upsE]
theorem upsE_succ (q : Int) (n : Nat) : upsE q (n + 1) = upsE q n ++ [upE (q + 8 * (n : Int))] := by simp [upsE, List.range_succ]
theorem marked_step (D : List Ev) (M : List Value) (k n : Nat) (hD : D.length = k) (hk : k < n) (hM : M.length = n * 8) (e : Ev) :
    ((((((((D.flatMap evCells ++ M.drop (k * 8)).set (k * 8) (.int .i64 e.k)).set (k * 8 + 1) (.int .i64 e.g)).set (k * 8 + 2) (.int .i64 e.o)).set (k * 8 + 3) (.int .i64 e.w)).set (k * 8 + 4) (.int .i64 e.l)).set (k * 8 + 5) (.int .i64 e.s)).set (k * 8 + 6) (.int .i64 e.f)).set (k * 8 + 7) (.int .i64 e.t)
      = (D ++ [e]).flatMap evCells ++ M.drop ((k + 1) * 8) := by
  obtain ⟨m0, m1, m2, m3, m4, m5, m6, m7, hd⟩ := drop8 M (k * 8) (by omega)
  have hl : (D.flatMap evCells).length = k * 8 := by rw [cells_len, hD]
  rw [hd, set8 _ _ _ _ _ _ _ _ _ _ _ _ _ _ _ _ _ _ _ hl, show (k + 1) * 8 = k * 8 + 8 by omega, List.flatMap_append]
  simp [evCells]

set_option maxHeartbeats 2000000 in
theorem markEs_any (g n cap base : Nat) (q : Int) (es : List Ev) (w : World) (hn : es.length = n) (q0 : 0 ≤ q) (q1 : q ≤ 4294967296) (h : w.ownsRow base 31 8 (.slice (some ⟨g, 0, none⟩) n cap) n (es.flatMap evCells)) (hl : n ≤ 16777216) :
    Calls Tryz.prog 43 #[.slice (some ⟨g, 0, none⟩) n cap, .int .i64 q] w fun e w' => e = .returned (.int .i64 (q + 8 * (n : Int))) ∧ w'.ownsRow base 31 8 (.slice (some ⟨g, 0, none⟩) n cap) n ((upsE q n).flatMap evCells) ∧ w.grownBy w' (some g) := by
  obtain ⟨M, hM⟩ : ∃ M, M = es.flatMap evCells := ⟨_, rfl⟩
  have hMl : M.length = n * 8 := by rw [hM, cells_len, hn]
  rw [← hM] at h
  clear hM hn
  go_enter Tryz.func43, Tryz.ntmps43
  go_wp2_with fail
  go_loopw [1, 5] (fun c i wr => ∃ k : Nat, k ≤ n ∧ i = .int .i64 k ∧ c = .int .i64 (q + 8 * (k : Int)) ∧ wr.ownsRow base 31 8 (.slice (some ⟨g, 0, none⟩) n cap) n ((upsE q k).flatMap evCells ++ M.drop (k * 8)) ∧ w.grownBy wr (some g)) (fun _ i _ => n - (intOf i).toNat)
  case atStart => exact ⟨0, Nat.zero_le _, rfl, by simp, by simpa [upsE] using h, ⟨rfl, rfl, rfl, Nat.le_refl _, fun _ _ _ => rfl⟩⟩
  case round =>
    obtain ⟨k, hk, rfl, rfl, ho, hf⟩ := hrel
    by_cases hlt : k < n
    · have hll : ((upsE q k).flatMap evCells ++ M.drop (k * 8)).length = n * 8 := ho.1
      have hat : ∀ i, i < 8 → ∃ u, wr.cell? ⟨g, k * 8 + i, none⟩ = some u := fun i hi => by
        rw [ho.cellAt (k * 8 + i) (by omega)]
        exact ⟨_, List.getElem?_eq_getElem (by omega)⟩
      obtain ⟨p0, d0⟩ := hat 0 (by omega)
      obtain ⟨p1, d1⟩ := hat 1 (by omega)
      obtain ⟨p2, d2⟩ := hat 2 (by omega)
      obtain ⟨p3, d3⟩ := hat 3 (by omega)
      obtain ⟨p4, d4⟩ := hat 4 (by omega)
      obtain ⟨p5, d5⟩ := hat 5 (by omega)
      obtain ⟨p6, d6⟩ := hat 6 (by omega)
      obtain ⟨p7, d7⟩ := hat 7 (by omega)
      rw [Nat.add_zero] at d0
      have z0 := ho.frozenAt (k * 8)
      have z1 := ho.frozenAt (k * 8 + 1)
      have z2 := ho.frozenAt (k * 8 + 2)
      have z3 := ho.frozenAt (k * 8 + 3)
      have z4 := ho.frozenAt (k * 8 + 4)
      have z5 := ho.frozenAt (k * 8 + 5)
      have z6 := ho.frozenAt (k * 8 + 6)
      have z7 := ho.frozenAt (k * 8 + 7)
      have hst := own8 ho (k * 8) (.int .i64 (upE (q + 8 * (k : Int))).k) (.int .i64 (upE (q + 8 * (k : Int))).g) (.int .i64 (upE (q + 8 * (k : Int))).o) (.int .i64 (upE (q + 8 * (k : Int))).w) (.int .i64 (upE (q + 8 * (k : Int))).l) (.int .i64 (upE (q + 8 * (k : Int))).s) (.int .i64 (upE (q + 8 * (k : Int))).f) (.int .i64 (upE (q + 8 * (k : Int))).t)
      rw [marked_step (upsE q k) M k n (upsE_length q k) hlt hMl, ← upsE_succ] at hst
      simp only [upE] at hst
      clear hat hll ho h
      go_wp2_with fail
      refine ⟨⟨k + 1, by omega, by go_num, ?_, hst.1, grown_tr hf hst.2⟩, ?_⟩
      · congr 1; push_cast; omega
      · simp only [intOf]; omega
    · have ek : k = n := by omega
      have hd : M.drop (k * 8) = [] := List.drop_eq_nil_of_le (by rw [hMl, ek]; omega)
      rw [hd, List.append_nil, ek] at ho
      have HK : Hid (k = n) := ek
      clear ek hd
      go_wp2_with fail
      go_ret
      refine ⟨?_, ho, hf⟩
      have := HK.out
      exact ret_int (by omega)

end Go.Proofs.YtplnijpolkflcaaGreatDoor
