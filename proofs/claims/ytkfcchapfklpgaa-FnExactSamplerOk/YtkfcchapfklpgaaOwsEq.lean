/-
  The laws' comparison of two like samplers; their marks.
-/
import Derived.Test.YtkfcchapfklpgaaOwsLaw2
namespace Go.Proofs.Ytkfcchapfklpgaa
open Go.RowKit

set_option maxHeartbeats 1000000 in
theorem eqOwn_one (o : Ow) (w : World) :
    Calls Try.prog 52 #[.agg #[.int .i64 o.g, .int .i64 o.f, .int .i64 o.b.l, .int .i64 o.b.s, .int .i64 o.b.g], .agg #[.int .i64 o.g, .int .i64 o.f, .int .i64 o.b.l, .int .i64 o.b.s, .int .i64 o.b.g]] w fun e w' => e = .returned (.bool true) ∧ Fr w w' := by
  have cB := fun u => eqBurst_same o.b u
  obtain ⟨g, f, l, s, p⟩ := o
  simp only at cB ⊢
  go_enter Try.func52, Try.ntmps52
  go_wp2_with fail
  refine (cB _).mono ?_
  rintro e u1 ⟨rfl, f1⟩
  go_wp2_with fail
  go_ret
  exact ⟨rfl, ((Fr.alloc _ _).trans (Fr.alloc _ _)).trans f1⟩

set_option maxHeartbeats 2000000 in
theorem eqOws_same (ao bo : Option Addr) (n c d : Nat) (ps : List Ow) (w : World) (hn : ps.length = n) (h : ReadsG LO w ao ps) (h' : ReadsG LO w bo ps) :
    Calls Try.prog 31 #[.slice ao n c, .slice bo n d] w fun e w' => e = .returned (.bool true) ∧ Fr w w' := by
  subst hn
  have hl := h.len
  go_enter Try.func31, Try.ntmps31
  go_wp2_with fail
  go_loopw [5] (fun i wr => ∃ k : Nat, k ≤ ps.length ∧ i = .int .i64 k ∧ Fr w wr) (fun i _ => ps.length - (intOf i).toNat)
  case atStart => exact ⟨0, Nat.zero_le _, rfl, Fr.refl _⟩
  case round =>
    obtain ⟨k, hk, rfl, hf⟩ := hrel
    by_cases hlt : k < ps.length
    · obtain ⟨b, off, rfl, c0, c1, c2, c3, c4⟩ := ow_at (h.fr hf) k hlt
      obtain ⟨b', off', rfl, d0, d1, d2, d3, d4⟩ := ow_at (h'.fr hf) k hlt
      obtain ⟨o, ho⟩ : ∃ e, e = ps[k] := ⟨_, rfl⟩
      rw [← ho] at c0 c1 c2 c3 c4 d0 d1 d2 d3 d4
      clear ho
      have cE := fun w => eqOwn_one o w
      have := Later.some wr
      have p0 := fun s : Later wr => s.fr.cell c0
      have p1 := fun s : Later wr => s.fr.cell c1
      have p2 := fun s : Later wr => s.fr.cell c2
      have p3 := fun s : Later wr => s.fr.cell c3
      have p4 := fun s : Later wr => s.fr.cell c4
      have r0 := fun s : Later wr => s.fr.cell d0
      have r1 := fun s : Later wr => s.fr.cell d1
      have r2 := fun s : Later wr => s.fr.cell d2
      have r3 := fun s : Later wr => s.fr.cell d3
      have r4 := fun s : Later wr => s.fr.cell d4
      clear c0 c1 d0 d1 c2 c3 c4 d2 d3 d4
      go_wp2_with fail
      refine wp_region_grown (by kernel_rfl) (by kernel_rfl) ?_
      repeat (go_big_quiet_step (with_reducible exact Calls.grown_of (cE _)))
      refine wpQuiet_nil ?_
      rintro _ ⟨s, rfl⟩
      go_wp2_with fail
      go_roundw
      case rel => exact ⟨k + 1, by omega, by go_num, hf.trans s.fr⟩
      case measure => simp [intOf]; omega
    · go_wp2_with fail
      go_ret
      exact ⟨rfl, hf⟩

set_option maxHeartbeats 1000000 in
theorem eqSm_same (ao bo : Option Addr) (n c d : Nat) (p u : Int) (ps : List Ow) (w : World) (hn : ps.length = n) (h : ReadsG LO w ao ps) (h' : ReadsG LO w bo ps) :
    Calls Try.prog 11 #[.agg #[.slice ao n c, .int .i64 p, .int .i64 u], .agg #[.slice bo n d, .int .i64 p, .int .i64 u]] w fun e w' => e = .returned (.bool true) ∧ Fr w w' := by
  have cE := fun w (h : ReadsG LO w ao ps) (h' : ReadsG LO w bo ps) => eqOws_same ao bo n c d ps w hn h h'
  have fa := Fr.alloc w (.cells #[.slice ao n c, .int .i64 p, .int .i64 u] 33)
  have fb := Fr.alloc (w.alloc (.cells #[.slice ao n c, .int .i64 p, .int .i64 u] 33)) (.cells #[.slice bo n d, .int .i64 p, .int .i64 u] 33)
  have kA : KyZ (w.alloc (.cells #[.slice ao n c, .int .i64 p, .int .i64 u] 33)) w.heap.size 33 #[.slice ao n c, .int .i64 p, .int .i64 u] := heap_alloc_new _ _
  have kB : KyZ ((w.alloc (.cells #[.slice ao n c, .int .i64 p, .int .i64 u] 33)).alloc (.cells #[.slice bo n d, .int .i64 p, .int .i64 u] 33)) (w.heap.size + 1) 33 #[.slice bo n d, .int .i64 p, .int .i64 u] := by
    have := heap_alloc_new (w.alloc (.cells #[.slice ao n c, .int .i64 p, .int .i64 u] 33)) (.cells #[.slice bo n d, .int .i64 p, .int .i64 u] 33)
    have hs : (w.alloc (.cells #[.slice ao n c, .int .i64 p, .int .i64 u] 33)).heap.size = w.heap.size + 1 := by simp
    rwa [hs] at this
  replace kA := kA.fr fb
  have F := fa.trans fb
  have h := h.fr F
  have h' := h'.fr F
  clear fa fb
  go_enter Try.func11, Try.ntmps11
  go_wp2_with fail
  refine (cE _ h h').mono ?_
  rintro e u1 ⟨rfl, f1⟩
  obtain ⟨a0, a1, a2⟩ := (kA.fr f1).c3
  obtain ⟨b0, b1, b2⟩ := (kB.fr f1).c3
  have F := F.trans f1
  clear kA kB f1
  go_wp2_with fail
  go_ret
  exact ⟨rfl, F⟩

/-- Owns in a row. -/
def upO (c : Int) : Ow := ⟨c, c + 1, ⟨c + 1 + 1, c + 1 + 1 + 1, c + 1 + 1 + 1 + 1⟩⟩
def upsO (q : Int) (n : Nat) : List Ow := (List.range n).map fun j : Nat => upO (q + 5 * (j : Int))
theorem upsO_length (q : Int) (n : Nat) : (upsO q n).length = n := by simp [upsO]
theorem upsO_succ (q : Int) (n : Nat) : upsO q (n + 1) = upsO q n ++ [upO (q + 5 * (n : Int))] := by simp [upsO, List.range_succ]
theorem upsO_at (q : Int) (n j : Nat) (h : j < (upsO q n).length) : (upsO q n)[j] = upO (q + 5 * (j : Int)) := by simp [upsO]

set_option maxHeartbeats 4000000 in
theorem markOws_any (g n cap base : Nat) (q : Int) (ps : List Ow) (w : World) (hn : ps.length = n) (q0 : 0 ≤ q) (q1 : q ≤ 4294967296) (hp : OwnG LO w base (.slice (some ⟨g, 0, none⟩) n cap) ps) :
    Calls Try.prog 32 #[.slice (some ⟨g, 0, none⟩) n cap, .int .i64 q] w fun e w' => e = .returned (.int .i64 (q + 5 * (n : Int))) ∧ OwnG LO w' base (.slice (some ⟨g, 0, none⟩) n cap) (upsO q n) ∧ w.grownBy w' (some g) := by
  obtain ⟨g', cap', e', h, hl⟩ := hp
  simp only [Value.slice.injEq, Option.some.injEq, Addr.mk.injEq, and_true] at e'
  obtain ⟨rfl, -, rfl⟩ := e'
  rw [hn] at h hl
  have h : w.ownsRow base 53 5 (.slice (some ⟨g, 0, none⟩) n cap) n (ps.flatMap owCells) := h
  obtain ⟨M, hM⟩ : ∃ M, M = ps.flatMap owCells := ⟨_, rfl⟩
  have hMl : M.length = n * 5 := by rw [hM, owFlat_len, hn]
  rw [← hM] at h
  clear hM hn
  go_enter Try.func32, Try.ntmps32
  go_wp2_with fail
  go_loopw [1, 5] (fun c i wr => ∃ k : Nat, k ≤ n ∧ i = .int .i64 k ∧ c = .int .i64 (q + 5 * (k : Int)) ∧ wr.ownsRow base 53 5 (.slice (some ⟨g, 0, none⟩) n cap) n ((upsO q k).flatMap owCells ++ M.drop (k * 5)) ∧ w.grownBy wr (some g)) (fun _ i _ => n - (intOf i).toNat)
  case atStart => exact ⟨0, Nat.zero_le _, rfl, by simp, by simpa [upsO] using h, ⟨rfl, rfl, rfl, Nat.le_refl _, fun _ _ _ => rfl⟩⟩
  case round =>
    obtain ⟨k, hk, rfl, rfl, ho, hf⟩ := hrel
    by_cases hlt : k < n
    · have hll : ((upsO q k).flatMap owCells ++ M.drop (k * 5)).length = n * 5 := ho.1
      have hat : ∀ i, i < 5 → ∃ u, wr.cell? ⟨g, k * 5 + i, none⟩ = some u := fun i hi => by
        rw [ho.cellAt (k * 5 + i) (by omega)]
        exact ⟨_, List.getElem?_eq_getElem (by omega)⟩
      obtain ⟨p0, d0⟩ := hat 0 (by omega)
      obtain ⟨p1, d1⟩ := hat 1 (by omega)
      obtain ⟨p2, d2⟩ := hat 2 (by omega)
      obtain ⟨p3, d3⟩ := hat 3 (by omega)
      obtain ⟨p4, d4⟩ := hat 4 (by omega)
      rw [Nat.add_zero] at d0
      have z0 := ho.frozenAt (k * 5)
      have z1 := ho.frozenAt (k * 5 + 1)
      have z2 := ho.frozenAt (k * 5 + 2)
      have z3 := ho.frozenAt (k * 5 + 3)
      have z4 := ho.frozenAt (k * 5 + 4)
      have hst := own5o ho (k * 5) (.int .i64 (upO (q + 5 * (k : Int))).g) (.int .i64 (upO (q + 5 * (k : Int))).f) (.int .i64 (upO (q + 5 * (k : Int))).b.l) (.int .i64 (upO (q + 5 * (k : Int))).b.s) (.int .i64 (upO (q + 5 * (k : Int))).b.g)
      rw [laid5o (upsO q k) M k n (upsO_length q k) hlt hMl (upO (q + 5 * (k : Int))), ← upsO_succ] at hst
      simp only [upO] at hst
      clear hat hll ho h
      go_wp2_with fail
      refine ⟨⟨k + 1, by omega, by go_num, ?_, hst.1, grown_trans hf hst.2⟩, ?_⟩
      · congr 1; push_cast; omega
      · simp only [intOf]; omega
    · have ek : k = n := by omega
      have hd : M.drop (k * 5) = [] := List.drop_eq_nil_of_le (by rw [hMl, ek]; omega)
      rw [hd, List.append_nil, ek] at ho
      have HK : Hid (k = n) := ek
      clear ek hd
      go_wp2_with fail
      go_ret
      refine ⟨?_, ⟨g, cap, by rw [upsO_length], by rw [upsO_length]; exact ho, by rw [upsO_length]; exact hl⟩, hf⟩
      have := HK.out
      exact ret_int (by omega)

set_option maxRecDepth 20000 in
set_option maxHeartbeats 2000000 in
theorem heldOws_any (ao : Option Addr) (n cap : Nat) (q : Int) (w : World) (q0 : 0 ≤ q) (q1 : q ≤ 4294967296) (h : ReadsG LO w ao (upsO q n)) :
    Calls Try.prog 33 #[.slice ao n cap, .int .i64 q] w fun e w' => e = .returned (.int .i64 (q + 5 * (n : Int))) ∧ w' = w := by
  have hl : n ≤ 16777216 := by have := h.len; rwa [upsO_length] at this
  go_enter Try.func33, Try.ntmps33
  go_wp2_with fail
  go_loop [1, 5] (fun c i => ∃ k : Nat, k ≤ n ∧ i = .int .i64 k ∧ c = .int .i64 (q + 5 * (k : Int))) (fun _ i => n - (intOf i).toNat)
  case atStart => exact ⟨0, Nat.zero_le _, rfl, by simp⟩
  case round =>
    obtain ⟨k, hk, rfl, rfl⟩ := hrel
    by_cases hlt : k < n
    · have hlt' : k < (upsO q n).length := by rw [upsO_length]; exact hlt
      obtain ⟨b, off, rfl, c0, c1, c2, c3, c4⟩ := ow_at h k hlt'
      rw [upsO_at] at c0 c1 c2 c3 c4
      simp only [upO] at c0 c1 c2 c3 c4
      clear h
      go_wp2_with fail
      go_round
      case rel => exact ⟨k + 1, by omega, by go_num, by congr 1; push_cast; omega⟩
      case measure => simp [intOf]; omega
    · have ek : k = n := by omega
      have HK : Hid (k = n) := ek
      clear ek
      go_wp2_with fail
      go_ret
      have := HK.out
      exact ⟨ret_int (by omega), rfl⟩

/-- The lists of both: one that owns nothing (none, no length) or an owned one. -/
theorem markSm_nil (q p u : Int) (w : World) :
    Calls Try.prog 14 #[.agg #[.slice none 0 0, .int .i64 p, .int .i64 u], .int .i64 q] w fun e w' => e = .returned (.int .i64 q) ∧ Fr w w' := by
  have f := Fr.alloc w (.cells #[.slice none 0 0, .int .i64 p, .int .i64 u] 33)
  have c : ∀ w, Calls Try.prog 32 #[.slice none 0 0, .int .i64 q] w fun e w' => e = .returned (.int .i64 q) ∧ w' = w := by
    intro w
    go_enter Try.func32, Try.ntmps32
    go_wp2_with fail
    go_loop [1, 5] (fun c i => c = .int .i64 q ∧ i = .int .i64 0) (fun _ _ => 0)
    case atStart => exact ⟨rfl, rfl⟩
    case round =>
      obtain ⟨rfl, rfl⟩ := hrel
      go_wp2_with fail
      go_ret
      exact ⟨rfl, rfl⟩
  go_enter Try.func14, Try.ntmps14
  go_wp2_with fail
  refine (c _).mono ?_
  rintro e u1 ⟨rfl, rfl⟩
  go_wp2_with fail
  go_ret
  exact ⟨rfl, f⟩
theorem markSm_any (g n cap base : Nat) (q p u : Int) (ps : List Ow) (w : World) (hn : ps.length = n) (q0 : 0 ≤ q) (q1 : q ≤ 4294967296) (hp : OwnG LO w base (.slice (some ⟨g, 0, none⟩) n cap) ps) :
    Calls Try.prog 14 #[.agg #[.slice (some ⟨g, 0, none⟩) n cap, .int .i64 p, .int .i64 u], .int .i64 q] w fun e w' => e = .returned (.int .i64 (q + 5 * (n : Int))) ∧ OwnG LO w' base (.slice (some ⟨g, 0, none⟩) n cap) (upsO q n) ∧ w.grownBy w' (some g) := by
  have c := fun w hp => markOws_any g n cap base q ps w hn q0 q1 hp
  have f := Fr.alloc w (.cells #[.slice (some ⟨g, 0, none⟩) n cap, .int .i64 p, .int .i64 u] 33)
  have hp := hp.fr f
  go_enter Try.func14, Try.ntmps14
  go_wp2_with fail
  refine (c _ hp).mono ?_
  rintro e u1 ⟨rfl, ho, k⟩
  go_wp2_with fail
  go_ret
  exact ⟨rfl, ho, grown_trans f.wide k⟩
theorem heldSm_nil (q p u : Int) (w : World) (q0 : 0 ≤ q) :
    Calls Try.prog 15 #[.agg #[.slice none 0 0, .int .i64 p, .int .i64 u], .int .i64 q] w fun e w' => e = .returned (.int .i64 q) ∧ Fr w w' := by
  have f := Fr.alloc w (.cells #[.slice none 0 0, .int .i64 p, .int .i64 u] 33)
  have c : ∀ w, Calls Try.prog 33 #[.slice none 0 0, .int .i64 q] w fun e w' => e = .returned (.int .i64 q) ∧ w' = w := by
    intro w
    go_enter Try.func33, Try.ntmps33
    go_wp2_with fail
    go_loop [1, 5] (fun c i => c = .int .i64 q ∧ i = .int .i64 0) (fun _ _ => 0)
    case atStart => exact ⟨rfl, rfl⟩
    case round =>
      obtain ⟨rfl, rfl⟩ := hrel
      go_wp2_with fail
      go_ret
      exact ⟨rfl, rfl⟩
  go_enter Try.func15, Try.ntmps15
  go_wp2_with fail
  refine (c _).mono ?_
  rintro e u1 ⟨rfl, rfl⟩
  go_wp2_with fail
  go_ret
  exact ⟨rfl, f⟩
theorem heldSm_any (ao : Option Addr) (n cap : Nat) (q p u : Int) (w : World) (q0 : 0 ≤ q) (q1 : q ≤ 4294967296) (h : ReadsG LO w ao (upsO q n)) :
    Calls Try.prog 15 #[.agg #[.slice ao n cap, .int .i64 p, .int .i64 u], .int .i64 q] w fun e w' => e = .returned (.int .i64 (q + 5 * (n : Int))) ∧ Fr w w' := by
  have hl : n ≤ 16777216 := by have := h.len; rwa [upsO_length] at this
  have c := fun w h => heldOws_any ao n cap q w q0 q1 h
  have f := Fr.alloc w (.cells #[.slice ao n cap, .int .i64 p, .int .i64 u] 33)
  have h := h.fr f
  go_enter Try.func15, Try.ntmps15
  go_wp2_with fail
  refine (c _ h).mono ?_
  rintro e u1 ⟨rfl, rfl⟩
  go_wp2_with fail
  go_ret
  exact ⟨rfl, f⟩
end Go.Proofs.Ytkfcchapfklpgaa
