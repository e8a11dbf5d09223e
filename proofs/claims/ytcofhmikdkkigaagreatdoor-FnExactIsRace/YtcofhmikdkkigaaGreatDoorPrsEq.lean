/-
  The laws' eqPairS, markPairS, heldPairS.
-/
import Derived.Test.YtcofhmikdkkigaaGreatDoorPrBG
import Derived.Test.YtcofhmikdkkigaaGreatDoorPrAU
import Derived.Test.YtcofhmikdkkigaaGreatDoorPrAA
import Derived.BigQuiet
namespace Go.Proofs.YtcofhmikdkkigaaGreatDoor
open Go.RowKit

theorem prC {w : World} {ao : Option Addr} {ps : List (Int × Int)} (h : ReadsG layPr w ao ps) {k : Nat} (hk : k < ps.length) : ∃ b off, ao = some ⟨b, off, none⟩ ∧ w.cell? ⟨b, off + k * 2, none⟩ = some (.int .i64 ps[k].1) ∧ w.cell? ⟨b, off + k * 2 + 1, none⟩ = some (.int .i64 ps[k].2) := by
  obtain ⟨b, off, e, hc⟩ := h.at_ k hk
  refine ⟨b, off, e, ?_, ?_⟩
  · have := hc k hk 0 (by show 0 < 2; omega)
    exact this
  · have := hc k hk 1 (by show 1 < 2; omega)
    exact this

set_option maxHeartbeats 1000000 in
theorem eqPr_one (x y : Int) (w : World) :
    Calls Tryz.prog 89 #[.agg #[.int .i64 x, .int .i64 y], .agg #[.int .i64 x, .int .i64 y]] w fun e w' => e = .returned (.bool true) ∧ Fr w w' := by
  go_enter Tryz.func89, Tryz.ntmps89
  go_wp2_with fail
  go_ret
  exact ⟨rfl, (Fr.alloc _ _).trans (Fr.alloc _ _)⟩

set_option maxHeartbeats 2000000 in
theorem eqPrs_same (ao bo : Option Addr) (n c d : Nat) (ps : List (Int × Int)) (w : World) (hn : ps.length = n) (h : ReadsG layPr w ao ps) (h' : ReadsG layPr w bo ps) :
    Calls Tryz.prog 42 #[.slice ao n c, .slice bo n d] w fun e w' => e = .returned (.bool true) ∧ Fr w w' := by
  subst hn
  have hl := h.len
  go_enter Tryz.func42, Tryz.ntmps42
  go_wp2_with fail
  go_loopw [5] (fun i wr => ∃ k : Nat, k ≤ ps.length ∧ i = .int .i64 k ∧ Fr w wr) (fun i _ => ps.length - (intOf i).toNat)
  case atStart => exact ⟨0, Nat.zero_le _, rfl, Fr.refl _⟩
  case round =>
    obtain ⟨k, hk, rfl, hf⟩ := hrel
    by_cases hlt : k < ps.length
    · obtain ⟨b, off, rfl, c0, c1⟩ := prC (h.fr hf) hlt
      obtain ⟨b', off', rfl, d0, d1⟩ := prC (h'.fr hf) hlt
      obtain ⟨x, hx⟩ : ∃ e, e = ps[k].1 := ⟨_, rfl⟩
      obtain ⟨y, hy⟩ : ∃ e, e = ps[k].2 := ⟨_, rfl⟩
      rw [← hx] at c0 d0
      rw [← hy] at c1 d1
      clear hx hy
      have cE := fun w => eqPr_one x y w
      have := Later.some wr
      have p0 := fun s : Later wr => s.fr.cell c0
      have p1 := fun s : Later wr => s.fr.cell c1
      have r0 := fun s : Later wr => s.fr.cell d0
      have r1 := fun s : Later wr => s.fr.cell d1
      clear c0 c1 d0 d1
      go_wp2_with fail
      refine wp_region_grown (by kernel_rfl) (by kernel_rfl) ?_
      repeat (go_big_quiet_step (with_reducible exact Calls.grown_of (cE _)))
      refine wpQuiet_nil ?_
      rintro _ ⟨s, rfl⟩
      go_wp2_with fail
      go_roundw
      case rel => exact ⟨k + 1, by omega, by go_num, hf.trans s.fr⟩
      case measure => simp [intOf]; omega
    · go_wp2_with fail
      go_ret
      exact ⟨rfl, hf⟩

/-- Pairs in a row. -/
def upsP (q : Int) (n : Nat) : List (Int × Int) := (List.range n).map fun j : Nat => (q + 2 * (j : Int), q + 2 * (j : Int) + 1)
theorem upsP_length (q : Int) (n : Nat) : (upsP q n).length = n := by simp [upsP]
theorem upsP_succ (q : Int) (n : Nat) : upsP q (n + 1) = upsP q n ++ [(q + 2 * (n : Int), q + 2 * (n : Int) + 1)] := by simp [upsP, List.range_succ]
theorem upsP_at (q : Int) (n j : Nat) (h : j < (upsP q n).length) : (upsP q n)[j] = (q + 2 * (j : Int), q + 2 * (j : Int) + 1) := by simp [upsP]
theorem drop2 (L : List Value) (n : Nat) (h : n + 2 ≤ L.length) : ∃ m0 m1, L.drop n = m0 :: m1 :: L.drop (n + 2) := by
  refine ⟨L[n], L[n + 1], ?_⟩
  rw [List.drop_eq_getElem_cons (by omega : n < L.length), List.drop_eq_getElem_cons (by omega : n + 1 < L.length)]
theorem set2 (A B : List Value) (m0 m1 a0 a1 : Value) (n : Nat) (hn : A.length = n) : ((A ++ m0 :: m1 :: B).set n a0).set (n + 1) a1 = A ++ a0 :: a1 :: B := by
  subst hn
  simp
theorem cellsP_len (D : List (Int × Int)) : (D.flatMap layPr.cs).length = D.length * 2 := flatG_len layPr D
theorem marked2 (D : List (Int × Int)) (M : List Value) (k n : Nat) (hD : D.length = k) (hk : k < n) (hM : M.length = n * 2) (e : Int × Int) :
    ((D.flatMap layPr.cs ++ M.drop (k * 2)).set (k * 2) (.int .i64 e.1)).set (k * 2 + 1) (.int .i64 e.2) = (D ++ [e]).flatMap layPr.cs ++ M.drop ((k + 1) * 2) := by
  obtain ⟨m0, m1, hd⟩ := drop2 M (k * 2) (by omega)
  have hl : (D.flatMap layPr.cs).length = k * 2 := by rw [cellsP_len, hD]
  rw [hd, set2 _ _ _ _ _ _ _ hl, show (k + 1) * 2 = k * 2 + 2 by omega, List.flatMap_append]
  simp [layPr]
theorem own2 {w : World} {base g n cap : Nat} {e : TypeId} {xs : List Value} (h : w.ownsRow base e 2 (.slice (some ⟨g, 0, none⟩) n cap) n xs) (j : Nat) (a0 a1 : Value) :
    ((w.setCell ⟨g, j, none⟩ a0).setCell ⟨g, j + 1, none⟩ a1).ownsRow base e 2 (.slice (some ⟨g, 0, none⟩) n cap) n ((xs.set j a0).set (j + 1) a1) ∧ w.grownBy ((w.setCell ⟨g, j, none⟩ a0).setCell ⟨g, j + 1, none⟩ a1) (some g) := by
  have h0 := h.stored j a0
  have h1 := h0.1.stored (j + 1) a1
  exact ⟨h1.1, grown_tr h0.2 h1.2⟩

set_option maxHeartbeats 2000000 in
theorem markPr_any (g n cap base : Nat) (q : Int) (ps : List (Int × Int)) (w : World) (hn : ps.length = n) (q0 : 0 ≤ q) (q1 : q ≤ 4294967296) (hp : OwnG layPr w base (.slice (some ⟨g, 0, none⟩) n cap) ps) :
    Calls Tryz.prog 43 #[.slice (some ⟨g, 0, none⟩) n cap, .int .i64 q] w fun e w' => e = .returned (.int .i64 (q + 2 * (n : Int))) ∧ OwnG layPr w' base (.slice (some ⟨g, 0, none⟩) n cap) (upsP q n) ∧ w.grownBy w' (some g) := by
  obtain ⟨g', cap', e', h, hl⟩ := hp
  simp only [Value.slice.injEq, Option.some.injEq, Addr.mk.injEq, and_true] at e'
  obtain ⟨rfl, -, rfl⟩ := e'
  rw [hn] at h hl
  have h : w.ownsRow base 51 2 (.slice (some ⟨g, 0, none⟩) n cap) n (ps.flatMap layPr.cs) := h
  obtain ⟨M, hM⟩ : ∃ M, M = ps.flatMap layPr.cs := ⟨_, rfl⟩
  have hMl : M.length = n * 2 := by rw [hM, cellsP_len, hn]
  rw [← hM] at h
  clear hM hn
  go_enter Tryz.func43, Tryz.ntmps43
  go_wp2_with fail
  go_loopw [1, 5] (fun c i wr => ∃ k : Nat, k ≤ n ∧ i = .int .i64 k ∧ c = .int .i64 (q + 2 * (k : Int)) ∧ wr.ownsRow base 51 2 (.slice (some ⟨g, 0, none⟩) n cap) n ((upsP q k).flatMap layPr.cs ++ M.drop (k * 2)) ∧ w.grownBy wr (some g)) (fun _ i _ => n - (intOf i).toNat)
  case atStart => exact ⟨0, Nat.zero_le _, rfl, by simp, by simpa [upsP] using h, ⟨rfl, rfl, rfl, Nat.le_refl _, fun _ _ _ => rfl⟩⟩
  case round =>
    obtain ⟨k, hk, rfl, rfl, ho, hf⟩ := hrel
    by_cases hlt : k < n
    · have hll : ((upsP q k).flatMap layPr.cs ++ M.drop (k * 2)).length = n * 2 := ho.1
      have hat : ∀ i, i < 2 → ∃ u, wr.cell? ⟨g, k * 2 + i, none⟩ = some u := fun i hi => by
        rw [ho.cellAt (k * 2 + i) (by omega)]
        exact ⟨_, List.getElem?_eq_getElem (by omega)⟩
      obtain ⟨p0, d0⟩ := hat 0 (by omega)
      obtain ⟨p1, d1⟩ := hat 1 (by omega)
      rw [Nat.add_zero] at d0
      have z0 := ho.frozenAt (k * 2)
      have z1 := ho.frozenAt (k * 2 + 1)
      have hst := own2 ho (k * 2) (.int .i64 (q + 2 * (k : Int))) (.int .i64 (q + 2 * (k : Int) + 1))
      rw [marked2 (upsP q k) M k n (upsP_length q k) hlt hMl (q + 2 * (k : Int), q + 2 * (k : Int) + 1), ← upsP_succ] at hst
      clear hat hll ho h
      go_wp2_with fail
      refine ⟨⟨k + 1, by omega, by go_num, ?_, hst.1, grown_tr hf hst.2⟩, ?_⟩
      · congr 1; push_cast; omega
      · simp only [intOf]; omega
    · have ek : k = n := by omega
      have hd : M.drop (k * 2) = [] := List.drop_eq_nil_of_le (by rw [hMl, ek]; omega)
      rw [hd, List.append_nil, ek] at ho
      have HK : Hid (k = n) := ek
      clear ek hd
      go_wp2_with fail
      go_ret
      refine ⟨?_, ⟨g, cap, by rw [upsP_length], by rw [upsP_length]; exact ho, by rw [upsP_length]; exact hl⟩, hf⟩
      have := HK.out
      exact ret_int (by omega)

set_option maxRecDepth 20000 in
set_option maxHeartbeats 2000000 in
theorem heldPr_any (ao : Option Addr) (n cap : Nat) (q : Int) (w : World) (q0 : 0 ≤ q) (q1 : q ≤ 4294967296) (h : ReadsG layPr w ao (upsP q n)) :
    Calls Tryz.prog 44 #[.slice ao n cap, .int .i64 q] w fun e w' => e = .returned (.int .i64 (q + 2 * (n : Int))) ∧ w' = w := by
  have hl : n ≤ 16777216 := by have := h.len; rwa [upsP_length] at this
  go_enter Tryz.func44, Tryz.ntmps44
  go_wp2_with fail
  go_loop [1, 5] (fun c i => ∃ k : Nat, k ≤ n ∧ i = .int .i64 k ∧ c = .int .i64 (q + 2 * (k : Int))) (fun _ i => n - (intOf i).toNat)
  case atStart => exact ⟨0, Nat.zero_le _, rfl, by simp⟩
  case round =>
    obtain ⟨k, hk, rfl, rfl⟩ := hrel
    by_cases hlt : k < n
    · have hlt' : k < (upsP q n).length := by rw [upsP_length]; exact hlt
      obtain ⟨b, off, rfl, c0, c1⟩ := prC h hlt'
      rw [upsP_at] at c0 c1
      simp only at c0 c1
      clear h
      go_wp2_with fail
      go_round
      case rel => exact ⟨k + 1, by omega, by go_num, by congr 1; push_cast; omega⟩
      case measure => simp [intOf]; omega
    · have ek : k = n := by omega
      have HK : Hid (k = n) := ek
      clear ek
      go_wp2_with fail
      go_ret
      have := HK.out
      exact ⟨ret_int (by omega), rfl⟩
end Go.Proofs.YtcofhmikdkkigaaGreatDoor
