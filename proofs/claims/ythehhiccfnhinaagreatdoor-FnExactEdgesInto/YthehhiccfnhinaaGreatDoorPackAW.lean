/-
  The drawing of traces and of lists to be encoded: l5Draw, DrawEncoded.
-/
import Derived.Test.YthehhiccfnhinaaGreatDoorPackAV
import Derived.Test.YthehhiccfnhinaaGreatDoorPackAT
import Derived.Test.YthehhiccfnhinaaGreatDoorPackAU
import Derived.Test.YthehhiccfnhinaaGreatDoorPackAS
import Derived.Test.YthehhiccfnhinaaGreatDoorPackAC
import Derived.Test.YthehhiccfnhinaaGreatDoorPackAJ
import Derived.Test.YthehhiccfnhinaaGreatDoorPackAF
import Derived.Test.YthehhiccfnhinaaGreatDoorPackAA
import Derived.Deep.RegionHeld3
import Derived.Test.YthehhiccfnhinaaGreatDoorPackAE
namespace Go.Proofs.YthehhiccfnhinaaGreatDoor
open Go.RowKit

/-- The cursor's first cell. -/
theorem Cur.c0 {w : World} {g : Nat} (h : Cur w g) : ∃ ao n cap, w.cell? ⟨g, 0, none⟩ = some (.slice ao n cap) ∧ n ≤ 4294967296 := by
  obtain ⟨ao, n, cap, i, hh, hg, hin, hn, hb⟩ := h
  exact ⟨ao, n, cap, by rw [cell_of_row _ _ _ _ _ _ hg]; rfl, hn⟩

set_option maxRecDepth 20000 in
set_option maxHeartbeats 2000000 in
theorem l5Draw_any (g : Nat) (w : World) (hc : Cur w g) :
    Calls Tryz.prog 192 #[.pointer (some ⟨g, 0, none⟩)] w fun x w' => ∃ v : Value, x = .returned v ∧ ∃ es : List Ev, OwnE w' w.heap.size v es ∧ es.length ≤ 58 ∧ Cur w' g ∧ w.grownBy w' (some g) := by
  obtain ⟨ao, n, cap, hn, hnl⟩ := hc.c0
  go_enter Tryz.func192, Tryz.ntmps192
  go_wp2_with fail
  go_region_with (first
    | (go_at_call 165; refine (l1Below_any g _ _ (hc.fr (Fr.drew w))).mono ?_; rintro e w1 ⟨x, rfl, x0, x1, x2, c1, g1⟩; have x3 : x < 50 := x1 (by omega); have hw : IntKind.i64.wrap (8 + x) = 8 + x := (by rw [IntKind.wrap_i64]; omega); obtain ⟨ao1, n1, cap1, hn1, hnl1⟩ := c1.c0)
    | (go_at_call 168; refine (l1Min_any _ _ _).mono ?_; rintro e w2 ⟨rfl, rfl⟩)
    | (go_at_call 204; refine (l5Grow_any g _ _ c1 (by first | omega | (rw [hw]; omega))).mono ?_; rintro e w3 ⟨v, rfl, es, o3, l3, c3, g3⟩))
  all_goals (
    have hsz : w.heap.size ≤ w2.heap.size := g1.size
    go_wp2_with fail
    go_ret
    exact ⟨_, rfl, es, o3.lower hsz, by omega, c3, grown_trans (Fr.drew w).wide (grown_trans g1 g3)⟩)
end Go.Proofs.YthehhiccfnhinaaGreatDoor
/-
  The walks of the laws' markEventS (it writes q, q + 1, .. into a list of events) and heldEventS (are these still there?).
-/
namespace Go.Proofs.YthehhiccfnhinaaGreatDoor
open Go.RowKit

/-- An event of eight numbers in a row. -/
def upE (c : Int) : Ev := ⟨c, c + 1, c + 1 + 1, c + 1 + 1 + 1, c + 1 + 1 + 1 + 1, c + 1 + 1 + 1 + 1 + 1, c + 1 + 1 + 1 + 1 + 1 + 1, c + 1 + 1 + 1 + 1 + 1 + 1 + 1⟩
def upsE (q : Int) (n : Nat) : List Ev := (List.range n).map fun j : Nat => upE (q + 8 * (j : Int))
theorem upsE_length (q : Int) (n : Nat) : (upsE q n).length = n := by simp [upsE]
theorem upsE_succ (q : Int) (n : Nat) : upsE q (n + 1) = upsE q n ++ [upE (q + 8 * (n : Int))] := by simp [upsE, List.range_succ]
theorem upsE_at (q : Int) (n j : Nat) (h : j < (upsE q n).length) : (upsE q n)[j] = upE (q + 8 * (j : Int)) := by simp [upsE]

/-- One event more is marked. -/
theorem marked_step (D : List Ev) (M : List Value) (k n : Nat) (hD : D.length = k) (hk : k < n) (hM : M.length = n * 8) (e : Ev) :
    ((((((((D.flatMap evCells ++ M.drop (k * 8)).set (k * 8) (.int .i64 e.k)).set (k * 8 + 1) (.int .i64 e.g)).set (k * 8 + 2) (.int .i64 e.o)).set (k * 8 + 3) (.int .i64 e.w)).set (k * 8 + 4) (.int .i64 e.l)).set (k * 8 + 5) (.int .i64 e.s)).set (k * 8 + 6) (.int .i64 e.f)).set (k * 8 + 7) (.int .i64 e.t)
      = (D ++ [e]).flatMap evCells ++ M.drop ((k + 1) * 8) := by
  obtain ⟨m0, m1, m2, m3, m4, m5, m6, m7, hd⟩ := drop8 M (k * 8) (by omega)
  have hl : (D.flatMap evCells).length = k * 8 := by rw [cells_len, hD]
  rw [hd, set8 _ _ _ _ _ _ _ _ _ _ _ _ _ _ _ _ _ _ _ hl, show (k + 1) * 8 = k * 8 + 8 by omega, List.flatMap_append]
  simp [evCells]

set_option maxHeartbeats 2000000 in
theorem markEs_any (g n cap base : Nat) (q : Int) (es : List Ev) (w : World) (hn : es.length = n) (q0 : 0 ≤ q) (q1 : q ≤ 4294967296) (h : w.ownsRow base 31 8 (.slice (some ⟨g, 0, none⟩) n cap) n (es.flatMap evCells)) (hl : n ≤ 16777216) :
    Calls Tryz.prog 43 #[.slice (some ⟨g, 0, none⟩) n cap, .int .i64 q] w fun e w' => e = .returned (.int .i64 (q + 8 * (n : Int))) ∧ w'.ownsRow base 31 8 (.slice (some ⟨g, 0, none⟩) n cap) n ((upsE q n).flatMap evCells) ∧ w.grownBy w' (some g) := by
  obtain ⟨M, hM⟩ : ∃ M, M = es.flatMap evCells := ⟨_, rfl⟩
  have hMl : M.length = n * 8 := by rw [hM, cells_len, hn]
  rw [← hM] at h
  clear hM hn
  go_enter Tryz.func43, Tryz.ntmps43
  go_wp2_with fail
  go_loopw [1, 5] (fun c i wr => ∃ k : Nat, k ≤ n ∧ i = .int .i64 k ∧ c = .int .i64 (q + 8 * (k : Int)) ∧ wr.ownsRow base 31 8 (.slice (some ⟨g, 0, none⟩) n cap) n ((upsE q k).flatMap evCells ++ M.drop (k * 8)) ∧ w.grownBy wr (some g)) (fun _ i _ => n - (intOf i).toNat)
  case atStart => exact ⟨0, Nat.zero_le _, rfl, by simp, by simpa [upsE] using h, ⟨rfl, rfl, rfl, Nat.le_refl _, fun _ _ _ => rfl⟩⟩
  case round =>
    obtain ⟨k, hk, rfl, rfl, ho, hf⟩ := hrel
    by_cases hlt : k < n
    · have hll : ((upsE q k).flatMap evCells ++ M.drop (k * 8)).length = n * 8 := ho.1
      have hat : ∀ i, i < 8 → ∃ u, wr.cell? ⟨g, k * 8 + i, none⟩ = some u := fun i hi => by
        rw [ho.cellAt (k * 8 + i) (by omega)]
        exact ⟨_, List.getElem?_eq_getElem (by omega)⟩
      obtain ⟨p0, d0⟩ := hat 0 (by omega)
      obtain ⟨p1, d1⟩ := hat 1 (by omega)
      obtain ⟨p2, d2⟩ := hat 2 (by omega)
      obtain ⟨p3, d3⟩ := hat 3 (by omega)
      obtain ⟨p4, d4⟩ := hat 4 (by omega)
      obtain ⟨p5, d5⟩ := hat 5 (by omega)
      obtain ⟨p6, d6⟩ := hat 6 (by omega)
      obtain ⟨p7, d7⟩ := hat 7 (by omega)
      rw [Nat.add_zero] at d0
      have z0 := ho.frozenAt (k * 8)
      have z1 := ho.frozenAt (k * 8 + 1)
      have z2 := ho.frozenAt (k * 8 + 2)
      have z3 := ho.frozenAt (k * 8 + 3)
      have z4 := ho.frozenAt (k * 8 + 4)
      have z5 := ho.frozenAt (k * 8 + 5)
      have z6 := ho.frozenAt (k * 8 + 6)
      have z7 := ho.frozenAt (k * 8 + 7)
      have hst := own8 ho (k * 8) (.int .i64 (upE (q + 8 * (k : Int))).k) (.int .i64 (upE (q + 8 * (k : Int))).g) (.int .i64 (upE (q + 8 * (k : Int))).o) (.int .i64 (upE (q + 8 * (k : Int))).w) (.int .i64 (upE (q + 8 * (k : Int))).l) (.int .i64 (upE (q + 8 * (k : Int))).s) (.int .i64 (upE (q + 8 * (k : Int))).f) (.int .i64 (upE (q + 8 * (k : Int))).t)
      rw [marked_step (upsE q k) M k n (upsE_length q k) hlt hMl, ← upsE_succ] at hst
      simp only [upE] at hst
      clear hat hll ho h
      go_wp2_with fail
      refine ⟨⟨k + 1, by omega, by go_num, ?_, hst.1, grown_tr hf hst.2⟩, ?_⟩
      · congr 1; push_cast; omega
      · simp only [intOf]; omega
    · have ek : k = n := by omega
      have hd : M.drop (k * 8) = [] := List.drop_eq_nil_of_le (by rw [hMl, ek]; omega)
      rw [hd, List.append_nil, ek] at ho
      have HK : Hid (k = n) := ek
      clear ek hd
      go_wp2_with fail
      go_ret
      refine ⟨?_, ho, hf⟩
      have := HK.out
      exact ret_int (by omega)

end Go.Proofs.YthehhiccfnhinaaGreatDoor
/-
  The drawing of traces that may go wrong: l5DrawAny, DrawLegalLen.
-/
namespace Go.Proofs.YthehhiccfnhinaaGreatDoor
open Go.RowKit

theorem cells_drop : ∀ (es : List Ev) (k : Nat), (es.flatMap evCells).drop (k * 8) = (es.drop k).flatMap evCells
  | _, 0 => by simp
  | [], k + 1 => by simp
  | e :: es, k + 1 => by
    rw [List.flatMap_cons, List.drop_succ_cons, ← cells_drop es k, List.drop_append, List.drop_of_length_le (by simp [evCells]; omega)]
    rw [show (evCells e).length = 8 from rfl, show (k + 1) * 8 - 8 = k * 8 by omega]
    simp
/-- One event put in another's place. -/
theorem OwnE.put {w : World} {base g n cap : Nat} {es : List Ev} (h : w.ownsRow base 31 8 (.slice (some ⟨g, 0, none⟩) n cap) n (es.flatMap evCells)) (hl : es.length ≤ 16777216) (hn : n = es.length) (k : Nat) (hk : k < es.length) (e : Ev) :
    OwnE ((((((((w.setCell ⟨g, k * 8, none⟩ (.int .i64 e.k)).setCell ⟨g, k * 8 + 1, none⟩ (.int .i64 e.g)).setCell ⟨g, k * 8 + 2, none⟩ (.int .i64 e.o)).setCell ⟨g, k * 8 + 3, none⟩ (.int .i64 e.w)).setCell ⟨g, k * 8 + 4, none⟩ (.int .i64 e.l)).setCell ⟨g, k * 8 + 5, none⟩ (.int .i64 e.s)).setCell ⟨g, k * 8 + 6, none⟩ (.int .i64 e.f)).setCell ⟨g, k * 8 + 7, none⟩ (.int .i64 e.t)) base (.slice (some ⟨g, 0, none⟩) n cap) (es.take k ++ [e] ++ es.drop (k + 1)) ∧
    w.grownBy ((((((((w.setCell ⟨g, k * 8, none⟩ (.int .i64 e.k)).setCell ⟨g, k * 8 + 1, none⟩ (.int .i64 e.g)).setCell ⟨g, k * 8 + 2, none⟩ (.int .i64 e.o)).setCell ⟨g, k * 8 + 3, none⟩ (.int .i64 e.w)).setCell ⟨g, k * 8 + 4, none⟩ (.int .i64 e.l)).setCell ⟨g, k * 8 + 5, none⟩ (.int .i64 e.s)).setCell ⟨g, k * 8 + 6, none⟩ (.int .i64 e.f)).setCell ⟨g, k * 8 + 7, none⟩ (.int .i64 e.t)) (some g) := by
  have e0 : es.flatMap evCells = (es.take k).flatMap evCells ++ (es.flatMap evCells).drop (k * 8) := by
    rw [cells_drop, ← List.flatMap_append, List.take_append_drop]
  have hst := own8 h (k * 8) (.int .i64 e.k) (.int .i64 e.g) (.int .i64 e.o) (.int .i64 e.w) (.int .i64 e.l) (.int .i64 e.s) (.int .i64 e.f) (.int .i64 e.t)
  have e1 := marked_step (es.take k) (es.flatMap evCells) k es.length (by simp; omega) hk (cells_len es) e
  rw [← e0, cells_drop, ← List.flatMap_append] at e1
  rw [e1] at hst
  have hlen : (es.take k ++ [e] ++ es.drop (k + 1)).length = es.length := by simp; omega
  refine ⟨⟨g, cap, by rw [hlen, hn], ?_, by rw [hlen]; exact hl⟩, hst.2⟩
  rw [hlen, ← hn]
  exact hst.1

/-- A first part of a slice of events. -/
theorem ReadsE.take {w : World} {ao : Option Addr} {es : List Ev} (h : ReadsE w ao es) (k : Nat) : ReadsE w ao (es.take k) := by
  refine ⟨by have := h.len; simp; omega, fun i hi => ?_⟩
  obtain ⟨b, off, e, hc⟩ := h.at_ i (by simp at hi; omega)
  refine ⟨b, off, e, fun j hj => ?_⟩
  rw [List.getElem_take]
  exact hc j (by simp at hj; omega)
end Go.Proofs.YthehhiccfnhinaaGreatDoor
/-
  TouchesOf, the specification's and the program's.
-/
namespace Go.Proofs.YthehhiccfnhinaaGreatDoor
open Go.RowKit

theorem touJ_no {es : List Ev} {j : Int} (h : ¬ (0 ≤ j ∧ j < legLen es ∧ j.toNat < es.length)) : touJ es j = [] := by
  unfold touJ
  rw [dif_neg h]
theorem touJ_yes {es : List Ev} {j : Int} (h : 0 ≤ j ∧ j < legLen es ∧ j.toNat < es.length) : touJ es j = tchL (es[j.toNat]'h.2.2) (slotE (es.take j.toNat) (es[j.toNat]'h.2.2)) := by
  unfold touJ
  rw [dif_pos h]
theorem legLen_le (es : List Ev) : legLen es ≤ es.length := by
  unfold legLen
  split
  · omega
  · have := leg_len es scn0
    omega
/-- An event of the legal part can be done behind what is ahead of it. -/
theorem leg_at {es : List Ev} {k : Nat} (hk : k < es.length) (h : (k : Int) < legLen es) : (legS scn0 (es.take k)).2.2 = 0 ∧ codeIn (legS scn0 (es.take k)).1 es[k] = 0 ∧ es.length ≤ 300 := by
  unfold legLen at h
  split at h
  · omega
  · have h1 := leg_part es scn0 k (by omega)
    exact ⟨h1.2.1, h1.2.2 hk (by omega), by omega⟩
theorem code_kind {m : Scn} {e : Ev} (hc : codeIn m e = 0) : 1 ≤ e.k ∧ e.k ≤ 22 := by
  have h1 := (code_parts hc).1
  simp only [evOk, Bool.and_eq_true] at h1
  simpa [inB] using h1.1.1.1.1.1.1.1

end Go.Proofs.YthehhiccfnhinaaGreatDoor
/-
  GorsOf, the specification's and the program's.
-/
namespace Go.Proofs.YthehhiccfnhinaaGreatDoor
open Go.RowKit

/-- The goroutines that an event is of. -/
def gorsL (e : Ev) : List Int := if evOk e = true then (if e.k ≠ 9 ∨ e.w = e.g then [e.g] else [min e.g e.w, max e.g e.w]) else []
theorem gors_len (e : Ev) : (gorsL e).length ≤ 2 := by
  unfold gorsL
  split
  · split <;> simp
  · simp
theorem evOk_gw {e : Ev} (h : evOk e = true) : (0 ≤ e.g ∧ e.g ≤ 15) ∧ (e.k = 9 → 0 ≤ e.w ∧ e.w ≤ 15) := by
  simp only [evOk, Bool.and_eq_true] at h
  obtain ⟨⟨⟨⟨⟨⟨⟨h1, h2⟩, h3⟩, h4⟩, h5⟩, h6⟩, h7⟩, h8⟩ := h
  refine ⟨by simpa [inB] using h2, fun hk => ?_⟩
  have e1 : hasB e.k 2 = true := by rw [hk]; decide
  simp only [ev2, e1, fitB, if_true] at h4
  simpa [inB] using h4

theorem EvAt.keepG {w w' : World} {b : Nat} {e : Ev} {row : Option Nat} (h : EvAt w b e) (k : w.grownBy w' row) (hr : some b ≠ row) : EvAt w' b e := by
  obtain ⟨c0, c1, c2, c3, c4, c5, c6, c7⟩ := h
  exact ⟨k.cell c0 hr, k.cell c1 hr, k.cell c2 hr, k.cell c3 hr, k.cell c4 hr, k.cell c5 hr, k.cell c6 hr, k.cell c7 hr⟩
/-- A new list of numbers. -/
theorem ownI_lit (w : World) (xs : List Int) (hl : xs.length ≤ 1000) (hx : ∀ x ∈ xs, I64 x) (o : Obj) (ho : o = .cells (xs.map (Value.int .i64)).toArray 2 (0, 0)) : OwnI (w.alloc o) w.heap.size (.slice (some ⟨w.heap.size, 0, none⟩) xs.length xs.length) xs := by
  subst ho
  refine ⟨⟨by simp, .inr ⟨w.heap.size, xs.length, (xs.map (Value.int .i64)).toArray, rfl, Nat.le_refl _, heap_alloc_new w _, Nat.le_refl _, by unfold maxLen; omega, by simp, by simp [List.take_of_length_le]⟩⟩, by omega, hx⟩

theorem retG_int {x y : Int} (h : x = y) : Ending.returned (.int .i64 x) = .returned (.int .i64 y) := by rw [h]
set_option maxHeartbeats 400000 in
theorem l1MinG (a b : Int) (w : World) :
    Calls Tryz.prog 168 #[.int .i64 a, .int .i64 b] w fun e w' => e = .returned (.int .i64 (min a b)) ∧ w' = w := by
  by_cases h : a < b
  · go_enter Tryz.func168, Tryz.ntmps168
    go_wp2
    go_ret
    exact ⟨retG_int (by omega), rfl⟩
  · go_enter Tryz.func168, Tryz.ntmps168
    go_wp2
    go_ret
    exact ⟨retG_int (by omega), rfl⟩
set_option maxHeartbeats 400000 in
theorem l1MaxG (a b : Int) (w : World) :
    Calls Tryz.prog 169 #[.int .i64 a, .int .i64 b] w fun e w' => e = .returned (.int .i64 (max a b)) ∧ w' = w := by
  by_cases h : b < a
  · go_enter Tryz.func169, Tryz.ntmps169
    go_wp2
    go_ret
    exact ⟨retG_int (by omega), rfl⟩
  · go_enter Tryz.func169, Tryz.ntmps169
    go_wp2
    go_ret
    exact ⟨retG_int (by omega), rfl⟩

set_option maxHeartbeats 6000000 in
theorem implGors_any (e : Ev) (w : World) (hs : Shapes w) :
    Calls Tryz.prog 201 #[.agg #[.int .i64 e.k, .int .i64 e.g, .int .i64 e.o, .int .i64 e.w, .int .i64 e.l, .int .i64 e.s, .int .i64 e.f, .int .i64 e.t]] w fun x w' => ∃ g, x = .returned (.slice (some ⟨g, 0, none⟩) (gorsL e).length (gorsL e).length) ∧ OwnI w' w.heap.size (.slice (some ⟨g, 0, none⟩) (gorsL e).length (gorsL e).length) (gorsL e) ∧ Fr w w' := by
  have fW := Fr.alloc w (.cells #[.int .i64 e.k, .int .i64 e.g, .int .i64 e.o, .int .i64 e.w, .int .i64 e.l, .int .i64 e.s, .int .i64 e.f, .int .i64 e.t] 31)
  have kE := EvAt.new w e 31
  have cO := fun u (f : Fr w u) => implOk_any e u (hs.fr f)
  have hg := fun q => evOk_gw (e := e) q
  unfold gorsL
  cases hE : evOk e
  · simp only [hE] at cO
    simp only [Bool.false_eq_true, if_false, List.length_nil]
    clear hg
    obtain ⟨k, gr, o, wi, l, sz, f, t⟩ := e
    simp only at fW kE cO ⊢
    go_enter Tryz.func201, Tryz.ntmps201
    go_wp2_with fail
    refine (cO _ fW).mono ?_
    rintro x u1 ⟨rfl, f1⟩
    have fA := Fr.alloc u1 (.cells #[] 2)
    go_wp2_with fail
    go_ret
    exact ⟨_, rfl, OwnI.lower (ownI_lit u1 [] (by simp) (by simp) _ rfl) (by have := fW.size; have := f1.size; omega), (fW.trans f1).trans fA⟩
  · simp only [hE] at cO
    have hg := hg hE
    simp only [if_true]
    by_cases h9 : e.k ≠ 9
    · rw [if_pos (.inl h9)]
      simp only [List.length_cons, List.length_nil]
      obtain ⟨k, gr, o, wi, l, sz, f, t⟩ := e
      simp only at fW kE cO hg h9 ⊢
      have hb : (k != 9) = true := by simpa using h9
      go_enter Tryz.func201, Tryz.ntmps201
      go_wp2_with fail
      refine (cO _ fW).mono ?_
      rintro x u1 ⟨rfl, f1⟩
      obtain ⟨c0, c1, c2, c3, c4, c5, c6, c7⟩ := kE.fr f1
      have fA := Fr.alloc u1 (.cells #[.int .i64 gr] 2)
      go_wp2_with fail
      go_ret
      exact ⟨_, rfl, OwnI.lower (ownI_lit u1 [gr] (by simp) (by simp [I64]; omega) _ rfl) (by have := fW.size; have := f1.size; omega), (fW.trans f1).trans fA⟩
    · have h9 : e.k = 9 := by omega
      have hb : (e.k != 9) = false := by simp [h9]
      have hg2 := hg.2 h9
      have hg := hg.1
      by_cases hw : e.w = e.g
      · rw [if_pos (.inr hw)]
        simp only [List.length_cons, List.length_nil]
        obtain ⟨k, gr, o, wi, l, sz, f, t⟩ := e
        simp only at fW kE cO hg hb hg2 hw h9 ⊢
        have hwb : (wi == gr) = true := by simp [hw]
        clear hw h9
        go_enter Tryz.func201, Tryz.ntmps201
        go_wp2_with fail
        refine (cO _ fW).mono ?_
        rintro x u1 ⟨rfl, f1⟩
        obtain ⟨c0, c1, c2, c3, c4, c5, c6, c7⟩ := kE.fr f1
        have fA := Fr.alloc u1 (.cells #[.int .i64 gr] 2)
        go_wp2_with fail
        go_ret
        exact ⟨_, rfl, OwnI.lower (ownI_lit u1 [gr] (by simp) (by simp [I64]; omega) _ rfl) (by have := fW.size; have := f1.size; omega), (fW.trans f1).trans fA⟩
      · rw [if_neg (by omega)]
        simp only [List.length_cons, List.length_nil]
        obtain ⟨k, gr, o, wi, l, sz, f, t⟩ := e
        simp only at fW kE cO hg hb hg2 hw h9 ⊢
        have hwb : (wi == gr) = false := by simpa using hw
        clear h9
        rcases Int.lt_or_gt_of_ne hw with hlt | hlt
        · have m1 : min gr wi = wi := by omega
          have m2 : max gr wi = gr := by omega
          have hn : ¬ gr ≤ wi := by omega
          rw [m1, m2]
          go_enter Tryz.func201, Tryz.ntmps201
          go_wp2_with fail
          refine (cO _ fW).mono ?_
          rintro x u1 ⟨rfl, f1⟩
          obtain ⟨c0, c1, c2, c3, c4, c5, c6, c7⟩ := kE.fr f1
          have fA := Fr.alloc u1 (.cells #[.int .i64 wi, .int .i64 gr] 2)
          go_wp2_with fail
          go_ret
          exact ⟨_, rfl, OwnI.lower (ownI_lit u1 [wi, gr] (by simp) (by simp [I64]; omega) _ rfl) (by have := fW.size; have := f1.size; omega), (fW.trans f1).trans fA⟩
        · have m1 : min gr wi = gr := by omega
          have m2 : max gr wi = wi := by omega
          rw [m1, m2]
          go_enter Tryz.func201, Tryz.ntmps201
          go_wp2_with fail
          refine (cO _ fW).mono ?_
          rintro x u1 ⟨rfl, f1⟩
          obtain ⟨c0, c1, c2, c3, c4, c5, c6, c7⟩ := kE.fr f1
          have fA := Fr.alloc u1 (.cells #[.int .i64 gr, .int .i64 wi] 2)
          go_wp2_with fail
          go_ret
          exact ⟨_, rfl, OwnI.lower (ownI_lit u1 [gr, wi] (by simp) (by simp [I64]; omega) _ rfl) (by have := fW.size; have := f1.size; omega), (fW.trans f1).trans fA⟩

set_option maxHeartbeats 6000000 in
theorem specGors_any (e : Ev) (w : World) :
    Calls Tryz.prog 161 #[.agg #[.int .i64 e.k, .int .i64 e.g, .int .i64 e.o, .int .i64 e.w, .int .i64 e.l, .int .i64 e.s, .int .i64 e.f, .int .i64 e.t]] w fun x w' => ∃ g, x = .returned (.slice (some ⟨g, 0, none⟩) (gorsL e).length (gorsL e).length) ∧ OwnI w' w.heap.size (.slice (some ⟨g, 0, none⟩) (gorsL e).length (gorsL e).length) (gorsL e) ∧ Fr w w' := by
  have fW := Fr.alloc w (.cells #[.int .i64 e.k, .int .i64 e.g, .int .i64 e.o, .int .i64 e.w, .int .i64 e.l, .int .i64 e.s, .int .i64 e.f, .int .i64 e.t] 31)
  have kE := EvAt.new w e 31
  have cO := fun u => specOk_any e u
  have hg := fun q => evOk_gw (e := e) q
  unfold gorsL
  cases hE : evOk e
  · simp only [hE] at cO
    simp only [Bool.false_eq_true, if_false, List.length_nil]
    clear hg
    obtain ⟨k, gr, o, wi, l, sz, f, t⟩ := e
    simp only at fW kE cO ⊢
    go_enter Tryz.func161, Tryz.ntmps161
    go_wp2_with fail
    refine (cO _).mono ?_
    rintro x u1 ⟨rfl, f1⟩
    have fA := Fr.alloc u1 (.cells #[] 2)
    go_wp2_with fail
    go_ret
    exact ⟨_, rfl, OwnI.lower (ownI_lit u1 [] (by simp) (by simp) _ rfl) (by have := fW.size; have := f1.size; omega), (fW.trans f1).trans fA⟩
  · simp only [hE] at cO
    have hg := hg hE
    simp only [if_true]
    by_cases h9 : e.k ≠ 9
    · rw [if_pos (.inl h9)]
      simp only [List.length_cons, List.length_nil]
      obtain ⟨k, gr, o, wi, l, sz, f, t⟩ := e
      simp only at fW kE cO hg h9 ⊢
      have hb : (k != 9) = true := by simpa using h9
      go_enter Tryz.func161, Tryz.ntmps161
      go_wp2_with fail
      refine (cO _).mono ?_
      rintro x u1 ⟨rfl, f1⟩
      obtain ⟨c0, c1, c2, c3, c4, c5, c6, c7⟩ := kE.fr f1
      have fA := Fr.alloc u1 (.cells #[.int .i64 gr] 2)
      go_wp2_with fail
      go_ret
      exact ⟨_, rfl, OwnI.lower (ownI_lit u1 [gr] (by simp) (by simp [I64]; omega) _ rfl) (by have := fW.size; have := f1.size; omega), (fW.trans f1).trans fA⟩
    · have h9 : e.k = 9 := by omega
      have hb : (e.k != 9) = false := by simp [h9]
      have hg2 := hg.2 h9
      have hg := hg.1
      by_cases hw : e.w = e.g
      · rw [if_pos (.inr hw)]
        simp only [List.length_cons, List.length_nil]
        obtain ⟨k, gr, o, wi, l, sz, f, t⟩ := e
        simp only at fW kE cO hg hb hg2 hw h9 ⊢
        have hwb : (wi == gr) = true := by simp [hw]
        clear hw h9
        go_enter Tryz.func161, Tryz.ntmps161
        go_wp2_with fail
        refine (cO _).mono ?_
        rintro x u1 ⟨rfl, f1⟩
        obtain ⟨c0, c1, c2, c3, c4, c5, c6, c7⟩ := kE.fr f1
        have fA := Fr.alloc u1 (.cells #[.int .i64 gr] 2)
        go_wp2_with fail
        go_ret
        exact ⟨_, rfl, OwnI.lower (ownI_lit u1 [gr] (by simp) (by simp [I64]; omega) _ rfl) (by have := fW.size; have := f1.size; omega), (fW.trans f1).trans fA⟩
      · rw [if_neg (by omega)]
        simp only [List.length_cons, List.length_nil]
        obtain ⟨k, gr, o, wi, l, sz, f, t⟩ := e
        simp only at fW kE cO hg hb hg2 hw h9 ⊢
        have hwb : (wi == gr) = false := by simpa using hw
        have cm := fun u => l1MinG gr wi u
        have cM := fun u => l1MaxG gr wi u
        obtain ⟨a, ha⟩ : ∃ a, a = min gr wi := ⟨_, rfl⟩
        obtain ⟨b, hb2⟩ : ∃ b, b = max gr wi := ⟨_, rfl⟩
        have ba : I64 a ∧ I64 b := by simp only [I64]; omega
        simp only [← ha, ← hb2] at cm cM ⊢
        clear ha hb2 hw hg hg2 h9
        go_enter Tryz.func161, Tryz.ntmps161
        go_wp2_with fail
        refine (cO _).mono ?_
        rintro x u1 ⟨rfl, f1⟩
        obtain ⟨c0, c1, c2, c3, c4, c5, c6, c7⟩ := kE.fr f1
        go_wp2_with fail
        go_region_held3 (fun u => u.cell? ⟨w.heap.size, 1, none⟩ = some (.int .i64 gr) ∧ u.cell? ⟨w.heap.size, 3, none⟩ = some (.int .i64 wi)) (go_keep)
          (first | (go_at_call 168; refine (cm _).mono ?_; rintro x u2 ⟨rfl, rfl⟩) | (go_at_call 169; refine (cM _).mono ?_; rintro x u2 ⟨rfl, rfl⟩))
        all_goals
          have fA := Fr.alloc u1.drew (.cells #[.int .i64 a, .int .i64 b] 2)
          go_wp2_with fail
          go_ret
          exact ⟨_, rfl, OwnI.lower (ownI_lit u1.drew [a, b] (by simp) (by simp; exact ba) _ rfl) (by have := fW.size; have := f1.size; have : u1.drew.heap.size = u1.heap.size := rfl; omega), ((fW.trans f1).trans (Fr.drew u1)).trans fA⟩
end Go.Proofs.YthehhiccfnhinaaGreatDoor
/-
  The order of a legal trace: the model.
-/
namespace Go.Proofs.YthehhiccfnhinaaGreatDoor
open Go.RowKit

/-- Ways of edges. -/
inductive Bef (E : Nat → Nat → Bool) : Nat → Nat → Prop
  | edge {i j : Nat} (h : i < j) (e : E i j = true) : Bef E i j
  | more {q i j : Nat} (b : Bef E q i) (h : i < j) (e : E i j = true) : Bef E q j
theorem Bef.lt {E : Nat → Nat → Bool} {i j : Nat} (h : Bef E i j) : i < j := by
  induction h with
  | edge h _ => exact h
  | more _ h _ ih => omega
theorem Bef.trans {E : Nat → Nat → Bool} {q i j : Nat} (h : Bef E q i) (k : Bef E i j) : Bef E q j := by
  induction k with
  | edge l e => exact .more h l e
  | more _ l e ih => exact .more ih l e
/-- The last edge of a way. -/
theorem Bef.last {E : Nat → Nat → Bool} {i j : Nat} (h : Bef E i j) : ∃ l, l < j ∧ E l j = true ∧ (l = i ∨ Bef E i l) := by
  cases h with
  | edge h e => exact ⟨i, h, e, .inl rfl⟩
  | more b h e => exact ⟨_, h, e, .inr b⟩
theorem bef_iff {E : Nat → Nat → Bool} {i j : Nat} : Bef E i j ↔ ∃ l, l < j ∧ E l j = true ∧ (l = i ∨ Bef E i l) := by
  refine ⟨Bef.last, ?_⟩
  rintro ⟨l, h, e, rfl | b⟩
  · exact .edge h e
  · exact .more b h e

def evA (es : List Ev) (i : Nat) : Ev := es.getD i ⟨0, 0, 0, 0, 0, 0, 0, 0⟩
theorem evA_at {es : List Ev} {i : Nat} (h : i < es.length) : evA es i = es[i] := by
  unfold evA
  rw [List.getD_eq_getElem?_getD, List.getElem?_eq_getElem h]
  rfl
/-- Is event i of goroutine g? -/
def ofG (es : List Ev) (i : Nat) (g : Int) : Bool := memB (gorsL (evA es i)) g
/-- The last event ahead of j of a goroutine; -1 where there is none. -/
def lastG (es : List Ev) : Nat → Int → Int
  | 0, _ => -1
  | j + 1, g => if ofG es j g = true then (j : Int) else lastG es j g
theorem lastG_lt (es : List Ev) (g : Int) : ∀ j, -1 ≤ lastG es j g ∧ lastG es j g < j
  | 0 => ⟨by simp [lastG], by simp [lastG]⟩
  | j + 1 => by
    have ih := lastG_lt es g j
    unfold lastG
    split
    · exact ⟨by omega, by omega⟩
    · exact ⟨ih.1, by omega⟩
theorem lastG_of (es : List Ev) (g : Int) : ∀ j i, i < j → ofG es i g = true → ∃ l : Nat, lastG es j g = l ∧ i ≤ l ∧ l < j ∧ ofG es l g = true
  | 0, i, h, _ => by omega
  | j + 1, i, h, hi => by
    unfold lastG
    by_cases q : ofG es j g = true
    · rw [if_pos q]
      exact ⟨j, rfl, by omega, by omega, q⟩
    · rw [if_neg q]
      have hij : i < j := by
        rcases Nat.lt_or_ge i j with p | p
        · exact p
        · have : i = j := by omega
          subst this
          exact absurd hi q
      obtain ⟨l, a, b, c, d⟩ := lastG_of es g j i hij hi
      exact ⟨l, a, b, by omega, d⟩
/-- Does one of these give to what one of those takes of? -/
def meetsB (a b : List Tch) : Bool := a.any fun x => b.any fun y => x.gv && y.tk && x.sp == y.sp && x.ob == y.ob && x.sl == y.sl
/-- Is there an edge from i to j? -/
def edgeB (es : List Ev) (i j : Nat) : Bool := memB ((gorsL (evA es j)).map (lastG es j)) i || ((evA es i).k == 1 && memB (gorsL (evA es j)) (evA es i).o) || meetsB (touJ es i) (touJ es j)
def edgesL (es : List Ev) (j : Nat) : List Int := ((List.range j).filter fun i => edgeB es i j).map fun i : Nat => (i : Int)
/-- What a goroutine did earlier is ahead. -/
theorem same_gor (es : List Ev) (g : Int) : ∀ j i, i < j → ofG es i g = true → ofG es j g = true → Bef (edgeB es) i j := by
  intro j
  induction j using Nat.strongRecOn with
  | _ j ih =>
    intro i hij hi hj
    obtain ⟨l, e, h1, h2, h3⟩ := lastG_of es g j i hij hi
    have hE : edgeB es l j = true := by
      have hm : memB ((gorsL (evA es j)).map (lastG es j)) l = true := by
        rw [memB, List.any_eq_true]
        have hg : g ∈ gorsL (evA es j) := by
          have := hj
          unfold ofG at this
          rw [memB, List.any_eq_true] at this
          obtain ⟨x, hx, hb⟩ := this
          simp only [beq_iff_eq] at hb
          exact hb ▸ hx
        exact ⟨lastG es j g, List.mem_map_of_mem hg, by rw [e]; simp⟩
      unfold edgeB
      rw [hm]
      rfl
    by_cases q : l = i
    · subst q
      exact .edge h2 hE
    · exact .more (ih l h2 i (by omega) hi h3) h2 hE
/-- The events ahead of j, as the tests find them. -/
theorem edges_mem (es : List Ev) (j : Nat) (x : Int) : x ∈ edgesL es j ↔ ∃ i : Nat, x = i ∧ i < j ∧ edgeB es i j = true := by
  unfold edgesL
  rw [List.mem_map]
  constructor
  · rintro ⟨i, hi, rfl⟩
    obtain ⟨h1, h2⟩ := List.mem_filter.1 hi
    exact ⟨i, rfl, List.mem_range.1 h1, h2⟩
  · rintro ⟨i, rfl, h1, h2⟩
    exact ⟨i, List.mem_filter.2 ⟨List.mem_range.2 h1, h2⟩, rfl⟩
end Go.Proofs.YthehhiccfnhinaaGreatDoor
/-
  The specification's l7Meets.
-/
namespace Go.Proofs.YthehhiccfnhinaaGreatDoor
open Go.RowKit

/-- Does x give to what y takes of? -/
def mtB (x y : Tch) : Bool := x.gv && y.tk && x.sp == y.sp && x.ob == y.ob && x.sl == y.sl
theorem meetsB_mt (a b : List Tch) : meetsB a b = a.any fun x => b.any fun y => mtB x y := rfl

set_option maxRecDepth 20000 in
set_option maxHeartbeats 8000000 in
theorem meets_any (ao bo : Option Addr) (n c m d : Nat) (ts us : List Tch) (w : World) (hn : ts.length = n) (hm : us.length = m) (h : ReadsG layT w ao ts) (h' : ReadsG layT w bo us) :
    Calls Tryz.prog 162 #[.slice ao n c, .slice bo m d] w fun x w' => x = .returned (.bool (meetsB ts us)) ∧ Fr w w' := by
  subst hn
  subst hm
  have hl := h.len
  have hl' := h'.len
  rw [meetsB_mt]
  go_enter Tryz.func162, Tryz.ntmps162
  go_wp2_with fail
  go_loopw [5] (fun i wr => ∃ k : Nat, k ≤ ts.length ∧ i = .int .i64 k ∧ Hid (∀ q (hq : q < ts.length), q < k → (us.any fun y => mtB ts[q] y) = false) ∧ Fr w wr) (fun i _ => ts.length - (intOf i).toNat)
  case atStart => exact ⟨0, Nat.zero_le _, rfl, fun q hq h => by omega, Fr.refl w⟩
  case round =>
    obtain ⟨k, hk, rfl, HN, hF⟩ := hrel
    by_cases hlt : k < ts.length
    · have hki : (k : Int) < ts.length := by omega
      have hkb : decide ((k : Int) < ts.length) = true := by simp; omega
      go_wp2_with fail
      go_loopw [6] (fun i wr => ∃ q : Nat, q ≤ us.length ∧ i = .int .i64 q ∧ Hid (∀ p (hp : p < us.length), p < q → mtB ts[k] us[p] = false) ∧ Fr w wr) (fun i _ => us.length - (intOf i).toNat)
      case atStart => exact ⟨0, Nat.zero_le _, rfl, fun q hq h => by omega, hF⟩
      case round =>
        obtain ⟨q, hq, rfl, HM, hF2⟩ := hrel
        by_cases hlq : q < us.length
        · have hqi : (q : Int) < us.length := by omega
          obtain ⟨b, off, rfl, a0, a1, a2, a3, a4⟩ := tc_at (h.fr hF2) k hlt
          obtain ⟨b', off', rfl, x0, x1, x2, x3, x4⟩ := tc_at (h'.fr hF2) q hlq
          have HY : Hid (mtB ts[k] us[q] = true → (ts.any fun x => us.any fun y => mtB x y) = true) := fun e => by
            rw [List.any_eq_true]
            refine ⟨ts[k], List.getElem_mem hlt, ?_⟩
            rw [List.any_eq_true]
            exact ⟨us[q], List.getElem_mem hlq, e⟩
          have HX : Hid (mtB ts[k] us[q] = false → ∀ p (hp : p < us.length), p < q + 1 → mtB ts[k] us[p] = false) := fun e p hp h => by
            by_cases z : p = q
            · subst z
              exact e
            · exact HM.out p hp (by omega)
          obtain ⟨A, hA⟩ : ∃ A, A = ts[k] := ⟨_, rfl⟩
          obtain ⟨B, hB⟩ : ∃ B, B = us[q] := ⟨_, rfl⟩
          simp only [← hA, ← hB] at a0 a1 a2 a3 a4 x0 x1 x2 x3 x4 HY HX
          clear hB HM
          obtain ⟨sp, ob, sl, tk, gv⟩ := A
          obtain ⟨sp', ob', sl', tk', gv'⟩ := B
          simp only [mtB] at a0 a1 a2 a3 a4 x0 x1 x2 x3 x4 HY HX
          have HA : Hid (ts[k] = ⟨sp, ob, sl, tk, gv⟩) := hA.symm
          clear hA
          cases gv
          · have HX := HX.out rfl
            have HX : Hid _ := HX
            go_wp2_with fail
            go_quiet (fail)
            go_wp2_with fail
            go_roundw
            case rel => exact ⟨q + 1, by omega, by go_num, fun p hp hh => by rw [HA.out]; exact HX.out p hp hh, hF2.trans (Fr.drewN _ _)⟩
            case measure => simp [intOf] <;> omega
          · cases tk'
            · have HX := HX.out (rfl)
              have HX : Hid _ := HX
              clear HY
              go_wp2_with fail
              go_quiet (fail)
              go_wp2_with fail
              go_roundw
              case rel => exact ⟨q + 1, by omega, by go_num, fun p hp hh => by rw [HA.out]; exact HX.out p hp hh, hF2.trans (Fr.drewN _ _)⟩
              case measure => simp [intOf] <;> omega
            · cases h1 : (sp == sp')
              · have HX := HX.out (by simp [h1])
                have HX : Hid _ := HX
                clear HY
                go_wp2_with fail
                go_quiet (fail)
                go_wp2_with fail
                go_roundw
                case rel => exact ⟨q + 1, by omega, by go_num, fun p hp hh => by rw [HA.out]; exact HX.out p hp hh, hF2.trans (Fr.drewN _ _)⟩
                case measure => simp [intOf] <;> omega
              · cases h2 : (ob == ob')
                · have HX := HX.out (by simp [h1, h2])
                  have HX : Hid _ := HX
                  clear HY
                  go_wp2_with fail
                  go_quiet (fail)
                  go_wp2_with fail
                  go_roundw
                  case rel => exact ⟨q + 1, by omega, by go_num, fun p hp hh => by rw [HA.out]; exact HX.out p hp hh, hF2.trans (Fr.drewN _ _)⟩
                  case measure => simp [intOf] <;> omega
                · cases h3 : (sl == sl')
                  · have HX := HX.out (by simp [h1, h2, h3])
                    have HX : Hid _ := HX
                    clear HY
                    go_wp2_with fail
                    go_quiet (fail)
                    go_wp2_with fail
                    go_roundw
                    case rel => exact ⟨q + 1, by omega, by go_num, fun p hp hh => by rw [HA.out]; exact HX.out p hp hh, hF2.trans (Fr.drewN _ _)⟩
                    case measure => simp [intOf] <;> omega
                  · have HY := HY.out (by simp [h1, h2, h3])
                    have HY : Hid ((ts.any fun x => us.any fun y => mtB x y) = true) := HY
                    clear HX
                    go_wp2_with fail
                    go_quiet (fail)
                    go_wp2_with fail
                    go_ret
                    exact ⟨by rw [HY.out]; exact rfl, hF2.trans (Fr.drewN _ _)⟩
        · have e : q = us.length := by omega
          subst e
          have HNN : Hid (∀ p (hp : p < ts.length), p < k + 1 → (us.any fun y => mtB ts[p] y) = false) := fun p hp h => by
            by_cases z : p = k
            · subst z
              rw [List.any_eq_false]
              intro y hy
              obtain ⟨i, hi, rfl⟩ := List.mem_iff_getElem.1 hy
              rw [HM.out i hi hi]
              simp
            · exact HN.out p hp (by omega)
          clear HM HN
          go_wp2_with fail
          go_roundw
          case rel => exact ⟨k + 1, by omega, by go_num, HNN.out, hF2⟩
          case measure => simp [intOf] <;> omega
    · have e : k = ts.length := by omega
      subst e
      have HE : Hid ((ts.any fun x => us.any fun y => mtB x y) = false) := by
        refine (List.any_eq_false).2 fun x hx => ?_
        obtain ⟨i, hi, rfl⟩ := List.mem_iff_getElem.1 hx
        rw [HN.out i hi hi]
        simp
      clear HN
      go_wp2_with fail
      go_ret
      exact ⟨by rw [HE.out]; exact rfl, hF⟩
end Go.Proofs.YthehhiccfnhinaaGreatDoor
/-
  The specification's l5Part, l7All.
-/
namespace Go.Proofs.YthehhiccfnhinaaGreatDoor
open Go.RowKit

/-- A slice as a value. -/
structure Slc where
  ao : Option Addr
  n : Nat
  c : Nat
def layS (t : TypeId) : Lay Slc where
  ty := t
  sz := 1
  cs s := [.slice s.ao s.n s.c]
  pos := by omega
  len _ := rfl
  one x u hu := by
    simp only [List.mem_singleton] at hu
    subst hu
    rfl
theorem infoTS : (Tryz.prog.info? 194).map (fun i => (i.zero, i.size, i.bytes)) = some (some (.slice none 0 0), 1, 24) := by kernel_rfl
/-- A list of lists of touches: each lies elsewhere. -/
structure AllT (w : World) (base : Nat) (v : Value) (tss : List (List Tch)) : Prop where
  at_ : ∃ sls : List Slc, OwnG (layS 194) w base v sls ∧ sls.length = tss.length ∧ ∀ j (h1 : j < sls.length) (h2 : j < tss.length), ReadsG layT w sls[j].ao tss[j] ∧ sls[j].n = tss[j].length ∧ (∀ b, blk sls[j].ao = some b → base ≤ b ∧ b < w.heap.size ∧ some b ≠ v.ownBlock)
theorem AllT.fr {w w' : World} {base : Nat} {v : Value} {tss : List (List Tch)} (h : AllT w base v tss) (k : Fr w w') : AllT w' base v tss := by
  obtain ⟨sls, h1, h2, h3⟩ := h.at_
  exact ⟨sls, h1.fr k, h2, fun j a b => ⟨(h3 j a b).1.fr k, (h3 j a b).2.1, fun x hx => by have := (h3 j a b).2.2 x hx; have := k.size; exact ⟨by omega, by omega, ((h3 j a b).2.2 x hx).2.2⟩⟩⟩
/-- What the first k events touch. -/
def tssL (es : List Ev) (k : Nat) : List (List Tch) := (List.range k).map fun j => tchL (evA es j) (slotE (es.take j) (evA es j))
theorem tssL_len (es : List Ev) (k : Nat) : (tssL es k).length = k := by simp [tssL]
theorem tssL_succ (es : List Ev) (k : Nat) : tssL es (k + 1) = tssL es k ++ [tchL (evA es k) (slotE (es.take k) (evA es k))] := by simp [tssL, List.range_succ]

set_option maxRecDepth 20000 in
set_option maxHeartbeats 4000000 in
theorem l7All_any (ao : Option Addr) (n c : Nat) (es : List Ev) (w : World) (hn : es.length = n) (h : ReadsE w ao es) (hk : ∀ j (hj : j < es.length), (1 ≤ es[j].k ∧ es[j].k ≤ 22) ∧ (es[j].k = 7 ∨ es[j].k = 8 → capK es[j].o (es.take j) ≠ 0)) :
    Calls Tryz.prog 100 #[.slice ao n c] w fun x w' => ∃ v, x = .returned v ∧ AllT w' w.heap.size v (tssL es es.length) ∧ Fr w w' := by
  subst hn
  have hl := h.len
  go_enter Tryz.func100, Tryz.ntmps100
  go_wp2_with fail
  go_loopw [3, 4] (fun v i wr => ∃ k : Nat, k ≤ es.length ∧ i = .int .i64 k ∧ AllT wr w.heap.size v (tssL es k) ∧ Fr w wr) (fun _ i _ => es.length - (intOf i).toNat)
  case atStart => exact ⟨0, Nat.zero_le _, rfl, ⟨[], ownG_new (layS 194) w w.heap.size (Nat.le_refl _), by simp [tssL], fun j h1 => by simp at h1⟩, Fr.alloc _ _⟩
  case round =>
    obtain ⟨k, hk1, rfl, hA, hF⟩ := hrel
    by_cases hlt : k < es.length
    · have hki : (k : Int) < es.length := by omega
      obtain ⟨q1, q2⟩ := hk k hlt
      have cT := l6Touches_any ao es.length c es wr rfl (h.fr hF) k hlt q1 q2
      have HE : Hid (evA es k = es[k]) := evA_at hlt
      have HS : Hid (tssL es (k + 1) = tssL es k ++ [tchL es[k] (slotE (es.take k) es[k])]) := by rw [tssL_succ, HE.out]; exact rfl
      obtain ⟨ts, hts⟩ : ∃ ts, ts = tchL es[k] (slotE (es.take k) es[k]) := ⟨_, rfl⟩
      rw [← hts] at cT HS
      clear hts q1 q2
      go_wp2_with fail
      refine cT.mono ?_
      rintro x u1 ⟨v1, rfl, o1, f1⟩
      clear cT
      obtain ⟨tg, tc, rfl, ot, hol⟩ := o1
      have tr := own_readsG ot hol
      have tlt := ot.lt tg rfl
      have hbw : ∀ j, u3.ownBlock = some j → j < wr.heap.size := by
        obtain ⟨sls, s1, -, -⟩ := hA.at_
        exact s1.lt
      obtain ⟨sls, s1, s2, s3⟩ := (hA.fr f1).at_
      have f2 := Fr.alloc u1 (.cells #[.slice (some ⟨tg, 0, none⟩) ts.length tc] 194)
      have k2 := heap_alloc_new u1 (.cells #[.slice (some ⟨tg, 0, none⟩) ts.length tc] 194)
      have hsl : sls.length ≤ 16777215 := by rw [s2, tssL_len]; omega
      have hsz : w.heap.size ≤ (u1.alloc (.cells #[.slice (some ⟨tg, 0, none⟩) ts.length tc] 194)).heap.size := by have := hF.size; have := f1.size; have := f2.size; omega
      have hnew : ∀ q, q < (layS 194).sz → (u1.alloc (.cells #[.slice (some ⟨tg, 0, none⟩) ts.length tc] 194)).cell? ⟨u1.heap.size, q, none⟩ = ((layS 194).cs ⟨some ⟨tg, 0, none⟩, ts.length, tc⟩)[q]? := by
        intro q hq
        have : q = 0 := by simpa [layS] using hq
        subst this
        rw [cell_of_row _ _ _ _ _ _ k2]
        rfl
      have s1' := s1.fr f2
      have hbl := s1.lt
      clear hA k2
      go_wp2_with (at_builtin; refine appG (layS 194) _ rfl _ _ 132 (.slice none 0 0) 24 rfl Tryz.underlying132 infoTS rfl (by omega) w.heap.size u3 sls ⟨some ⟨tg, 0, none⟩, ts.length, tc⟩ rfl s1' _ _ rfl hnew hsl hsz ?_; intro v3 z3 s4 g3 at3)
      go_roundw
      case rel =>
        have hz1 : (u1.alloc (.cells #[.slice (some ⟨tg, 0, none⟩) ts.length tc] 194)).heap.size = u1.heap.size + 1 := by simp
        have hs1 := f1.size
        have hg3 := g3.size
        have hF1 := hF.size
        have hb3 : ∀ b, b < u1.heap.size → some b ≠ u3.ownBlock → some b ≠ v3.ownBlock := by
          intro b h1 h2
          rcases at3 with e | e
          · rw [e]
            exact h2
          · rw [e, hz1]
            simp
            omega
        refine ⟨k + 1, by omega, by go_num, ⟨sls ++ [⟨some ⟨tg, 0, none⟩, ts.length, tc⟩], s4, by rw [HS.out]; simp [s2], fun j h1 h2 => ?_⟩, ((hF.trans f1).trans f2).then g3 s1.blk⟩
        simp only [HS.out] at h2 ⊢
        by_cases e : j < sls.length
        · rw [List.getElem_append_left e, List.getElem_append_left (by omega)]
          have q := s3 j e (by omega)
          refine ⟨(q.1.fr f2).keep g3 (.inr (fun z => ?_)), q.2.1, fun b hb => ?_⟩
          · cases hb : blk sls[j].ao with
            | none =>
              rw [hb] at z
              obtain ⟨g, cap, rfl, -⟩ := s1
              simp [Value.ownBlock] at z
            | some b => exact (q.2.2 b hb).2.2 (hb ▸ z)
          · have := q.2.2 b hb
            exact ⟨this.1, by omega, hb3 b this.2.1 this.2.2⟩
        · have ej : j = sls.length := by
            simp at h1
            omega
          subst ej
          have e1 : (sls ++ [(⟨some ⟨tg, 0, none⟩, ts.length, tc⟩ : Slc)])[sls.length] = ⟨some ⟨tg, 0, none⟩, ts.length, tc⟩ := by simp
          have e2 : (tssL es k ++ [ts])[sls.length] = ts := by simp [s2]
          rw [e1, e2]
          have hne : some tg ≠ u3.ownBlock := by
            intro z
            have := hbw tg z.symm
            omega
          refine ⟨(tr.fr f2).keep g3 (.inr hne), rfl, fun b hb => ?_⟩
          simp only [blk, Option.map_some, Option.some.injEq] at hb
          subst hb
          exact ⟨by omega, by omega, hb3 tg tlt.2 hne⟩
      case measure => simp [intOf] <;> omega
    · have e : k = es.length := by omega
      subst e
      go_wp2_with fail
      go_ret
      exact ⟨_, rfl, hA, hF⟩

def layEv : Lay Ev where
  ty := 31
  sz := 8
  cs := evCells
  pos := by omega
  len _ := rfl
  one x u hu := by
    simp only [evCells, List.mem_cons, List.not_mem_nil, or_false] at hu
    rcases hu with rfl | rfl | rfl | rfl | rfl | rfl | rfl | rfl <;> rfl
theorem ReadsE.toG {w : World} {ao : Option Addr} {es : List Ev} (h : ReadsE w ao es) : ReadsG layEv w ao es := by
  refine ⟨h.len, fun i hi => ?_⟩
  obtain ⟨b, off, e, hc⟩ := h.at_ i hi
  refine ⟨b, off, e, fun j hj k hk => ?_⟩
  have hk8 : k < 8 := hk
  obtain ⟨c0, c1, c2, c3, c4, c5, c6, c7⟩ := hc j hj
  rcases k with _ | _ | _ | _ | _ | _ | _ | _ | k
  · exact c0
  · exact c1
  · exact c2
  · exact c3
  · exact c4
  · exact c5
  · exact c6
  · exact c7
  · omega
/-- The legal part. -/
def lpL (es : List Ev) : List Ev := es.take (legLen es).toNat
set_option maxRecDepth 20000 in
set_option maxHeartbeats 2000000 in
theorem l5Part_any (gb off n c : Nat) (es : List Ev) (w : World) (hn : es.length = n) (hnc : n ≤ c) (h : ReadsE w (some ⟨gb, off, none⟩) es) :
    Calls Tryz.prog 73 #[.slice (some ⟨gb, off, none⟩) n c] w fun x w' => ∃ v, x = .returned v ∧ OwnE w' w.heap.size v (lpL es) ∧ Fr w w' := by
  have cL := specLen_any (some ⟨gb, off, none⟩) n c es w hn h
  have hle := legLen_le es
  have hlen := h.len
  obtain ⟨Z, hZ⟩ : ∃ Z, Z = legLen es := ⟨_, rfl⟩
  unfold lpL
  rw [← hZ] at cL hle ⊢
  clear hZ
  by_cases hz : Z < 0
  · have hz0 : Z.toNat = 0 := by omega
    have hzt : (Z < 0) = True := by simp [hz]
    rw [hz0, List.take_zero]
    clear hz0 h
    go_enter Tryz.func73, Tryz.ntmps73
    go_wp2_with fail
    refine (cL).mono ?_
    rintro e u1 ⟨rfl, f1⟩
    go_wp2_with fail
    go_ret
    have s1 := f1.size
    refine ⟨_, rfl, ?_, f1.trans (Fr.alloc _ _)⟩
    obtain ⟨g, cap, e, o, l⟩ := ownE_new u1
    exact ⟨g, cap, e, (OwnG.lower (L := layEv) (v := .slice (some ⟨g, 0, none⟩) 0 cap) (xs := []) ⟨g, cap, rfl, o, l⟩ s1).elim fun g' q => by
      obtain ⟨cap', e', o', _⟩ := q
      simp only [Value.slice.injEq, Option.some.injEq, Addr.mk.injEq, and_true] at e'
      obtain ⟨rfl, _, rfl⟩ := e'
      exact o', l⟩
  · obtain ⟨K, rfl⟩ : ∃ K : Nat, Z = K := ⟨Z.toNat, by omega⟩
    have hzt : ((K : Int) < 0) = False := by simp
    rw [Int.toNat_natCast]
    have hK : K ≤ es.length := by omega
    have hKl : (es.take K).length = K := by simp; omega
    have hKc : (K : Int) ≤ c := by omega
    have hKc2 : K ≤ c := by omega
    have hnew := fun u (f : Fr w u) => news_of_reads ((h.fr f).take K).toG
    clear h hz
    go_enter Tryz.func73, Tryz.ntmps73
    go_wp2_with fail
    refine (cL).mono ?_
    rintro e u1 ⟨rfl, f1⟩
    clear cL
    have f2 := Fr.alloc u1 (.cells #[] 31)
    have o2 : OwnG layEv (u1.alloc (.cells #[] 31)) w.heap.size (.slice (some ⟨u1.heap.size, 0, none⟩) 0 0) [] := ownG_new layEv u1 w.heap.size f1.size
    have hsz : w.heap.size ≤ (u1.alloc (.cells #[] 31)).heap.size := by have := f1.size; have := f2.size; omega
    have hnw := hnew _ (f1.trans f2)
    clear hnew
    go_wp2_with (at_builtin; refine appGL layEv _ rfl _ _ 42 _ 64 rfl Tryz.underlying42 Tryz.info31 rfl (by omega) w.heap.size _ [] (es.take K) rfl o2 _ _ (by rw [hKl]; rfl) hnw (by simp; omega) hsz ?_; intro v3 z3 s3 g3 at3)
    go_ret
    refine ⟨v3, rfl, ?_, (f1.trans f2).then g3 o2.blk⟩
    rw [List.nil_append] at s3
    obtain ⟨g, cap, rfl, o, l⟩ := s3
    exact ⟨g, cap, rfl, o, l⟩
end Go.Proofs.YthehhiccfnhinaaGreatDoor
