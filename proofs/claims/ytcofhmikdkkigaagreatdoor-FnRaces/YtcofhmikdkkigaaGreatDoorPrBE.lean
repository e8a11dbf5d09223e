/-
  Pack BE: DoorT, DoorEv, EvCov, EvCla.
-/
import Derived.Test.YtcofhmikdkkigaaGreatDoorPrAV
import Derived.Test.YtcofhmikdkkigaaGreatDoorPrAY
import Derived.Test.YtcofhmikdkkigaaGreatDoorPrAD
namespace Go.Proofs.YtcofhmikdkkigaaGreatDoor
open Go.ChangeShapes Go.WideShapes Go.ChangeAt Go.RowKit

theorem gTab : Tryz.prog.globalNamed "math/bits.deBruijn64tab" = some 1 := by kernel_rfl
theorem tTab : (Tryz.prog.globals[1]?).map (·.type) = some 211 := by kernel_rfl
theorem cells_u8 : Tryz.prog.cellsOf 5 = 1 := by kernel_rfl
theorem laid_tab : (Rows.laid_math_bits_deBruijn64tab : DataW Unit) = .agg (Lib.deBruijn64tab.map fun x => .lit (.int .u8 ((x : Nat) : Int))) := rfl
def laidT : List (String × DataW Unit) := [("math/bits.deBruijn64tab", Rows.laid_math_bits_deBruijn64tab), ("loop.example/g00720/impl.shapes", Rows.laid_loop_example_g00720_impl_shapes)]
theorem laidT_plain (W : World) : laidMetH Tryz.prog laidT W = laidMet Tryz.prog laidT W := rfl
theorem tab_of {W : World} (h : laidMetH Tryz.prog laidT W) : Shapes W ∧ Tab W := by
  rw [laidT_plain] at h
  refine ⟨?_, ?_⟩
  · obtain ⟨ps, hl, -⟩ := h
    obtain ⟨g, t, cs, fuel, p, q, hg, ht, hv, hd, hrest, -⟩ := hl
    exact shapes_of hrest
  · obtain ⟨ps, hl, -⟩ := h
    obtain ⟨g, t, cs, fuel, p, q, hg, ht, hv, hd, -, -⟩ := hl
    obtain rfl := Option.some.inj (gTab.symm.trans hg)
    obtain rfl := Option.some.inj (tTab.symm.trans ht)
    obtain ⟨xs, m, -, hx, hl, hn, hel⟩ := DataW.trod_array Tryz.underlying211 hd
    simp only [Prod.mk.injEq] at hx
    have hc : ∀ j, W.cell? ⟨1, j, none⟩ = cs[j]? := World.var?_cell gTab hv
    have hx1 : xs.map (·.1) = Lib.deBruijn64tab.map fun x => .lit (.int .u8 ((x : Nat) : Int)) := by
      have := hx.1
      rw [laid_tab] at this
      injection this with e
      exact e.symm
    intro j hj
    have hj64 : j < 64 := hj
    have h1 : (xs.map (·.1))[j]? = some (.lit (.int .u8 ((Lib.deBruijn64tab.getD j 0 : Nat) : Int))) := by
      rw [hx1, List.getElem?_map, List.getElem?_eq_getElem hj, List.getD_eq_getElem?_getD, List.getElem?_eq_getElem hj]
      rfl
    rw [List.getElem?_map, Option.map_eq_some_iff] at h1
    obtain ⟨⟨y, py⟩, hy, hy2⟩ := h1
    simp only at hy2
    subst hy2
    have h2 := hel j (by omega)
    rw [hy, cells_u8] at h2
    obtain ⟨n0, e0, e1, _⟩ := DataW.trod_int Tryz.underlying5 h2
    simp only [Prod.mk.injEq, DataW.lit.injEq, Lit.int.injEq, true_and] at e1
    have e2 : cs.toList[j]? = some (.int .u8 n0) := by
      have := congrArg (fun l => l[0]?) e0
      simpa [List.getElem?_take, List.getElem?_drop] using this
    rw [hc, ← Array.getElem?_toList, e2]
    simp_all
end Go.Proofs.YtcofhmikdkkigaaGreatDoor
namespace Go.Proofs.YtcofhmikdkkigaaGreatDoor
open Go.ChangeShapes Go.WideShapes Go.ChangeAt Go.RowKit

set_option maxRecDepth 20000 in
theorem ev_of_cells {H : Type} {enc : TypeId × Value → H} {W : World} {base : Nat} {sp : Nat → Bool} {held : Bool} {fuel : Nat} {cs : List Value} {x : DataW H × List MemPlace}
    (hf : DataW.trod enc Tryz.prog W base sp held fuel 119 cs = some x) : ∃ e : Ev, cs = evCells e := by
  obtain ⟨xs, m, -, hx, hl, hn, hfs⟩ := DataW.trod_struct Tryz.underlying119 hf
  rw [cells_ev] at hl
  match cs, hl with
  | [c0, c1, c2, c3, c4, c5, c6, c7], _ =>
    match xs, hn with
    | [x0, x1, x2, x3, x4, x5, x6, x7], _ =>
      have h0 := hfs 0 _ rfl
      have h1 := hfs 1 _ rfl
      have h2 := hfs 2 _ rfl
      have h3 := hfs 3 _ rfl
      have h4 := hfs 4 _ rfl
      have h5 := hfs 5 _ rfl
      have h6 := hfs 6 _ rfl
      have h7 := hfs 7 _ rfl
      simp [cells_int64] at h0 h1 h2 h3 h4 h5 h6 h7
      obtain ⟨n0, e0, -, w0⟩ := DataW.trod_int Tryz.underlying2 h0
      obtain ⟨n1, e1, -, w1⟩ := DataW.trod_int Tryz.underlying2 h1
      obtain ⟨n2, e2, -, w2⟩ := DataW.trod_int Tryz.underlying2 h2
      obtain ⟨n3, e3, -, w3⟩ := DataW.trod_int Tryz.underlying2 h3
      obtain ⟨n4, e4, -, w4⟩ := DataW.trod_int Tryz.underlying2 h4
      obtain ⟨n5, e5, -, w5⟩ := DataW.trod_int Tryz.underlying2 h5
      obtain ⟨n6, e6, -, w6⟩ := DataW.trod_int Tryz.underlying2 h6
      obtain ⟨n7, e7, -, w7⟩ := DataW.trod_int Tryz.underlying2 h7
      simp at e0 e1 e2 e3 e4 e5 e6 e7
      subst e0 e1 e2 e3 e4 e5 e6 e7
      exact ⟨⟨n0, n1, n2, n3, n4, n5, n6, n7⟩, rfl⟩

theorem list_of {α : Type} (n : Nat) (P : Nat → α → Prop) (h : ∀ i, i < n → ∃ x, P i x) : ∃ l : List α, l.length = n ∧ ∀ i (hi : i < l.length), P i l[i] := by
  induction n with
  | zero => exact ⟨[], rfl, by simp⟩
  | succ n ih =>
    obtain ⟨l, hl, hp⟩ := ih (fun i hi => h i (by omega))
    obtain ⟨x, hx⟩ := h n (by omega)
    refine ⟨l ++ [x], by simp [hl], fun i hi => ?_⟩
    by_cases hin : i < l.length
    · rw [List.getElem_append_left hin]; exact hp i hin
    · have : i = n := by simp at hi; omega
      subst this
      rw [List.getElem_append_right (by omega)]
      simpa [hl] using hx

def IsEvs (w : World) (ao : Option Addr) (len : Nat) : Prop := len ≤ maxLen ∧ ∃ es : List Ev, es.length = len ∧ (len ≤ 16777216 → ReadsE w ao es)

theorem evs_of_arg {H : Type} {enc : TypeId × Value → H} {W : World} {base : Nat} {sp : Nat → Bool} {held : Bool} {ao : Option Addr} {len cap : Nat} {d : DataW H} {p : List MemPlace}
    (h : DataW.Trod enc Tryz.prog W base sp held 56 (.slice ao len cap) d p) : IsEvs W ao len := by
  obtain ⟨fuel, hf⟩ := h
  rcases DataW.trod_slice Tryz.underlying56 hf with ⟨hcs, _⟩ | ⟨a, l, c, elems, rest, n, -, hcs, -, hb, hlc, hcm, hel, hat, -, -⟩
  · simp [Value.cells] at hcs
    obtain ⟨rfl, rfl, rfl⟩ := hcs
    exact ⟨by unfold maxLen; omega, [], rfl, fun _ => ReadsE.nil _ _⟩
  · simp [Value.cells] at hcs
    obtain ⟨rfl, rfl, rfl⟩ := hcs
    rw [cells_ev] at hat
    have each : ∀ i, i < len → ∃ e : Ev, ∀ k, k < 8 → W.cell? ((a.add (i * 8)).add k) = (evCells e)[k]? := by
      intro i hi
      have h1 := hat i hi
      rw [List.getElem?_eq_getElem (by omega)] at h1
      obtain ⟨cs, hcs, htr⟩ := Option.bind_eq_some_iff.1 h1
      obtain ⟨e, rfl⟩ := ev_of_cells htr
      refine ⟨e, fun k hk => ?_⟩
      exact (World.cells?_some hcs).2.2 k hk
    obtain ⟨es, hl, he⟩ := list_of len _ each
    refine ⟨by omega, es, hl, fun hlen => ⟨by omega, fun i hi => ?_⟩⟩
    obtain ⟨b, off, spot⟩ := a
    have hi0 : 0 < es.length := by omega
    have hc := he 0 hi0 0 (by omega)
    have hspot : spot = none := by
      have h2 : W.cell? (((⟨b, off, spot⟩ : Addr).add (0 * 8)).add 0) = some (.int .i64 es[0].k) := hc
      have := World.cell?_spot h2
      simpa [Addr.add] using this
    subst hspot
    refine ⟨b, off, rfl, fun j hj => EvC.of fun k hk => ?_⟩
    have := he j hj k hk
    rw [Addr.add_lit, Addr.add_lit] at this
    exact this
end Go.Proofs.YtcofhmikdkkigaaGreatDoor
namespace Go.Proofs.YtcofhmikdkkigaaGreatDoor
open Go.RowKit

theorem cov_ways (e : Ev) (x : Int) :
    (evOk e = false ∧ accB e = false ∧ covB e x = false) ∨
    (evOk e = true ∧ accB e = true ∧ (e.k = 20 ∨ e.k = 21) ∧ 0 ≤ e.l ∧ e.l ≤ 65535 ∧ 1 ≤ e.s ∧ e.s ≤ 64 ∧ covB e x = (decide (e.l ≤ x) && decide (x < e.l + e.s))) ∨
    (evOk e = true ∧ accB e = false ∧ e.k = 22 ∧ 0 ≤ e.l ∧ e.l ≤ 65535 ∧ 1 ≤ e.s ∧ e.s ≤ 64 ∧ covB e x = (decide (e.l ≤ x) && decide (x < e.l + e.s))) ∨
    (evOk e = true ∧ accB e = false ∧ ¬ e.k = 20 ∧ ¬ e.k = 21 ∧ ¬ e.k = 22 ∧ covB e x = false) := by
  cases h : evOk e
  · left; simp [accB, covB, h]
  · right
    have hl := ok_lies h
    by_cases k1 : e.k = 20
    · left
      obtain ⟨a, b, c, d⟩ := hl (.inl k1)
      simp [accB, covB, h, k1, a, b, c, d]
    by_cases k2 : e.k = 21
    · left
      obtain ⟨a, b, c, d⟩ := hl (.inr (.inl k2))
      simp [accB, covB, h, k2, a, b, c, d]
    right
    by_cases k3 : e.k = 22
    · left
      obtain ⟨a, b, c, d⟩ := hl (.inr (.inr k3))
      simp [accB, covB, h, k3, a, b, c, d]
    · right
      simp [accB, covB, h, k1, k2, k3]

theorem cov_in {l x : Int} (h : l ≤ x) (b : Bool) : b = (decide (l ≤ x) && b) := by simp [h]
theorem cov_out {l x : Int} (h : x < l) (b : Bool) : false = (decide (l ≤ x) && b) := by simp; omega

set_option maxHeartbeats 1000000 in
theorem implCov_any (e : Ev) (x : Int) (w : World) (hs : Shapes w) :
    Calls Tryz.prog 198 #[.agg #[.int .i64 e.k, .int .i64 e.g, .int .i64 e.o, .int .i64 e.w, .int .i64 e.l, .int .i64 e.s, .int .i64 e.f, .int .i64 e.t], .int .i64 x] w fun y w' => y = .returned (.bool (covB e x)) ∧ Fr w w' := by
  have c1 := fun w (h : Shapes w) => implAcc_any e w h
  have c2 := fun w (h : Shapes w) => implOk_any e w h
  rcases cov_ways e x with ⟨h1, h2, h3⟩ | ⟨h1, h2, hk, l0, l1, s0, s1, h3⟩ | ⟨h1, h2, hk, l0, l1, s0, s1, h3⟩ | ⟨h1, h2, k1, k2, k3, h3⟩
  all_goals
    rw [h3]
    simp only [h2] at c1
    simp only [h1] at c2
    clear h1 h2 h3
    obtain ⟨k, g, o, wi, l, sz, f, t⟩ := e
    simp only at *
  · go_enter Tryz.func198, Tryz.ntmps198
    go_wp2_with fail
    refine (c1 _ (hs.fr (Fr.alloc _ _))).mono ?_
    rintro e w1 ⟨rfl, f1⟩
    have fw : Fr w w1 := (Fr.alloc _ _).trans f1
    have d0 : w1.cell? ⟨w.heap.size, 0, none⟩ = some (.int .i64 k) := f1.cell (by go_simp)
    have d1 : w1.cell? ⟨w.heap.size, 1, none⟩ = some (.int .i64 g) := f1.cell (by go_simp)
    have d2 : w1.cell? ⟨w.heap.size, 2, none⟩ = some (.int .i64 o) := f1.cell (by go_simp)
    have d3 : w1.cell? ⟨w.heap.size, 3, none⟩ = some (.int .i64 wi) := f1.cell (by go_simp)
    have d4 : w1.cell? ⟨w.heap.size, 4, none⟩ = some (.int .i64 l) := f1.cell (by go_simp)
    have d5 : w1.cell? ⟨w.heap.size, 5, none⟩ = some (.int .i64 sz) := f1.cell (by go_simp)
    have d6 : w1.cell? ⟨w.heap.size, 6, none⟩ = some (.int .i64 f) := f1.cell (by go_simp)
    have d7 : w1.cell? ⟨w.heap.size, 7, none⟩ = some (.int .i64 t) := f1.cell (by go_simp)
    clear f1
    go_wp2_with fail
    refine (c2 _ (hs.fr fw)).mono ?_
    rintro e w2 ⟨rfl, f2⟩
    go_wp2_with fail
    go_ret
    exact ⟨rfl, fw.trans f2⟩
  · by_cases hl : l ≤ x
    · go_enter Tryz.func198, Tryz.ntmps198
      go_wp2_with fail
      refine (c1 _ (hs.fr (Fr.alloc _ _))).mono ?_
      rintro e w1 ⟨rfl, f1⟩
      have fw : Fr w w1 := (Fr.alloc _ _).trans f1
      have d4 : w1.cell? ⟨w.heap.size, 4, none⟩ = some (.int .i64 l) := f1.cell (by go_simp)
      have d5 : w1.cell? ⟨w.heap.size, 5, none⟩ = some (.int .i64 sz) := f1.cell (by go_simp)
      clear f1 hk c1 c2
      go_wp2_with fail
      go_ret
      first | exact ⟨ret_bool (cov_in hl _), fw⟩ | exact ⟨ret_bool (cov_out hl _), fw⟩
    · go_enter Tryz.func198, Tryz.ntmps198
      go_wp2_with fail
      refine (c1 _ (hs.fr (Fr.alloc _ _))).mono ?_
      rintro e w1 ⟨rfl, f1⟩
      have fw : Fr w w1 := (Fr.alloc _ _).trans f1
      have d4 : w1.cell? ⟨w.heap.size, 4, none⟩ = some (.int .i64 l) := f1.cell (by go_simp)
      clear f1 hk c1 c2
      go_wp2_with fail
      go_ret
      first | exact ⟨ret_bool (cov_in hl _), fw⟩ | exact ⟨ret_bool (cov_out hl _), fw⟩
  · subst hk
    by_cases hl : l ≤ x
    all_goals
      go_enter Tryz.func198, Tryz.ntmps198
      go_wp2_with fail
      refine (c1 _ (hs.fr (Fr.alloc _ _))).mono ?_
      rintro e w1 ⟨rfl, f1⟩
      have fw : Fr w w1 := (Fr.alloc _ _).trans f1
      have d0 : w1.cell? ⟨w.heap.size, 0, none⟩ = some (.int .i64 22) := f1.cell (by go_simp)
      have d1 : w1.cell? ⟨w.heap.size, 1, none⟩ = some (.int .i64 g) := f1.cell (by go_simp)
      have d2 : w1.cell? ⟨w.heap.size, 2, none⟩ = some (.int .i64 o) := f1.cell (by go_simp)
      have d3 : w1.cell? ⟨w.heap.size, 3, none⟩ = some (.int .i64 wi) := f1.cell (by go_simp)
      have d4 : w1.cell? ⟨w.heap.size, 4, none⟩ = some (.int .i64 l) := f1.cell (by go_simp)
      have d5 : w1.cell? ⟨w.heap.size, 5, none⟩ = some (.int .i64 sz) := f1.cell (by go_simp)
      have d6 : w1.cell? ⟨w.heap.size, 6, none⟩ = some (.int .i64 f) := f1.cell (by go_simp)
      have d7 : w1.cell? ⟨w.heap.size, 7, none⟩ = some (.int .i64 t) := f1.cell (by go_simp)
      clear f1
      go_wp2_with fail
      refine (c2 _ (hs.fr fw)).mono ?_
      rintro e w2 ⟨rfl, f2⟩
      have i0 := f2.cell d0
      have i4 := f2.cell d4
      have i5 := f2.cell d5
      have fz := fw.trans f2
      clear d0 d1 d2 d3 d4 d5 d6 d7 f2 c1 c2 hs
      go_wp2_with fail
      go_ret
      first | exact ⟨ret_bool (cov_in hl _), fz⟩ | exact ⟨ret_bool (cov_out hl _), fz⟩
  · go_enter Tryz.func198, Tryz.ntmps198
    go_wp2_with fail
    refine (c1 _ (hs.fr (Fr.alloc _ _))).mono ?_
    rintro e w1 ⟨rfl, f1⟩
    have fw : Fr w w1 := (Fr.alloc _ _).trans f1
    have d0 : w1.cell? ⟨w.heap.size, 0, none⟩ = some (.int .i64 k) := f1.cell (by go_simp)
    have d1 : w1.cell? ⟨w.heap.size, 1, none⟩ = some (.int .i64 g) := f1.cell (by go_simp)
    have d2 : w1.cell? ⟨w.heap.size, 2, none⟩ = some (.int .i64 o) := f1.cell (by go_simp)
    have d3 : w1.cell? ⟨w.heap.size, 3, none⟩ = some (.int .i64 wi) := f1.cell (by go_simp)
    have d4 : w1.cell? ⟨w.heap.size, 4, none⟩ = some (.int .i64 l) := f1.cell (by go_simp)
    have d5 : w1.cell? ⟨w.heap.size, 5, none⟩ = some (.int .i64 sz) := f1.cell (by go_simp)
    have d6 : w1.cell? ⟨w.heap.size, 6, none⟩ = some (.int .i64 f) := f1.cell (by go_simp)
    have d7 : w1.cell? ⟨w.heap.size, 7, none⟩ = some (.int .i64 t) := f1.cell (by go_simp)
    clear f1
    go_wp2_with fail
    refine (c2 _ (hs.fr fw)).mono ?_
    rintro e w2 ⟨rfl, f2⟩
    have i0 := f2.cell d0
    have fz := fw.trans f2
    clear d0 d1 d2 d3 d4 d5 d6 d7 f2 c1 c2 hs
    go_wp2_with fail
    go_ret
    exact ⟨rfl, fz⟩

set_option maxHeartbeats 1000000 in
theorem specCov_any (e : Ev) (x : Int) (w : World) :
    Calls Tryz.prog 177 #[.agg #[.int .i64 e.k, .int .i64 e.g, .int .i64 e.o, .int .i64 e.w, .int .i64 e.l, .int .i64 e.s, .int .i64 e.f, .int .i64 e.t], .int .i64 x] w fun y w' => y = .returned (.bool (covB e x)) ∧ Fr w w' := by
  have c2 := fun w => specOk_any e w
  have ways := cov_ways e x
  have hk4 : (evOk e = false ∧ covB e x = false) ∨
    (evOk e = true ∧ (e.k = 20 ∨ e.k = 21 ∨ e.k = 22) ∧ 0 ≤ e.l ∧ e.l ≤ 65535 ∧ 1 ≤ e.s ∧ e.s ≤ 64 ∧ covB e x = (decide (e.l ≤ x) && decide (x < e.l + e.s))) ∨
    (evOk e = true ∧ ¬ e.k = 20 ∧ ¬ e.k = 21 ∧ ¬ e.k = 22 ∧ covB e x = false) := by
    rcases ways with ⟨h1, h2, h3⟩ | ⟨h1, h2, hk, l0, l1, s0, s1, h3⟩ | ⟨h1, h2, hk, l0, l1, s0, s1, h3⟩ | ⟨h1, h2, k1, k2, k3, h3⟩
    · exact .inl ⟨h1, h3⟩
    · exact .inr (.inl ⟨h1, by omega, l0, l1, s0, s1, h3⟩)
    · exact .inr (.inl ⟨h1, by omega, l0, l1, s0, s1, h3⟩)
    · exact .inr (.inr ⟨h1, k1, k2, k3, h3⟩)
  clear ways
  rcases hk4 with ⟨h1, h3⟩ | ⟨h1, hk, l0, l1, s0, s1, h3⟩ | ⟨h1, k1, k2, k3, h3⟩
  all_goals
    rw [h3]
    simp only [h1] at c2
    clear h1 h3
    obtain ⟨k, g, o, wi, l, sz, f, t⟩ := e
    simp only at *
  · go_enter Tryz.func177, Tryz.ntmps177
    go_wp2_with fail
    refine (c2 _).mono ?_
    rintro e w1 ⟨rfl, f1⟩
    go_wp2_with fail
    go_ret
    exact ⟨rfl, (Fr.alloc _ _).trans f1⟩
  · by_cases hl : l ≤ x
    all_goals
      rcases hk with rfl | rfl | rfl
      all_goals
        go_enter Tryz.func177, Tryz.ntmps177
        go_wp2_with fail
        refine (c2 _).mono ?_
        rintro e w1 ⟨rfl, f1⟩
        have fw : Fr w w1 := (Fr.alloc _ _).trans f1
        have d0 := f1.cell (p := ⟨w.heap.size, 0, none⟩) (by go_simp; rfl)
        have d4 : w1.cell? ⟨w.heap.size, 4, none⟩ = some (.int .i64 l) := f1.cell (by go_simp)
        have d5 : w1.cell? ⟨w.heap.size, 5, none⟩ = some (.int .i64 sz) := f1.cell (by go_simp)
        clear f1 c2
        go_wp2_with fail
        go_ret
        first | exact ⟨ret_bool (cov_in hl _), fw⟩ | exact ⟨ret_bool (cov_out hl _), fw⟩
  · go_enter Tryz.func177, Tryz.ntmps177
    go_wp2_with fail
    refine (c2 _).mono ?_
    rintro e w1 ⟨rfl, f1⟩
    have fw : Fr w w1 := (Fr.alloc _ _).trans f1
    have d0 : w1.cell? ⟨w.heap.size, 0, none⟩ = some (.int .i64 k) := f1.cell (by go_simp)
    clear f1 c2
    go_wp2_with fail
    go_ret
    exact ⟨rfl, fw⟩
end Go.Proofs.YtcofhmikdkkigaaGreatDoor
namespace Go.Proofs.YtcofhmikdkkigaaGreatDoor
open Go.RowKit

def claB (a b : Ev) : Bool := accB a && accB b && (a.g != b.g) && (a.k == 21 || b.k == 21) && decide (a.l < b.l + b.s) && decide (b.l < a.l + a.s)

theorem acc_kind {e : Ev} (h : accB e = true) : e.k = 20 ∨ e.k = 21 := by
  simp only [accB, Bool.and_eq_true, Bool.or_eq_true, beq_iff_eq] at h
  exact h.2
theorem acc_cov {e : Ev} (h : accB e = true) (x : Int) : covB e x = (decide (e.l ≤ x) && decide (x < e.l + e.s)) := by
  rcases cov_ways e x with ⟨h1, h2, h3⟩ | ⟨h1, h2, hk, l0, l1, s0, s1, h3⟩ | ⟨h1, h2, hk, l0, l1, s0, s1, h3⟩ | ⟨h1, h2, k1, k2, k3, h3⟩
  · rw [h2] at h; cases h
  · exact h3
  · exact h3
  · rw [h2] at h; cases h

set_option maxHeartbeats 2000000 in
theorem implCla_any (a b : Ev) (w : World) (hs : Shapes w) :
    Calls Tryz.prog 27 #[.agg #[.int .i64 a.k, .int .i64 a.g, .int .i64 a.o, .int .i64 a.w, .int .i64 a.l, .int .i64 a.s, .int .i64 a.f, .int .i64 a.t], .agg #[.int .i64 b.k, .int .i64 b.g, .int .i64 b.o, .int .i64 b.w, .int .i64 b.l, .int .i64 b.s, .int .i64 b.f, .int .i64 b.t]] w fun y w' => y = .returned (.bool (claB a b)) ∧ Fr w w' := by
  have c1 := fun w (h : Shapes w) => implAcc_any a w h
  have c2 := fun w (h : Shapes w) => implAcc_any b w h
  unfold claB
  have la := fun h => acc_lies (e := a) h
  have lb := fun h => acc_lies (e := b) h
  obtain ⟨p, hp⟩ : ∃ p, p = accB a := ⟨_, rfl⟩
  obtain ⟨q, hq⟩ : ∃ q, q = accB b := ⟨_, rfl⟩
  simp only [← hp] at c1 la ⊢
  simp only [← hq] at c2 lb ⊢
  clear hp hq
  obtain ⟨k, g, o, wi, l, sz, f, t⟩ := a
  obtain ⟨k', g', o', wi', l', sz', f', t'⟩ := b
  simp only at *
  cases p
  · go_enter Tryz.func27, Tryz.ntmps27
    go_wp2_with fail
    refine (c1 _ (hs.fr ((Fr.alloc _ _).trans (Fr.alloc _ _)))).mono ?_
    rintro e w1 ⟨rfl, f1⟩
    go_wp2_with fail
    go_ret
    exact ⟨rfl, ((Fr.alloc _ _).trans (Fr.alloc _ _)).trans f1⟩
  obtain ⟨l0, l1, s0, s1⟩ := la rfl
  clear la
  go_enter Tryz.func27, Tryz.ntmps27
  go_wp2_with fail
  refine (c1 _ (hs.fr ((Fr.alloc _ _).trans (Fr.alloc _ _)))).mono ?_
  rintro e w1 ⟨rfl, f1⟩
  have fw : Fr w w1 := ((Fr.alloc _ _).trans (Fr.alloc _ _)).trans f1
  have d0 : w1.cell? ⟨w.heap.size, 0, none⟩ = some (.int .i64 k) := f1.cell (by go_simp)
  have d1 : w1.cell? ⟨w.heap.size, 1, none⟩ = some (.int .i64 g) := f1.cell (by go_simp)
  have d4 : w1.cell? ⟨w.heap.size, 4, none⟩ = some (.int .i64 l) := f1.cell (by go_simp)
  have d5 : w1.cell? ⟨w.heap.size, 5, none⟩ = some (.int .i64 sz) := f1.cell (by go_simp)
  have e0 : w1.cell? ⟨w.heap.size + 1, 0, none⟩ = some (.int .i64 k') := f1.cell (by go_simp)
  have e1 : w1.cell? ⟨w.heap.size + 1, 1, none⟩ = some (.int .i64 g') := f1.cell (by go_simp)
  have e2 : w1.cell? ⟨w.heap.size + 1, 2, none⟩ = some (.int .i64 o') := f1.cell (by go_simp)
  have e3 : w1.cell? ⟨w.heap.size + 1, 3, none⟩ = some (.int .i64 wi') := f1.cell (by go_simp)
  have e4 : w1.cell? ⟨w.heap.size + 1, 4, none⟩ = some (.int .i64 l') := f1.cell (by go_simp)
  have e5 : w1.cell? ⟨w.heap.size + 1, 5, none⟩ = some (.int .i64 sz') := f1.cell (by go_simp)
  have e6 : w1.cell? ⟨w.heap.size + 1, 6, none⟩ = some (.int .i64 f') := f1.cell (by go_simp)
  have e7 : w1.cell? ⟨w.heap.size + 1, 7, none⟩ = some (.int .i64 t') := f1.cell (by go_simp)
  clear f1
  go_wp2_with fail
  refine (c2 _ (hs.fr fw)).mono ?_
  rintro e w2 ⟨rfl, f2⟩
  have fz := fw.trans f2
  have D0 := f2.cell d0
  have D1 := f2.cell d1
  have D4 := f2.cell d4
  have D5 := f2.cell d5
  have E0 := f2.cell e0
  have E1 := f2.cell e1
  have E4 := f2.cell e4
  have E5 := f2.cell e5
  clear d0 d1 d4 d5 e0 e1 e2 e3 e4 e5 e6 e7 f2 fw c1 c2 hs
  cases q
  · go_wp2_with fail
    go_ret
    exact ⟨rfl, fz⟩
  obtain ⟨l2, l3, s2, s3⟩ := lb rfl
  clear lb
  by_cases hg : g = g'
  · subst hg
    go_wp2_with fail
    go_ret
    exact ⟨ret_bool (by simp), fz⟩
  have hk : k = 21 ∨ (¬ k = 21 ∧ k' = 21) ∨ (¬ k = 21 ∧ ¬ k' = 21) := by omega
  rcases hk with rfl | ⟨hk, rfl⟩ | ⟨hk, hk'⟩
  · by_cases hl : l < l' + sz'
    · go_wp2_with fail
      go_ret
      exact ⟨ret_bool (by simp [hl]), fz⟩
    · go_wp2_with fail
      go_ret
      exact ⟨ret_bool (by simp [hg]; omega), fz⟩
  · by_cases hl : l < l' + sz'
    · go_wp2_with fail
      go_ret
      exact ⟨ret_bool (by simp [hl]), fz⟩
    · go_wp2_with fail
      go_ret
      exact ⟨ret_bool (by simp [hg]; omega), fz⟩
  · go_wp2_with fail
    go_ret
    exact ⟨ret_bool (by simp [hg, hk, hk']), fz⟩

theorem share {a b : Ev} (hb : accB b = true) (ha : accB a = true) : (∃ x, a.l ≤ x ∧ x < a.l + a.s ∧ covB b x = true) ↔ (a.l < b.l + b.s ∧ b.l < a.l + a.s) := by
  have la := acc_lies ha
  have lb := acc_lies hb
  constructor
  · rintro ⟨x, h1, h2, h3⟩
    rw [acc_cov hb] at h3
    simp only [Bool.and_eq_true, decide_eq_true_eq] at h3
    omega
  · rintro ⟨h1, h2⟩
    refine ⟨max a.l b.l, by omega, by omega, ?_⟩
    rw [acc_cov hb]
    simp only [Bool.and_eq_true, decide_eq_true_eq]
    omega

set_option maxHeartbeats 2000000 in
theorem specCla_any (a b : Ev) (w : World) :
    Calls Tryz.prog 134 #[.agg #[.int .i64 a.k, .int .i64 a.g, .int .i64 a.o, .int .i64 a.w, .int .i64 a.l, .int .i64 a.s, .int .i64 a.f, .int .i64 a.t], .agg #[.int .i64 b.k, .int .i64 b.g, .int .i64 b.o, .int .i64 b.w, .int .i64 b.l, .int .i64 b.s, .int .i64 b.f, .int .i64 b.t]] w fun y w' => y = .returned (.bool (claB a b)) ∧ Fr w w' := by
  have c1 := fun w => specAcc_any a w
  have c2 := fun w => specAcc_any b w
  have c3 := fun x w => specCov_any b x w
  have la := fun h => acc_lies (e := a) h
  have ka := fun h => acc_kind (e := a) h
  have kb := fun h => acc_kind (e := b) h
  have sh := fun h h' => share (a := a) (b := b) h h'
  unfold claB
  obtain ⟨p, hp⟩ : ∃ p, p = accB a := ⟨_, rfl⟩
  obtain ⟨q, hq⟩ : ∃ q, q = accB b := ⟨_, rfl⟩
  obtain ⟨cv, hcv⟩ : ∃ c, c = covB b := ⟨_, rfl⟩
  simp only [← hcv] at c3 sh
  simp only [← hp] at c1 la ka sh ⊢
  simp only [← hq] at c2 kb sh ⊢
  clear hp hq hcv
  obtain ⟨k, g, o, wi, l, sz, f, t⟩ := a
  obtain ⟨k', g', o', wi', l', sz', f', t'⟩ := b
  simp only at *
  cases p
  · go_enter Tryz.func134, Tryz.ntmps134
    go_wp2_with fail
    refine (c1 _).mono ?_
    rintro e w1 ⟨rfl, f1⟩
    go_wp2_with fail
    go_ret
    exact ⟨rfl, ((Fr.alloc _ _).trans (Fr.alloc _ _)).trans f1⟩
  obtain ⟨l0, l1, s0, s1⟩ := la rfl
  have ka := ka rfl
  clear la
  go_enter Tryz.func134, Tryz.ntmps134
  go_wp2_with fail
  refine (c1 _).mono ?_
  rintro e w1 ⟨rfl, f1⟩
  have fw : Fr w w1 := ((Fr.alloc _ _).trans (Fr.alloc _ _)).trans f1
  have d0 : w1.cell? ⟨w.heap.size, 0, none⟩ = some (.int .i64 k) := f1.cell (by go_simp)
  have d1 : w1.cell? ⟨w.heap.size, 1, none⟩ = some (.int .i64 g) := f1.cell (by go_simp)
  have d4 : w1.cell? ⟨w.heap.size, 4, none⟩ = some (.int .i64 l) := f1.cell (by go_simp)
  have d5 : w1.cell? ⟨w.heap.size, 5, none⟩ = some (.int .i64 sz) := f1.cell (by go_simp)
  have e0 : w1.cell? ⟨w.heap.size + 1, 0, none⟩ = some (.int .i64 k') := f1.cell (by go_simp)
  have e1 : w1.cell? ⟨w.heap.size + 1, 1, none⟩ = some (.int .i64 g') := f1.cell (by go_simp)
  have e2 : w1.cell? ⟨w.heap.size + 1, 2, none⟩ = some (.int .i64 o') := f1.cell (by go_simp)
  have e3 : w1.cell? ⟨w.heap.size + 1, 3, none⟩ = some (.int .i64 wi') := f1.cell (by go_simp)
  have e4 : w1.cell? ⟨w.heap.size + 1, 4, none⟩ = some (.int .i64 l') := f1.cell (by go_simp)
  have e5 : w1.cell? ⟨w.heap.size + 1, 5, none⟩ = some (.int .i64 sz') := f1.cell (by go_simp)
  have e6 : w1.cell? ⟨w.heap.size + 1, 6, none⟩ = some (.int .i64 f') := f1.cell (by go_simp)
  have e7 : w1.cell? ⟨w.heap.size + 1, 7, none⟩ = some (.int .i64 t') := f1.cell (by go_simp)
  clear f1
  go_wp2_with fail
  refine (c2 _).mono ?_
  rintro e w2 ⟨rfl, f2⟩
  have fz := fw.trans f2
  have D0 := f2.cell d0
  have D1 := f2.cell d1
  have D4 := f2.cell d4
  have D5 := f2.cell d5
  have E0 := f2.cell e0
  have E1 := f2.cell e1
  have E2 := f2.cell e2
  have E3 := f2.cell e3
  have E4 := f2.cell e4
  have E5 := f2.cell e5
  have E6 := f2.cell e6
  have E7 := f2.cell e7
  clear d0 d1 d4 d5 e0 e1 e2 e3 e4 e5 e6 e7 f2 fw c1 c2
  cases q
  · go_wp2_with fail
    go_ret
    exact ⟨rfl, fz⟩
  have kb := kb (by simp)
  have sh := sh (by simp) (by simp)
  have sh2 : Hid ((∃ x, l ≤ x ∧ x < l + sz ∧ cv x = true) ↔ l < l' + sz' ∧ l' < l + sz) := sh
  clear sh
  by_cases hg : g = g'
  · subst hg
    go_wp2_with fail
    go_ret
    exact ⟨ret_bool (by simp), fz⟩
  have hgb : (g == g') = false := by simpa using hg
  have hg2 : Hid (¬ g = g') := hg
  clear hg
  have hkk : (k = 20 ∧ k' = 20) ∨ (k = 20 ∧ k' = 21) ∨ k = 21 := by omega
  clear ka kb
  rcases hkk with ⟨rfl, rfl⟩ | ⟨rfl, rfl⟩ | rfl
  · go_wp2_with fail
    go_ret
    exact ⟨ret_bool (by simp), fz⟩
  all_goals
    go_wp2_with fail
    go_loopw [5] (fun i wr => ∃ n : Int, i = .int .i64 n ∧ l ≤ n ∧ n ≤ l + sz ∧ Hid (∀ y, l ≤ y → y < n → cv y = false) ∧ Fr w2 wr) (fun i _ => (l + sz - intOf i).toNat)
    case atStart => exact ⟨l, rfl, by omega, by omega, fun y h1 h2 => by omega, Fr.refl _⟩
    case round =>
      obtain ⟨n, rfl, n0, n1, hn, fr⟩ := hrel
      have D4 := fr.cell D4
      have D5 := fr.cell D5
      have E0 := fr.cell E0
      have E1 := fr.cell E1
      have E2 := fr.cell E2
      have E3 := fr.cell E3
      have E4 := fr.cell E4
      have E5 := fr.cell E5
      have E6 := fr.cell E6
      have E7 := fr.cell E7
      by_cases hlt : n < l + sz
      · have hc := fun w => c3 n w
        obtain ⟨b, hb⟩ : ∃ b, b = cv n := ⟨_, rfl⟩
        simp only [← hb] at hc
        have hb2 : Hid (b = cv n) := hb
        clear hb c3
        go_wp2_with fail
        refine (hc _).mono ?_
        rintro e w3 ⟨rfl, f3⟩
        cases b
        · go_wp2_with fail
          go_roundw
          case rel =>
            refine ⟨n + 1, by go_num, by omega, by omega, fun y h1 h2 => ?_, fr.trans f3⟩
            by_cases hy : y < n
            · exact hn.out y h1 hy
            · have e : y = n := by omega
              rw [e]; exact hb2.out.symm
          case measure => simp [intOf]; omega
        · go_wp2_with fail
          go_ret
          have hx := sh2.out.1 ⟨n, n0, hlt, hb2.out.symm⟩
          exact ⟨ret_bool (by simp [hg2.out, hx]), (fz.trans fr).trans f3⟩
      · go_wp2_with fail
        go_ret
        have hx : ¬ (l < l' + sz' ∧ l' < l + sz) := fun h => by
          obtain ⟨x, h1, h2, h3⟩ := sh2.out.2 h
          rw [hn.out x h1 (by omega)] at h3
          cases h3
        exact ⟨ret_bool (by simp; omega), fz.trans fr⟩
end Go.Proofs.YtcofhmikdkkigaaGreatDoor
