/-
  Pack AV: Gors, Door, EvAcc, RegStab, RegInv.
-/
import Derived.Test.YtcofhmikdkkigaaGreatDoorPrAC
import Derived.Test.YtcofhmikdkkigaaGreatDoorPrAA
import Derived.Deep.RegionHeld3
import Derived.ProofKit
import Derived.LaidMore
import Derived.OpenShut
import Derived.Stop.Joined
import Derived.OpenVars
namespace Go.Proofs.YtcofhmikdkkigaaGreatDoor
open Go.RowKit

def gorsL (e : Ev) : List Int := if evOk e = true then (if e.k ≠ 9 ∨ e.w = e.g then [e.g] else [min e.g e.w, max e.g e.w]) else []
theorem gors_len (e : Ev) : (gorsL e).length ≤ 2 := by
  unfold gorsL
  split
  · split <;> simp
  · simp
theorem evOk_gw {e : Ev} (h : evOk e = true) : (0 ≤ e.g ∧ e.g ≤ 15) ∧ (e.k = 9 → 0 ≤ e.w ∧ e.w ≤ 15) := by
  simp only [evOk, Bool.and_eq_true] at h
  obtain ⟨⟨⟨⟨⟨⟨⟨h1, h2⟩, h3⟩, h4⟩, h5⟩, h6⟩, h7⟩, h8⟩ := h
  refine ⟨by simpa [inB] using h2, fun hk => ?_⟩
  have e1 : hasB e.k 2 = true := by rw [hk]; decide
  simp only [ev2, e1, fitB, if_true] at h4
  simpa [inB] using h4

theorem ownI_lit (w : World) (xs : List Int) (hl : xs.length ≤ 1000) (hx : ∀ x ∈ xs, I64 x) (o : Obj) (ho : o = .cells (xs.map (Value.int .i64)).toArray 2 (0, 0)) : OwnI (w.alloc o) w.heap.size (.slice (some ⟨w.heap.size, 0, none⟩) xs.length xs.length) xs := by
  subst ho
  refine ⟨⟨by simp, .inr ⟨w.heap.size, xs.length, (xs.map (Value.int .i64)).toArray, rfl, Nat.le_refl _, heap_alloc_new w _, Nat.le_refl _, by unfold maxLen; omega, by simp, by simp [List.take_of_length_le]⟩⟩, by omega, hx⟩

theorem retG_int {x y : Int} (h : x = y) : Ending.returned (.int .i64 x) = .returned (.int .i64 y) := by rw [h]
set_option maxHeartbeats 400000 in
theorem l1MinG (a b : Int) (w : World) :
    Calls Tryz.prog 146 #[.int .i64 a, .int .i64 b] w fun e w' => e = .returned (.int .i64 (min a b)) ∧ w' = w := by
  by_cases h : a < b
  · go_enter Tryz.func146, Tryz.ntmps146
    go_wp2
    go_ret
    exact ⟨retG_int (by omega), rfl⟩
  · go_enter Tryz.func146, Tryz.ntmps146
    go_wp2
    go_ret
    exact ⟨retG_int (by omega), rfl⟩
set_option maxHeartbeats 400000 in
theorem l1MaxG (a b : Int) (w : World) :
    Calls Tryz.prog 147 #[.int .i64 a, .int .i64 b] w fun e w' => e = .returned (.int .i64 (max a b)) ∧ w' = w := by
  by_cases h : b < a
  · go_enter Tryz.func147, Tryz.ntmps147
    go_wp2
    go_ret
    exact ⟨retG_int (by omega), rfl⟩
  · go_enter Tryz.func147, Tryz.ntmps147
    go_wp2
    go_ret
    exact ⟨retG_int (by omega), rfl⟩

set_option maxHeartbeats 6000000 in
theorem implGors_any (e : Ev) (w : World) (hs : Shapes w) :
    Calls Tryz.prog 205 #[.agg #[.int .i64 e.k, .int .i64 e.g, .int .i64 e.o, .int .i64 e.w, .int .i64 e.l, .int .i64 e.s, .int .i64 e.f, .int .i64 e.t]] w fun x w' => ∃ g, x = .returned (.slice (some ⟨g, 0, none⟩) (gorsL e).length (gorsL e).length) ∧ OwnI w' w.heap.size (.slice (some ⟨g, 0, none⟩) (gorsL e).length (gorsL e).length) (gorsL e) ∧ Fr w w' := by
  have fW := Fr.alloc w (.cells #[.int .i64 e.k, .int .i64 e.g, .int .i64 e.o, .int .i64 e.w, .int .i64 e.l, .int .i64 e.s, .int .i64 e.f, .int .i64 e.t] 31)
  have kE := EvAt.new w e 31
  have cO := fun u (f : Fr w u) => implOk_any e u (hs.fr f)
  have hg := fun q => evOk_gw (e := e) q
  unfold gorsL
  cases hE : evOk e
  · simp only [hE] at cO
    simp only [Bool.false_eq_true, if_false, List.length_nil]
    clear hg
    obtain ⟨k, gr, o, wi, l, sz, f, t⟩ := e
    simp only at fW kE cO ⊢
    go_enter Tryz.func205, Tryz.ntmps205
    go_wp2_with fail
    refine (cO _ fW).mono ?_
    rintro x u1 ⟨rfl, f1⟩
    have fA := Fr.alloc u1 (.cells #[] 2)
    go_wp2_with fail
    go_ret
    exact ⟨_, rfl, OwnI.lower (ownI_lit u1 [] (by simp) (by simp) _ rfl) (by have := fW.size; have := f1.size; omega), (fW.trans f1).trans fA⟩
  · simp only [hE] at cO
    have hg := hg hE
    simp only [if_true]
    by_cases h9 : e.k ≠ 9
    · rw [if_pos (.inl h9)]
      simp only [List.length_cons, List.length_nil]
      obtain ⟨k, gr, o, wi, l, sz, f, t⟩ := e
      simp only at fW kE cO hg h9 ⊢
      have hb : (k != 9) = true := by simpa using h9
      go_enter Tryz.func205, Tryz.ntmps205
      go_wp2_with fail
      refine (cO _ fW).mono ?_
      rintro x u1 ⟨rfl, f1⟩
      obtain ⟨c0, c1, c2, c3, c4, c5, c6, c7⟩ := kE.fr f1
      have fA := Fr.alloc u1 (.cells #[.int .i64 gr] 2)
      go_wp2_with fail
      go_ret
      exact ⟨_, rfl, OwnI.lower (ownI_lit u1 [gr] (by simp) (by simp [I64]; omega) _ rfl) (by have := fW.size; have := f1.size; omega), (fW.trans f1).trans fA⟩
    · have h9 : e.k = 9 := by omega
      have hb : (e.k != 9) = false := by simp [h9]
      have hg2 := hg.2 h9
      have hg := hg.1
      by_cases hw : e.w = e.g
      · rw [if_pos (.inr hw)]
        simp only [List.length_cons, List.length_nil]
        obtain ⟨k, gr, o, wi, l, sz, f, t⟩ := e
        simp only at fW kE cO hg hb hg2 hw h9 ⊢
        have hwb : (wi == gr) = true := by simp [hw]
        clear hw h9
        go_enter Tryz.func205, Tryz.ntmps205
        go_wp2_with fail
        refine (cO _ fW).mono ?_
        rintro x u1 ⟨rfl, f1⟩
        obtain ⟨c0, c1, c2, c3, c4, c5, c6, c7⟩ := kE.fr f1
        have fA := Fr.alloc u1 (.cells #[.int .i64 gr] 2)
        go_wp2_with fail
        go_ret
        exact ⟨_, rfl, OwnI.lower (ownI_lit u1 [gr] (by simp) (by simp [I64]; omega) _ rfl) (by have := fW.size; have := f1.size; omega), (fW.trans f1).trans fA⟩
      · rw [if_neg (by omega)]
        simp only [List.length_cons, List.length_nil]
        obtain ⟨k, gr, o, wi, l, sz, f, t⟩ := e
        simp only at fW kE cO hg hb hg2 hw h9 ⊢
        have hwb : (wi == gr) = false := by simpa using hw
        clear h9
        rcases Int.lt_or_gt_of_ne hw with hlt | hlt
        · have m1 : min gr wi = wi := by omega
          have m2 : max gr wi = gr := by omega
          have hn : ¬ gr ≤ wi := by omega
          rw [m1, m2]
          go_enter Tryz.func205, Tryz.ntmps205
          go_wp2_with fail
          refine (cO _ fW).mono ?_
          rintro x u1 ⟨rfl, f1⟩
          obtain ⟨c0, c1, c2, c3, c4, c5, c6, c7⟩ := kE.fr f1
          have fA := Fr.alloc u1 (.cells #[.int .i64 wi, .int .i64 gr] 2)
          go_wp2_with fail
          go_ret
          exact ⟨_, rfl, OwnI.lower (ownI_lit u1 [wi, gr] (by simp) (by simp [I64]; omega) _ rfl) (by have := fW.size; have := f1.size; omega), (fW.trans f1).trans fA⟩
        · have m1 : min gr wi = gr := by omega
          have m2 : max gr wi = wi := by omega
          rw [m1, m2]
          go_enter Tryz.func205, Tryz.ntmps205
          go_wp2_with fail
          refine (cO _ fW).mono ?_
          rintro x u1 ⟨rfl, f1⟩
          obtain ⟨c0, c1, c2, c3, c4, c5, c6, c7⟩ := kE.fr f1
          have fA := Fr.alloc u1 (.cells #[.int .i64 gr, .int .i64 wi] 2)
          go_wp2_with fail
          go_ret
          exact ⟨_, rfl, OwnI.lower (ownI_lit u1 [gr, wi] (by simp) (by simp [I64]; omega) _ rfl) (by have := fW.size; have := f1.size; omega), (fW.trans f1).trans fA⟩

set_option maxHeartbeats 6000000 in
theorem specGors_any (e : Ev) (w : World) :
    Calls Tryz.prog 182 #[.agg #[.int .i64 e.k, .int .i64 e.g, .int .i64 e.o, .int .i64 e.w, .int .i64 e.l, .int .i64 e.s, .int .i64 e.f, .int .i64 e.t]] w fun x w' => ∃ g, x = .returned (.slice (some ⟨g, 0, none⟩) (gorsL e).length (gorsL e).length) ∧ OwnI w' w.heap.size (.slice (some ⟨g, 0, none⟩) (gorsL e).length (gorsL e).length) (gorsL e) ∧ Fr w w' := by
  have fW := Fr.alloc w (.cells #[.int .i64 e.k, .int .i64 e.g, .int .i64 e.o, .int .i64 e.w, .int .i64 e.l, .int .i64 e.s, .int .i64 e.f, .int .i64 e.t] 31)
  have kE := EvAt.new w e 31
  have cO := fun u => specOk_any e u
  have hg := fun q => evOk_gw (e := e) q
  unfold gorsL
  cases hE : evOk e
  · simp only [hE] at cO
    simp only [Bool.false_eq_true, if_false, List.length_nil]
    clear hg
    obtain ⟨k, gr, o, wi, l, sz, f, t⟩ := e
    simp only at fW kE cO ⊢
    go_enter Tryz.func182, Tryz.ntmps182
    go_wp2_with fail
    refine (cO _).mono ?_
    rintro x u1 ⟨rfl, f1⟩
    have fA := Fr.alloc u1 (.cells #[] 2)
    go_wp2_with fail
    go_ret
    exact ⟨_, rfl, OwnI.lower (ownI_lit u1 [] (by simp) (by simp) _ rfl) (by have := fW.size; have := f1.size; omega), (fW.trans f1).trans fA⟩
  · simp only [hE] at cO
    have hg := hg hE
    simp only [if_true]
    by_cases h9 : e.k ≠ 9
    · rw [if_pos (.inl h9)]
      simp only [List.length_cons, List.length_nil]
      obtain ⟨k, gr, o, wi, l, sz, f, t⟩ := e
      simp only at fW kE cO hg h9 ⊢
      have hb : (k != 9) = true := by simpa using h9
      go_enter Tryz.func182, Tryz.ntmps182
      go_wp2_with fail
      refine (cO _).mono ?_
      rintro x u1 ⟨rfl, f1⟩
      obtain ⟨c0, c1, c2, c3, c4, c5, c6, c7⟩ := kE.fr f1
      have fA := Fr.alloc u1 (.cells #[.int .i64 gr] 2)
      go_wp2_with fail
      go_ret
      exact ⟨_, rfl, OwnI.lower (ownI_lit u1 [gr] (by simp) (by simp [I64]; omega) _ rfl) (by have := fW.size; have := f1.size; omega), (fW.trans f1).trans fA⟩
    · have h9 : e.k = 9 := by omega
      have hb : (e.k != 9) = false := by simp [h9]
      have hg2 := hg.2 h9
      have hg := hg.1
      by_cases hw : e.w = e.g
      · rw [if_pos (.inr hw)]
        simp only [List.length_cons, List.length_nil]
        obtain ⟨k, gr, o, wi, l, sz, f, t⟩ := e
        simp only at fW kE cO hg hb hg2 hw h9 ⊢
        have hwb : (wi == gr) = true := by simp [hw]
        clear hw h9
        go_enter Tryz.func182, Tryz.ntmps182
        go_wp2_with fail
        refine (cO _).mono ?_
        rintro x u1 ⟨rfl, f1⟩
        obtain ⟨c0, c1, c2, c3, c4, c5, c6, c7⟩ := kE.fr f1
        have fA := Fr.alloc u1 (.cells #[.int .i64 gr] 2)
        go_wp2_with fail
        go_ret
        exact ⟨_, rfl, OwnI.lower (ownI_lit u1 [gr] (by simp) (by simp [I64]; omega) _ rfl) (by have := fW.size; have := f1.size; omega), (fW.trans f1).trans fA⟩
      · rw [if_neg (by omega)]
        simp only [List.length_cons, List.length_nil]
        obtain ⟨k, gr, o, wi, l, sz, f, t⟩ := e
        simp only at fW kE cO hg hb hg2 hw h9 ⊢
        have hwb : (wi == gr) = false := by simpa using hw
        have cm := fun u => l1MinG gr wi u
        have cM := fun u => l1MaxG gr wi u
        obtain ⟨a, ha⟩ : ∃ a, a = min gr wi := ⟨_, rfl⟩
        obtain ⟨b, hb2⟩ : ∃ b, b = max gr wi := ⟨_, rfl⟩
        have ba : I64 a ∧ I64 b := by simp only [I64]; omega
        simp only [← ha, ← hb2] at cm cM ⊢
        clear ha hb2 hw hg hg2 h9
        go_enter Tryz.func182, Tryz.ntmps182
        go_wp2_with fail
        refine (cO _).mono ?_
        rintro x u1 ⟨rfl, f1⟩
        obtain ⟨c0, c1, c2, c3, c4, c5, c6, c7⟩ := kE.fr f1
        go_wp2_with fail
        go_region_held3 (fun u => u.cell? ⟨w.heap.size, 1, none⟩ = some (.int .i64 gr) ∧ u.cell? ⟨w.heap.size, 3, none⟩ = some (.int .i64 wi)) (go_keep)
          (first | (go_at_call 146; refine (cm _).mono ?_; rintro x u2 ⟨rfl, rfl⟩) | (go_at_call 147; refine (cM _).mono ?_; rintro x u2 ⟨rfl, rfl⟩))
        all_goals
          have fA := Fr.alloc u1.drew (.cells #[.int .i64 a, .int .i64 b] 2)
          go_wp2_with fail
          go_ret
          exact ⟨_, rfl, OwnI.lower (ownI_lit u1.drew [a, b] (by simp) (by simp; exact ba) _ rfl) (by have := fW.size; have := f1.size; have : u1.drew.heap.size = u1.heap.size := rfl; omega), ((fW.trans f1).trans (Fr.drew u1)).trans fA⟩
end Go.Proofs.YtcofhmikdkkigaaGreatDoor
namespace Go.Proofs.YtcofhmikdkkigaaGreatDoor
open Go.ChangeShapes Go.WideShapes Go.ChangeAt Go.RowKit

theorem gShapes : Tryz.prog.globalNamed "loop.example/g00720/impl.shapes" = some 0 := by kernel_rfl
theorem tShapes : (Tryz.prog.globals[0]?).map (·.type) = some 187 := by kernel_rfl
theorem cells_int64 : Tryz.prog.cellsOf 2 = 1 := by kernel_rfl
theorem cells_shape : Tryz.prog.cellsOf 186 = 3 := by kernel_rfl

set_option maxRecDepth 20000 in
theorem three_of {H : Type} {enc : TypeId × Value → H} {W : World} {base : Nat} {sp : Nat → Bool} {held : Bool} {fuel : Nat} {cs : List Value} {p : List MemPlace} {a b c : Int}
    (h : DataW.trod enc Tryz.prog W base sp held fuel 186 cs = some (.agg [.lit (.int .i64 a), .lit (.int .i64 b), .lit (.int .i64 c)], p)) : cs = [.int .i64 a, .int .i64 b, .int .i64 c] := by
  obtain ⟨xs, m, -, hx, hl, hn, hf⟩ := DataW.trod_struct Tryz.underlying186 h
  rw [cells_shape] at hl
  match cs, hl with
  | [c0, c1, c2], _ =>
    match xs, hn with
    | [x0, x1, x2], _ =>
      have h0 := hf 0 _ rfl
      have h1 := hf 1 _ rfl
      have h2 := hf 2 _ rfl
      simp [cells_int64] at h0 h1 h2
      obtain ⟨n0, e0, rfl, _⟩ := DataW.trod_int Tryz.underlying2 h0
      obtain ⟨n1, e1, rfl, _⟩ := DataW.trod_int Tryz.underlying2 h1
      obtain ⟨n2, e2, rfl, _⟩ := DataW.trod_int Tryz.underlying2 h2
      simp at e0 e1 e2
      simp at hx
      obtain ⟨⟨rfl, rfl, rfl⟩, _⟩ := hx
      rw [e0, e1, e2]

theorem laid_row (n : Nat) (h : n < 22) : (match (Rows.laid_loop_example_g00720_impl_shapes : DataW Unit) with | .agg l => l[n + 1]? | _ => none) = some (.agg [.lit (.int .i64 (fldN n)), .lit (.int .i64 (loV ((n : Int) + 1))), .lit (.int .i64 (hiV ((n : Int) + 1)))]) :=
  match n, h with
  | 0, _ => rfl
  | 1, _ => rfl
  | 2, _ => rfl
  | 3, _ => rfl
  | 4, _ => rfl
  | 5, _ => rfl
  | 6, _ => rfl
  | 7, _ => rfl
  | 8, _ => rfl
  | 9, _ => rfl
  | 10, _ => rfl
  | 11, _ => rfl
  | 12, _ => rfl
  | 13, _ => rfl
  | 14, _ => rfl
  | 15, _ => rfl
  | 16, _ => rfl
  | 17, _ => rfl
  | 18, _ => rfl
  | 19, _ => rfl
  | 20, _ => rfl
  | 21, _ => rfl
  | m + 22, h => absurd h (by omega)

theorem shapes_of {W : World} {ps : List MemPlace} {rest : List (String × DataW Unit)} (h : DataW.LaidVars Tryz.prog W (("loop.example/g00720/impl.shapes", Rows.laid_loop_example_g00720_impl_shapes) :: rest) ps) : Shapes W := by
  obtain ⟨g, t, cs, fuel, p, q, hg, ht, hv, hd, -, -⟩ := h
  obtain rfl := Option.some.inj (gShapes.symm.trans hg)
  obtain rfl := Option.some.inj (tShapes.symm.trans ht)
  obtain ⟨xs, m, -, hx, hl, hn, hel⟩ := DataW.trod_array Tryz.underlying187 hd
  simp only [Prod.mk.injEq] at hx
  have hrow : ∀ n, n < 22 → (xs.map (·.1))[n + 1]? = some (.agg [.lit (.int .i64 (fldN n)), .lit (.int .i64 (loV ((n : Int) + 1))), .lit (.int .i64 (hiV ((n : Int) + 1)))]) := fun n hn => by
    have := laid_row n hn
    rw [hx.1] at this
    exact this
  intro n hn22
  have h1 := hrow n hn22
  rw [List.getElem?_map, Option.map_eq_some_iff] at h1
  obtain ⟨⟨y, py⟩, hy, hy2⟩ := h1
  simp only at hy2
  subst hy2
  have h2 := hel (n + 1) (by omega)
  rw [hy, cells_shape] at h2
  have h3 := three_of h2
  have hc : ∀ j, W.cell? ⟨0, j, none⟩ = cs[j]? := World.var?_cell gShapes hv
  have at_ : ∀ j, j < 3 → W.cell? ⟨0, (n + 1) * 3 + j, none⟩ = ([.int .i64 (fldN n), .int .i64 (loV ((n : Int) + 1)), .int .i64 (hiV ((n : Int) + 1))] : List Value)[j]? := fun j hj => by
    rw [hc, ← h3, List.getElem?_take, if_pos hj, List.getElem?_drop]
    simp
  exact ⟨by simpa using at_ 0 (by omega), by simpa using at_ 1 (by omega), by simpa using at_ 2 (by omega)⟩

def EvI (e : Ev) : Prop := I64 e.k ∧ I64 e.g ∧ I64 e.o ∧ I64 e.w ∧ I64 e.l ∧ I64 e.s ∧ I64 e.f ∧ I64 e.t

theorem cells_ev : Tryz.prog.cellsOf 119 = 8 := by kernel_rfl

theorem fit64 {n : Int} (h : (Lit.int .i64 n).wf = true) : I64 n := by
  have := bounds_i64 h
  exact ⟨by omega, by omega⟩

set_option maxRecDepth 20000 in
theorem ev_of_arg {H : Type} {enc : TypeId × Value → H} {W : World} {base b0 : Nat} {sp : Nat → Bool} {held : Bool} {r : Reach} {v : Value} {d : DataW H} {p : List MemPlace}
    (hv : Value.okWide Tryz.prog W r b0 119 v) (h : DataW.Trod enc Tryz.prog W base sp held 119 v d p) : ∃ e : Ev, v = .agg #[.int .i64 e.k, .int .i64 e.g, .int .i64 e.o, .int .i64 e.w, .int .i64 e.l, .int .i64 e.s, .int .i64 e.f, .int .i64 e.t] ∧ EvI e := by
  obtain ⟨cs, rfl, hsz⟩ := okWide_struct Tryz.underlying119 hv
  obtain ⟨fuel, hf⟩ := h
  obtain ⟨xs, m, -, hx, hl, hn, hfs⟩ := DataW.trod_struct Tryz.underlying119 hf
  rw [cells_ev] at hsz
  obtain ⟨l⟩ := cs
  match l, hsz with
  | [c0, c1, c2, c3, c4, c5, c6, c7], _ =>
    match xs, hn with
    | [x0, x1, x2, x3, x4, x5, x6, x7], _ =>
      have h0 := hfs 0 _ rfl
      have h1 := hfs 1 _ rfl
      have h2 := hfs 2 _ rfl
      have h3 := hfs 3 _ rfl
      have h4 := hfs 4 _ rfl
      have h5 := hfs 5 _ rfl
      have h6 := hfs 6 _ rfl
      have h7 := hfs 7 _ rfl
      simp [cells_int64, Value.cells] at h0 h1 h2 h3 h4 h5 h6 h7
      obtain ⟨n0, e0, -, w0⟩ := DataW.trod_int Tryz.underlying2 h0
      obtain ⟨n1, e1, -, w1⟩ := DataW.trod_int Tryz.underlying2 h1
      obtain ⟨n2, e2, -, w2⟩ := DataW.trod_int Tryz.underlying2 h2
      obtain ⟨n3, e3, -, w3⟩ := DataW.trod_int Tryz.underlying2 h3
      obtain ⟨n4, e4, -, w4⟩ := DataW.trod_int Tryz.underlying2 h4
      obtain ⟨n5, e5, -, w5⟩ := DataW.trod_int Tryz.underlying2 h5
      obtain ⟨n6, e6, -, w6⟩ := DataW.trod_int Tryz.underlying2 h6
      obtain ⟨n7, e7, -, w7⟩ := DataW.trod_int Tryz.underlying2 h7
      simp at e0 e1 e2 e3 e4 e5 e6 e7
      subst e0 e1 e2 e3 e4 e5 e6 e7
      exact ⟨⟨n0, n1, n2, n3, n4, n5, n6, n7⟩, rfl, fit64 w0, fit64 w1, fit64 w2, fit64 w3, fit64 w4, fit64 w5, fit64 w6, fit64 w7⟩
end Go.Proofs.YtcofhmikdkkigaaGreatDoor
namespace Go.Proofs.YtcofhmikdkkigaaGreatDoor
open Go.RowKit

def accB (e : Ev) : Bool := evOk e && (e.k == 20 || e.k == 21)
def covB (e : Ev) (x : Int) : Bool := evOk e && (e.k == 20 || e.k == 21 || e.k == 22) && decide (e.l ≤ x) && decide (x < e.l + e.s)

theorem has4 : hasB 20 4 = true ∧ hasB 21 4 = true ∧ hasB 22 4 = true := by decide +kernel
theorem has8 : hasB 20 8 = true ∧ hasB 21 8 = true ∧ hasB 22 8 = true := by decide +kernel

theorem ok_lies {e : Ev} (h : evOk e = true) (hk : e.k = 20 ∨ e.k = 21 ∨ e.k = 22) : 0 ≤ e.l ∧ e.l ≤ 65535 ∧ 1 ≤ e.s ∧ e.s ≤ 64 := by
  simp only [evOk, Bool.and_eq_true] at h
  obtain ⟨⟨⟨⟨-, h3⟩, h4⟩, -⟩, -⟩ := h
  unfold ev3 at h3
  unfold ev4 at h4
  rcases hk with hk | hk | hk <;> rw [hk] at h3 h4 <;> simp only [has4, has8, fitB, if_true] at h3 h4 <;> have a := inB_true h3 <;> have b := inB_true h4 <;> simp [loV, hiV] at b <;> omega
theorem acc_lies {e : Ev} (h : accB e = true) : 0 ≤ e.l ∧ e.l ≤ 65535 ∧ 1 ≤ e.s ∧ e.s ≤ 64 := by
  simp only [accB, Bool.and_eq_true, Bool.or_eq_true, beq_iff_eq] at h
  exact ok_lies h.1 (by omega)

set_option maxHeartbeats 1000000 in
theorem implAcc_any (e : Ev) (w : World) (hs : Shapes w) :
    Calls Tryz.prog 79 #[.agg #[.int .i64 e.k, .int .i64 e.g, .int .i64 e.o, .int .i64 e.w, .int .i64 e.l, .int .i64 e.s, .int .i64 e.f, .int .i64 e.t]] w fun x w' => x = .returned (.bool (accB e)) ∧ Fr w w' := by
  have c1 := fun w (h : Shapes w) => implOk_any e w h
  unfold accB
  obtain ⟨b, hb⟩ : ∃ b, b = evOk e := ⟨_, rfl⟩
  simp only [← hb] at c1 ⊢
  clear hb
  obtain ⟨k, g, o, wi, l, sz, f, t⟩ := e
  simp only at c1 ⊢
  cases b
  · go_enter Tryz.func79, Tryz.ntmps79
    go_wp2_with fail
    refine (c1 _ (hs.fr (Fr.alloc _ _))).mono ?_
    rintro e w1 ⟨rfl, f1⟩
    go_wp2_with fail
    go_ret
    exact ⟨rfl, (Fr.alloc _ _).trans f1⟩
  · have hk : k = 20 ∨ k = 21 ∨ (¬ k = 20 ∧ ¬ k = 21) := by omega
    go_enter Tryz.func79, Tryz.ntmps79
    go_wp2_with fail
    refine (c1 _ (hs.fr (Fr.alloc _ _))).mono ?_
    rintro e w1 ⟨rfl, f1⟩
    have d0 : w1.cell? ⟨w.heap.size, 0, none⟩ = some (.int .i64 k) := f1.cell (by go_simp)
    have fw : Fr w w1 := (Fr.alloc _ _).trans f1
    clear f1 c1 hs
    rcases hk with rfl | rfl | ⟨k1, k2⟩
    · go_wp2_with fail
      go_ret
      exact ⟨rfl, fw⟩
    · go_wp2_with fail
      go_ret
      exact ⟨rfl, fw⟩
    · go_wp2_with fail
      go_ret
      exact ⟨ret_bool (by simp), fw⟩

set_option maxHeartbeats 1000000 in
theorem specAcc_any (e : Ev) (w : World) :
    Calls Tryz.prog 176 #[.agg #[.int .i64 e.k, .int .i64 e.g, .int .i64 e.o, .int .i64 e.w, .int .i64 e.l, .int .i64 e.s, .int .i64 e.f, .int .i64 e.t]] w fun x w' => x = .returned (.bool (accB e)) ∧ Fr w w' := by
  have c1 := fun w => specOk_any e w
  unfold accB
  obtain ⟨b, hb⟩ : ∃ b, b = evOk e := ⟨_, rfl⟩
  simp only [← hb] at c1 ⊢
  clear hb
  obtain ⟨k, g, o, wi, l, sz, f, t⟩ := e
  simp only at c1 ⊢
  cases b
  · go_enter Tryz.func176, Tryz.ntmps176
    go_wp2_with fail
    refine (c1 _).mono ?_
    rintro e w1 ⟨rfl, f1⟩
    go_wp2_with fail
    go_ret
    exact ⟨rfl, (Fr.alloc _ _).trans f1⟩
  · have hk : k = 20 ∨ k = 21 ∨ (¬ k = 20 ∧ ¬ k = 21) := by omega
    go_enter Tryz.func176, Tryz.ntmps176
    go_wp2_with fail
    refine (c1 _).mono ?_
    rintro e w1 ⟨rfl, f1⟩
    have d0 : w1.cell? ⟨w.heap.size, 0, none⟩ = some (.int .i64 k) := f1.cell (by go_simp)
    have fw : Fr w w1 := (Fr.alloc _ _).trans f1
    clear f1 c1
    rcases hk with rfl | rfl | ⟨k1, k2⟩
    · go_wp2_with fail
      go_ret
      exact ⟨rfl, fw⟩
    · go_wp2_with fail
      go_ret
      exact ⟨rfl, fw⟩
    · go_wp2_with fail
      go_ret
      exact ⟨ret_bool (by simp), fw⟩
end Go.Proofs.YtcofhmikdkkigaaGreatDoor
namespace Go.Proofs.YtcofhmikdkkigaaGreatDoor
open Go.RowKit

def upd (X : Nat → Value) (d : Nat) (v : Value) : Nat → Value := fun k => if k = d then v else X k
theorem upd_same (X : Nat → Value) (d : Nat) (v : Value) : upd X d v d = v := by simp [upd]
theorem upd_ne (X : Nat → Value) {d k : Nat} (v : Value) (h : k ≠ d) : upd X d v k = X k := by simp [upd, h]

theorem getD_put {l : Array Bool} {i k : Nat} (hi : i < l.size) : (l.setIfInBounds i true).getD k false = if k = i then true else l.getD k false := by
  simp only [Array.getD_eq_getD_getElem?, Array.getElem?_setIfInBounds]
  by_cases h : i = k
  · subst h; simp [hi]
  · have : ¬ k = i := fun q => h q.symm
    simp [h, this]
def left (n : Nat) (l : Array Bool) : Nat := ((List.range n).filter fun i => !l.getD i false).length
theorem left_put {l : Array Bool} {i n : Nat} (hn : l.size = n) (hi : i < n) (h : l.getD i false = false) : left n (l.setIfInBounds i true) < left n l := by
  unfold left
  have hs : ∀ (L : List Nat), i ∈ L → L.Nodup → (L.filter fun k => !(l.setIfInBounds i true).getD k false).length < (L.filter fun k => !l.getD k false).length := by
    intro L
    induction L with
    | nil => intro q; cases q
    | cons a L ih =>
      intro hm hnd
      have hsub : ∀ (M : List Nat), i ∉ M → (M.filter fun k => !(l.setIfInBounds i true).getD k false) = (M.filter fun k => !l.getD k false) := by
        intro M hM
        refine List.filter_congr (fun k hk => ?_)
        rw [getD_put (by omega), if_neg (fun (q : k = i) => hM (q ▸ hk))]
      rw [List.nodup_cons] at hnd
      by_cases ha : a = i
      · subst ha
        rw [List.filter_cons, List.filter_cons, getD_put (by omega), if_pos rfl, h, hsub L hnd.1]
        simp
      · have hm2 : i ∈ L := by
          rcases List.mem_cons.1 hm with q | q
          · exact absurd q.symm ha
          · exact q
        have := ih hm2 hnd.2
        rw [List.filter_cons, List.filter_cons, getD_put (by omega), if_neg ha]
        split
        · rw [List.length_cons, List.length_cons]; omega
        · exact this
  exact hs _ (List.mem_range.2 hi) List.nodup_range
theorem left_pos {l : Array Bool} {i n : Nat} (hi : i < n) (h : l.getD i false = false) : 0 < left n l := by
  unfold left
  exact List.length_pos_of_mem (List.mem_filter.2 ⟨List.mem_range.2 hi, by rw [h]; rfl⟩)

section
variable {P : Program} {ops : Array Oper} {Q : Exit → Act → World → Prop} {w : World} (n : Nat) (dst : Nat → Nat) (mk : (Nat → Value) → Act) (R : Nat → Value → World → Prop) (Le : World → World → Prop)

def StabInv (Q : Exit → Act → World → Prop) (w : World) (l : Array Bool) (a : Act) (u : World) : Prop :=
  l.size = n + 1 ∧ ((l.getD n false = false ∧ ∃ X, a = mk X ∧ Le w.drew u ∧ ∀ i, i < n → l.getD i false = true → R i (X (dst i)) u) ∨ ((∀ i, i < n + 1 → l.getD i false = true) ∧ Q .normal a u))

theorem wpAny_stab (hn : ops.size = n + 1) (hd : ∀ i j, i < n → j < n → dst i = dst j → i = j) (htr : ∀ a b c, Le a b → Le b c → Le a c) (hR : ∀ i v u u', R i v u → Le u u' → R i v u')
    (hlex : ∀ (i : Nat) (o : Oper), ops[i]? = some o → ∀ e ∈ o.after, e.on < i)
    (hall : ∀ o, ops[n]? = some o → ∀ i, i < n → ∃ e ∈ o.after, e.on = i ∧ Region.binds .any e = true)
    (step : ∀ (i : Nat) (o : Oper) X u, i < n → ops[i]? = some o → Le w.drew u → (∀ e ∈ o.after, Region.binds .any e = true → R e.on (X (dst e.on)) u) →
      Region.wanted o (yielded ops (mk X).tmps) = true ∧ o.wp P (mk X) u (fun a' u' => ∃ v, a' = mk (upd X (dst i) v) ∧ Le u u' ∧ R i v u') Q)
    (last : ∀ o X u, ops[n]? = some o → Le w.drew u → (∀ i, i < n → R i (X (dst i)) u) → Region.wanted o (yielded ops (mk X).tmps) = true ∧ o.wp P (mk X) u (fun a' u' => Q .normal a' u') Q) :
    ∀ (fuel : Nat) (l : Array Bool) (a : Act) (u : World), left (n + 1) l ≤ fuel → StabInv n dst mk R Le Q w l a u → wpAny P .any ops Q fuel l a u := by
  have hready : ∀ (l : Array Bool), l.size = n + 1 → (∃ i, i < n + 1 ∧ l.getD i false = false) → Region.ready .any ops l ≠ [] := by
    intro l hl hex he
    have hmin : ∀ m, m ≤ n + 1 → (∀ k, k < m → l.getD k false = true) := by
      intro m
      induction m with
      | zero => intro _ k hk; omega
      | succ m ih =>
        intro hm k hk
        by_cases hkm : k < m
        · exact ih (by omega) k hkm
        · have hk2 : k = m := by omega
          subst hk2
          cases hv : l.getD k false
          · exfalso
            have ho : ops[k]? = some ops[k] := Array.getElem?_eq_getElem (by omega)
            have : k ∈ Region.ready .any ops l := mem_ready.2 ⟨by
              rw [Array.getD_eq_getD_getElem?] at hv ⊢
              rw [Array.getElem?_eq_getElem (by omega)] at hv ⊢
              exact hv, _, ho, fun e he2 _ => ih (by omega) _ (hlex k _ ho e he2)⟩
            rw [he] at this
            cases this
          · rfl
    obtain ⟨i, hi, hf⟩ := hex
    have := hmin (n + 1) (Nat.le_refl _) i hi
    rw [hf] at this
    cases this
  intro fuel
  induction fuel with
  | zero =>
    intro l a u hf ⟨hl, hI⟩
    rcases hI with ⟨h0, -⟩ | ⟨h1, h2⟩
    · have := left_pos (l := l) (n := n + 1) (i := n) (by omega) h0
      omega
    · refine ⟨?_, h2⟩
      cases hr : Region.ready .any ops l with
      | nil => rfl
      | cons i r =>
        exfalso
        have hm : i ∈ Region.ready .any ops l := by rw [hr]; exact List.mem_cons_self
        obtain ⟨q1, o, q2, -⟩ := mem_ready.1 hm
        have hi : i < n + 1 := by rw [← hn]; exact (Array.getElem?_eq_some_iff.1 q2).1
        have := h1 i hi
        rw [Array.getD_eq_getD_getElem?] at this q1
        rw [Array.getElem?_eq_getElem (by omega)] at this q1
        simp at this q1
        rw [this] at q1
        cases q1
  | succ fuel ih =>
    intro l a u hf ⟨hl, hI⟩
    rcases hI with ⟨h0, X, rfl, hF, hX⟩ | ⟨h1, h2⟩
    · refine ⟨fun he => absurd he (hready l hl ⟨n, by omega, h0⟩), fun i hi => ?_⟩
      obtain ⟨q1, o, q2, q3⟩ := mem_ready.1 hi
      have hi2 : i < n + 1 := by rw [← hn]; exact (Array.getElem?_eq_some_iff.1 q2).1
      have hfi : l.getD i false = false := by
        rw [Array.getD_eq_getD_getElem?] at q1 ⊢
        rw [Array.getElem?_eq_getElem (by omega)] at q1 ⊢
        exact q1
      have hlt := left_put hl hi2 hfi
      unfold wpOp
      simp only [q2]
      by_cases hin : i = n
      · subst hin
        obtain ⟨w1, w2⟩ := last o X u q2 hF (fun k hk => by
          obtain ⟨e, e1, e2, e3⟩ := hall o q2 k hk
          exact hX k hk (e2 ▸ q3 e e1 e3))
        rw [if_pos w1]
        refine .inl (Oper.wp_mono (fun a' u' hq => ih _ a' u' (by omega) ⟨by simpa using hl, .inr ⟨fun k hk => ?_, hq⟩⟩) w2)
        rw [getD_put (by omega)]
        by_cases hki : k = i
        · rw [if_pos hki]
        · rw [if_neg hki]
          obtain ⟨e, e1, e2, e3⟩ := hall o q2 k (by omega)
          exact e2 ▸ q3 e e1 e3
      · obtain ⟨w1, w2⟩ := step i o X u (by omega) q2 hF (fun e he hb => hX e.on (by have := hlex i o q2 e he; omega) (q3 e he hb))
        rw [if_pos w1]
        refine .inl (Oper.wp_mono (fun a' u' hq => ?_) w2)
        obtain ⟨v, rfl, f2, r2⟩ := hq
        refine ih _ _ u' (by omega) ⟨by simpa using hl, .inl ⟨by rw [getD_put (by omega), if_neg (fun q => hin q.symm)]; exact h0, _, rfl, htr _ _ _ hF f2, fun k hk hkl => ?_⟩⟩
        rw [getD_put (by omega)] at hkl
        by_cases hki : k = i
        · subst hki
          rw [upd_same]
          exact r2
        · rw [if_neg hki] at hkl
          rw [upd_ne _ _ (fun q => hki (hd k i hk (by omega) q))]
          exact hR k _ _ _ (hX k hk hkl) f2
    · refine ⟨fun _ => h2, fun i hi => ?_⟩
      exfalso
      obtain ⟨q1, o, q2, -⟩ := mem_ready.1 hi
      have hi : i < n + 1 := by rw [← hn]; exact (Array.getElem?_eq_some_iff.1 q2).1
      have := h1 i hi
      rw [Array.getD_eq_getD_getElem?] at this q1
      rw [Array.getElem?_eq_getElem (by omega)] at this q1
      simp at this q1
      rw [this] at q1
      cases q1
end
theorem wp_region_le {P : Program} {ops : Array Oper} {Q : Exit → Act → World → Prop} {w : World} {id : Nat} (n : Nat) (dst : Nat → Nat) (mk : (Nat → Value) → Act) (R : Nat → Value → World → Prop) (Le : World → World → Prop) (X0 : Nat → Value) (hrf : ∀ u, Le u u) (htr : ∀ a b c, Le a b → Le b c → Le a c)
    (hm : P.follows .mixedOrders = true) (hn : ops.size = n + 1) (hd : ∀ i j, i < n → j < n → dst i = dst j → i = j) (hR : ∀ i v u u', R i v u → Le u u' → R i v u')
    (hlex : ∀ (i : Nat) (o : Oper), ops[i]? = some o → ∀ e ∈ o.after, e.on < i)
    (hall : ∀ o, ops[n]? = some o → ∀ i, i < n → ∃ e ∈ o.after, e.on = i ∧ Region.binds .any e = true)
    (step : ∀ (i : Nat) (o : Oper) X u, i < n → ops[i]? = some o → Le w.drew u → (∀ e ∈ o.after, Region.binds .any e = true → R e.on (X (dst e.on)) u) →
      Region.wanted o (yielded ops (mk X).tmps) = true ∧ o.wp P (mk X) u (fun a' u' => ∃ v, a' = mk (upd X (dst i) v) ∧ Le u u' ∧ R i v u') Q)
    (last : ∀ o X u, ops[n]? = some o → Le w.drew u → (∀ i, i < n → R i (X (dst i)) u) → Region.wanted o (yielded ops (mk X).tmps) = true ∧ o.wp P (mk X) u (fun a' u' => Q .normal a' u') Q) :
    (Code.region id ops true).wp P Q (mk X0) w := by
  refine wp_region_any hm (wpAny_stab n dst mk R Le hn hd htr hR hlex hall step last _ _ _ _ ?_ ⟨by simp [hn], .inl ⟨by simp [Array.getD_eq_getD_getElem?, hn], X0, rfl, hrf _, fun i hi h => ?_⟩⟩)
  · rw [hn]
    unfold left
    exact Nat.le_trans (List.length_filter_le _ _) (by simp)
  · exfalso
    rw [Array.getD_eq_getD_getElem?, Array.getElem?_replicate] at h
    split at h <;> simp at h
theorem wp_region_stab {P : Program} {ops : Array Oper} {Q : Exit → Act → World → Prop} {w : World} {id : Nat} (n : Nat) (dst : Nat → Nat) (mk : (Nat → Value) → Act) (R : Nat → Value → World → Prop) (X0 : Nat → Value)
    (hm : P.follows .mixedOrders = true) (hn : ops.size = n + 1) (hd : ∀ i j, i < n → j < n → dst i = dst j → i = j) (hR : ∀ i v u u', R i v u → Fr u u' → R i v u')
    (hlex : ∀ (i : Nat) (o : Oper), ops[i]? = some o → ∀ e ∈ o.after, e.on < i)
    (hall : ∀ o, ops[n]? = some o → ∀ i, i < n → ∃ e ∈ o.after, e.on = i ∧ Region.binds .any e = true)
    (step : ∀ (i : Nat) (o : Oper) X u, i < n → ops[i]? = some o → Fr w.drew u → (∀ e ∈ o.after, Region.binds .any e = true → R e.on (X (dst e.on)) u) →
      Region.wanted o (yielded ops (mk X).tmps) = true ∧ o.wp P (mk X) u (fun a' u' => ∃ v, a' = mk (upd X (dst i) v) ∧ Fr u u' ∧ R i v u') Q)
    (last : ∀ o X u, ops[n]? = some o → Fr w.drew u → (∀ i, i < n → R i (X (dst i)) u) → Region.wanted o (yielded ops (mk X).tmps) = true ∧ o.wp P (mk X) u (fun a' u' => Q .normal a' u') Q) :
    (Code.region id ops true).wp P Q (mk X0) w :=
  wp_region_le n dst mk R Fr X0 Fr.refl (fun _ _ _ h k => h.trans k) hm hn hd hR hlex hall step last
def lexOk (ops : Array Oper) : Bool := (List.range ops.size).all fun i => ((ops[i]?).map fun o => o.after.all fun e => decide (e.on < i)).getD true
def allOk (ops : Array Oper) (n : Nat) : Bool := ((ops[n]?).map fun o => (List.range n).all fun i => o.after.any fun e => e.on == i && Region.binds .any e).getD true
def dstOk (dst : Nat → Nat) (n : Nat) : Bool := (List.range n).all fun i => (List.range n).all fun j => !(dst i == dst j) || i == j
theorem lex_of {ops : Array Oper} (h : lexOk ops = true) : ∀ (i : Nat) (o : Oper), ops[i]? = some o → ∀ e ∈ o.after, e.on < i := by
  intro i o ho e he
  have hi := (Array.getElem?_eq_some_iff.1 ho).1
  have h1 := List.all_eq_true.1 h i (List.mem_range.2 hi)
  simp only [ho, Option.map_some, Option.getD_some, Array.all_eq_true_iff_forall_mem, decide_eq_true_eq] at h1
  exact h1 e he
theorem allR_of {ops : Array Oper} {n : Nat} (h : allOk ops n = true) : ∀ o, ops[n]? = some o → ∀ i, i < n → ∃ e ∈ o.after, e.on = i ∧ Region.binds .any e = true := by
  intro o ho i hi
  unfold allOk at h
  simp only [ho, Option.map_some, Option.getD_some] at h
  have h1 := List.all_eq_true.1 h i (List.mem_range.2 hi)
  simp only [Array.any_eq_true'] at h1
  obtain ⟨e, he, hb⟩ := h1
  simp only [Bool.and_eq_true, beq_iff_eq] at hb
  exact ⟨e, he, hb⟩
theorem dst_of {dst : Nat → Nat} {n : Nat} (h : dstOk dst n = true) : ∀ i j, i < n → j < n → dst i = dst j → i = j := by
  intro i j hi hj e
  have h1 := List.all_eq_true.1 (List.all_eq_true.1 h i (List.mem_range.2 hi)) j (List.mem_range.2 hj)
  simpa [e] using h1
end Go.Proofs.YtcofhmikdkkigaaGreatDoor
namespace Go.Proofs.YtcofhmikdkkigaaGreatDoor
open Go.RowKit

def cameL (L : Nat → Bool) (i : Nat) : Nat → Bool := fun k => if k = i then true else L k

def lexOkB (ops : Array Oper) : Bool := (List.range ops.size).all fun i => ((ops[i]?).map fun o => o.after.all fun e => !Region.binds .any e || decide (e.on < i)).getD true
theorem lexB_of {ops : Array Oper} (h : lexOkB ops = true) : ∀ (i : Nat) (o : Oper), ops[i]? = some o → ∀ e ∈ o.after, Region.binds .any e = true → e.on < i := by
  intro i o ho e he hb
  have hi := (Array.getElem?_eq_some_iff.1 ho).1
  have h1 := List.all_eq_true.1 h i (List.mem_range.2 hi)
  simp only [ho, Option.map_some, Option.getD_some, Array.all_eq_true_iff_forall_mem] at h1
  have h2 := h1 e he
  rw [hb] at h2
  simpa using h2

theorem wpAny_inv {P : Program} {ops : Array Oper} {Q : Exit → Act → World → Prop} (Inv : (Nat → Bool) → Act → World → Prop)
    (hlex : ∀ (i : Nat) (o : Oper), ops[i]? = some o → ∀ e ∈ o.after, Region.binds .any e = true → e.on < i)
    (step : ∀ (i : Nat) (o : Oper) L a u, ops[i]? = some o → Inv L a u → L i = false → (∀ e ∈ o.after, Region.binds .any e = true → L e.on = true) →
      Region.wanted o (yielded ops a.tmps) = true ∧ o.wp P a u (fun a' u' => Inv (cameL L i) a' u') Q)
    (done : ∀ L a u, Inv L a u → (∀ i, i < ops.size → L i = true) → Q .normal a u) :
    ∀ (fuel : Nat) (l : Array Bool) (a : Act) (u : World), l.size = ops.size → left ops.size l ≤ fuel → Inv (fun k => l.getD k false) a u → wpAny P .any ops Q fuel l a u := by
  have hnone : ∀ (l : Array Bool), l.size = ops.size → Region.ready .any ops l = [] → ∀ i, i < ops.size → l.getD i false = true := by
    intro l hl he
    have hmin : ∀ m, m ≤ ops.size → (∀ k, k < m → l.getD k false = true) := by
      intro m
      induction m with
      | zero => intro _ k hk; omega
      | succ m ih =>
        intro hm k hk
        by_cases hkm : k < m
        · exact ih (by omega) k hkm
        · have hk2 : k = m := by omega
          subst hk2
          cases hv : l.getD k false
          · exfalso
            have ho : ops[k]? = some ops[k] := Array.getElem?_eq_getElem (by omega)
            have : k ∈ Region.ready .any ops l := mem_ready.2 ⟨by
              rw [Array.getD_eq_getD_getElem?] at hv ⊢
              rw [Array.getElem?_eq_getElem (by omega)] at hv ⊢
              exact hv, _, ho, fun e he2 hb2 => ih (by omega) _ (hlex k _ ho e he2 hb2)⟩
            rw [he] at this
            cases this
          · rfl
    exact fun i hi => hmin ops.size (Nat.le_refl _) i hi
  intro fuel
  induction fuel with
  | zero =>
    intro l a u hl hf hI
    have hall : ∀ i, i < ops.size → l.getD i false = true := fun i hi => by
      cases hv : l.getD i false
      · have := left_pos (l := l) (n := ops.size) hi hv
        omega
      · rfl
    refine ⟨?_, done _ a u hI hall⟩
    cases hr : Region.ready .any ops l with
    | nil => rfl
    | cons i r =>
      exfalso
      have hm : i ∈ Region.ready .any ops l := by rw [hr]; exact List.mem_cons_self
      obtain ⟨q1, o, q2, -⟩ := mem_ready.1 hm
      have hi : i < ops.size := (Array.getElem?_eq_some_iff.1 q2).1
      have := hall i hi
      rw [Array.getD_eq_getD_getElem?] at this q1
      rw [Array.getElem?_eq_getElem (by omega)] at this q1
      simp at this q1
      rw [this] at q1
      cases q1
  | succ fuel ih =>
    intro l a u hl hf hI
    refine ⟨fun he => done _ a u hI (hnone l hl he), fun i hi => ?_⟩
    obtain ⟨q1, o, q2, q3⟩ := mem_ready.1 hi
    have hi2 : i < ops.size := (Array.getElem?_eq_some_iff.1 q2).1
    have hfi : l.getD i false = false := by
      rw [Array.getD_eq_getD_getElem?] at q1 ⊢
      rw [Array.getElem?_eq_getElem (by omega)] at q1 ⊢
      exact q1
    have hlt := left_put hl hi2 hfi
    obtain ⟨w1, w2⟩ := step i o _ a u q2 hI hfi q3
    unfold wpOp
    simp only [q2]
    rw [if_pos w1]
    refine .inl (Oper.wp_mono (fun a' u' hq => ih _ a' u' (by simpa using hl) (by omega) ?_) w2)
    have e : (fun k => (l.setIfInBounds i true).getD k false) = cameL (fun k => l.getD k false) i := funext fun k => getD_put (by omega)
    rw [e]
    exact hq
theorem wp_region_inv {P : Program} {ops : Array Oper} {Q : Exit → Act → World → Prop} {id : Nat} {a : Act} {w : World} (Inv : (Nat → Bool) → Act → World → Prop)
    (hm : P.follows .mixedOrders = true) (hlex : lexOkB ops = true) (h0 : Inv (fun _ => false) a w.drew)
    (step : ∀ (i : Nat) (o : Oper) L a u, ops[i]? = some o → Inv L a u → L i = false → (∀ e ∈ o.after, Region.binds .any e = true → L e.on = true) →
      Region.wanted o (yielded ops a.tmps) = true ∧ o.wp P a u (fun a' u' => Inv (cameL L i) a' u') Q)
    (done : ∀ L a u, Inv L a u → (∀ i, i < ops.size → L i = true) → Q .normal a u) : (Code.region id ops true).wp P Q a w := by
  refine wp_region_any hm (wpAny_inv Inv (lexB_of hlex) step done _ _ _ _ (by simp) ?_ ?_)
  · unfold left
    exact Nat.le_trans (List.length_filter_le _ _) (by simp)
  · have e : (fun k => (Array.replicate ops.size false).getD k false) = fun _ => false := funext fun k => by
      rw [Array.getD_eq_getD_getElem?, Array.getElem?_replicate]
      split <;> rfl
    rw [e]
    exact h0
end Go.Proofs.YtcofhmikdkkigaaGreatDoor
