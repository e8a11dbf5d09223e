/-
  One event at a place, by the specification: l3Read.
-/
import Derived.Test.YthjnhfcncinhiaaDoorPackAB
import Derived.Test.YthjnhfcncinhiaaDoorPackAJ
import Derived.Test.YthjnhfcncinhiaaDoorPackAE
import Derived.Deep.RegionHeld3
import Derived.Deep.DeepCutAuto
import Derived.Test.YthjnhfcncinhiaaDoorPackAD
import Derived.Test.YthjnhfcncinhiaaDoorPackAA
import Derived.Maps.AppendAt
namespace Go.Proofs.YthjnhfcncinhiaaDoor
open Go.RowKit

/-- An event of its Kind, its Gor and six numbers. -/
def evOf (k g : Int) (f : List Int) : Ev := ⟨k, g, f.getD 0 0, f.getD 1 0, f.getD 2 0, f.getD 3 0, f.getD 4 0, f.getD 5 0⟩
theorem evOf_put (k g : Int) (f : List Int) (i : Nat) (n : Int) (hi : i < 6) (hf : f.length = 6) : (evOf k g f).put (i + 2) n = evOf k g (f.set i n) := by
  match f, hf with
  | [a, b, c, d, e, h], _ =>
    rcases (by omega : i = 0 ∨ i = 1 ∨ i = 2 ∨ i = 3 ∨ i = 4 ∨ i = 5) with rfl | rfl | rfl | rfl | rfl | rfl <;> rfl
theorem offF_yes (k : Int) (i : Nat) (hi : i < 6) (h : hasB k (2 ^ i) = true) : offF k i = (i + 2) :: offF k (i + 1) := by
  have e : 6 - i = (6 - (i + 1)) + 1 := by omega
  rw [offF, e, List.range'_succ, List.filter_cons_of_pos (by simpa using h)]
  rfl
theorem offF_no (k : Int) (i : Nat) (hi : i < 6) (h : hasB k (2 ^ i) = false) : offF k i = offF k (i + 1) := by
  have e : 6 - i = (6 - (i + 1)) + 1 := by omega
  rw [offF, e, List.range'_succ, List.filter_cons_of_neg (by simp [h])]
  rfl
theorem offF_end (k : Int) : offF k 6 = [] := rfl

/-- The reading so far: the fields from the i-th on come from the place p. -/
def RE (bs : List Int) (k : Int) (q : Nat) (i p : Nat) (g : Int) (f : List Int) : Prop := rdSeq bs (offF k i) p (evOf k g f) = rdSeq bs (offs k) q (ev0 k) ∧ f.length = 6 ∧ ∀ x ∈ f, I64 x
theorem RE.start {bs : List Int} {k : Int} {q p : Nat} {g : Int} (h : rdN bs q = some (g, p)) : RE bs k q 0 p g [0, 0, 0, 0, 0, 0] := by
  refine ⟨?_, rfl, ?_⟩
  · rw [offs, rdSeq, h]; rfl
  · intro x hx; simp at hx; subst hx; exact ⟨by decide, by decide⟩
theorem RE.no {bs : List Int} {k : Int} {q i p : Nat} {g : Int} {f : List Int} (h : RE bs k q i p g f) (hi : i < 6) (hh : hasB k (2 ^ i) = false) : RE bs k q (i + 1) p g f := by
  refine ⟨?_, h.2⟩
  rw [← h.1, offF_no k i hi hh]
theorem RE.yes {bs : List Int} {k : Int} {q i p p' : Nat} {g n : Int} {f : List Int} (h : RE bs k q i p g f) (hi : i < 6) (hh : hasB k (2 ^ i) = true) (hr : rdN bs p = some (n, p')) (hn : I64 n) : RE bs k q (i + 1) p' g (f.set i n) := by
  refine ⟨?_, by rw [List.length_set]; exact h.2.1, fun x hx => ?_⟩
  · rw [← h.1, offF_yes k i hi hh, rdSeq, hr]
    simp only []
    rw [evOf_put k g f i n hi h.2.1]
  · rcases List.mem_or_eq_of_mem_set hx with hx | rfl
    · exact h.2.2 x hx
    · exact hn
theorem RE.stop {bs : List Int} {k : Int} {q i p : Nat} {g : Int} {f : List Int} (h : RE bs k q i p g f) (hi : i < 6) (hh : hasB k (2 ^ i) = true) (hr : rdN bs p = none) : rdSeq bs (offs k) q (ev0 k) = none := by
  rw [← h.1, offF_yes k i hi hh, rdSeq, hr]
theorem RE.fin {bs : List Int} {k : Int} {q p : Nat} {g : Int} {f : List Int} (h : RE bs k q 6 p g f) : rdSeq bs (offs k) q (ev0 k) = some (evOf k g f, p) := by
  rw [← h.1, offF_end]; rfl

/-- An event stored over another one. -/
theorem EvB.set8 {w : World} {b : Nat} {e0 : Ev} (h : EvB w b e0) (e : Ev) : EvB ((((((((w.setCell ⟨b, 0, none⟩ (.int .i64 e.k)).setCell ⟨b, 1, none⟩ (.int .i64 e.g)).setCell ⟨b, 2, none⟩ (.int .i64 e.o)).setCell ⟨b, 3, none⟩ (.int .i64 e.w)).setCell ⟨b, 4, none⟩ (.int .i64 e.l)).setCell ⟨b, 5, none⟩ (.int .i64 e.s)).setCell ⟨b, 6, none⟩ (.int .i64 e.f)).setCell ⟨b, 7, none⟩ (.int .i64 e.t)) b e :=
  (((((((h.setK e.k).setG e.g).setO e.o).setW e.w).setL e.l).setS e.s).setF e.f).setT e.t
theorem grown_st (w : World) (g o : Nat) (v : Value) : w.grownBy (w.setCell ⟨g, o, none⟩ v) (some g) :=
  ⟨rfl, rfl, rfl, by simp, fun k _ hk => heap_setCell_other w ⟨g, o, none⟩ k v (fun e => hk (by simp [e]))⟩
theorem grown_tw {a b c : World} {row : Option Nat} (h : a.grownBy b row) (k : b.grownBy c row) : a.grownBy c row :=
  ⟨k.os.trans h.os, k.tape.trans h.tape, k.output.trans h.output, Nat.le_trans h.size k.size, fun i hi hne => (k.block i (Nat.lt_of_lt_of_le hi h.size) hne).trans (h.block i hi hne)⟩
theorem grown_st8 (w : World) (r : Nat) (v0 v1 v2 v3 v4 v5 v6 v7 : Value) :
    w.grownBy ((((((((w.setCell ⟨r, 0, none⟩ v0).setCell ⟨r, 1, none⟩ v1).setCell ⟨r, 2, none⟩ v2).setCell ⟨r, 3, none⟩ v3).setCell ⟨r, 4, none⟩ v4).setCell ⟨r, 5, none⟩ v5).setCell ⟨r, 6, none⟩ v6).setCell ⟨r, 7, none⟩ v7) (some r) :=
  grown_tw (grown_tw (grown_tw (grown_tw (grown_tw (grown_tw (grown_tw (grown_st _ r 0 _) (grown_st _ r 1 _)) (grown_st _ r 2 _)) (grown_st _ r 3 _)) (grown_st _ r 4 _)) (grown_st _ r 5 _)) (grown_st _ r 6 _)) (grown_st _ r 7 _)

theorem ownI_st {w : World} {base g cap n : Nat} {xs : List Int} (h : OwnI w base (.slice (some ⟨g, 0, none⟩) n cap) xs) (hn : n = xs.length) (j : Nat) (x : Int) (hx : I64 x) :
    OwnI (w.setCell ⟨g, j, none⟩ (.int .i64 x)) base (.slice (some ⟨g, 0, none⟩) n cap) (xs.set j x) ∧ w.grownBy (w.setCell ⟨g, j, none⟩ (.int .i64 x)) (some g) := by
  subst hn
  have hst := h.1.stored j (.int .i64 x)
  refine ⟨⟨?_, by simpa using h.2.1, fun y hy => ?_⟩, hst.2⟩
  · have e : (xs.set j x).map (Value.int .i64) = (xs.map (Value.int .i64)).set j (.int .i64 x) := by rw [List.map_set]
    rw [e, List.length_set]
    exact hst.1
  · rcases List.mem_or_eq_of_mem_set hy with hy | rfl
    · exact h.2.2 y hy
    · exact hx

/-- What l3Read answers. -/
def ReadC (bs : List Int) (p : Nat) (w : World) (x : Ending) (w' : World) : Prop :=
  Fr w w' ∧ ((∃ e q, rdEv bs p = .ok (e, q) ∧ x = .returned (.tuple #[.agg #[.int .i64 e.k, .int .i64 e.g, .int .i64 e.o, .int .i64 e.w, .int .i64 e.l, .int .i64 e.s, .int .i64 e.f, .int .i64 e.t], .int .i64 (q : Int), .int .i64 0])) ∨
    (∃ c y, rdEv bs p = .error c ∧ (c = 2 ∨ c = 3) ∧ x = .returned (.tuple #[.agg #[.int .i64 0, .int .i64 0, .int .i64 0, .int .i64 0, .int .i64 0, .int .i64 0, .int .i64 0, .int .i64 0], .int .i64 y, .int .i64 c])))

theorem rdEv_no {bs : List Int} {p : Nat} (h : rdN bs p = none) : rdEv bs p = .error 2 := by rw [rdEv, h]
theorem rdEv_kind {bs : List Int} {p q : Nat} {k : Int} (h : rdN bs p = some (k, q)) (hk : inB 1 22 k = false) : rdEv bs p = .error 3 := by
  rw [rdEv, h]; simp [hk]
theorem rdEv_seq {bs : List Int} {p q : Nat} {k : Int} (h : rdN bs p = some (k, q)) (hk : inB 1 22 k = true) (hs : rdSeq bs (offs k) q (ev0 k) = none) : rdEv bs p = .error 2 := by
  rw [rdEv, h]; simp [hk, hs]
theorem rdEv_fin {bs : List Int} {p q r : Nat} {k : Int} {e : Ev} (h : rdN bs p = some (k, q)) (hk : inB 1 22 k = true) (hs : rdSeq bs (offs k) q (ev0 k) = some (e, r)) : rdEv bs p = if evOk e then .ok (e, r) else .error 3 := by
  rw [rdEv, h]; simp [hk, hs]
theorem rdSeq_gor {bs : List Int} {q : Nat} {k : Int} (h : rdN bs q = none) : rdSeq bs (offs k) q (ev0 k) = none := by rw [offs, rdSeq, h]

set_option maxHeartbeats 4000000 in
theorem l3Read_any (ao : Option Addr) (n cap : Nat) (bs : List Int) (p : Nat) (w : World) (hn : bs.length = n) (hp : p ≤ bs.length) (h : ReadsB w ao bs) :
    Calls Tryd.prog 26 #[.slice ao n cap, .int .i64 (p : Int)] w (ReadC bs p w) := by
  subst hn
  have hl := h.len
  have hu := h.bd
  have cR := fun (i : Nat) (hi : i ≤ bs.length) w h => specRead_any ao bs.length cap bs (i : Int) w rfl ⟨by omega, by omega⟩ h
  have f0 := Fr.alloc w (.cells #[.int .i64 0, .int .i64 0, .int .i64 0, .int .i64 0, .int .i64 0, .int .i64 0, .int .i64 0, .int .i64 0] 38)
  have c1 := cR p hp _ (h.fr f0)
  cases hr : rdN bs p with
  | none =>
    rw [rdV_none hr] at c1
    simp only [rdT] at c1
    have HE : Hid (rdEv bs p = .error 2) := rdEv_no hr
    clear hr
    go_enter Tryd.func26, Tryd.ntmps26
    go_wp2_with fail
    refine c1.mono ?_
    rintro x w1 ⟨rfl, rfl⟩
    go_wp2_with fail
    refine bodyPost_ret (v := .tuple #[.agg #[.int .i64 0, .int .i64 0, .int .i64 0, .int .i64 0, .int .i64 0, .int .i64 0, .int .i64 0, .int .i64 0], .int .i64 (p : Int), .int .i64 2]) (by simp [results, Tryd.results26, go_sem]) rfl ⟨f0, .inr ⟨2, _, HE.out, .inl rfl, rfl⟩⟩
  | some kq =>
    obtain ⟨k, q⟩ := kq
    obtain ⟨k0, k1, -, -⟩ := rdN_some hu hr
    have hq := (rdN_lt hu hr).2
    rw [rdV_some hr] at c1
    simp only [rdT] at c1
    have cF := fun w => specFields_any k w
    cases hk : inB 1 22 k with
    | false =>
      have e : fldV k = -1 := by rw [fldV, hk]; rfl
      rw [e] at cF
      have HE : Hid (rdEv bs p = .error 3) := rdEv_kind hr hk
      clear hr hk e
      go_enter Tryd.func26, Tryd.ntmps26
      go_wp2_with fail
      refine c1.mono ?_
      rintro x w1 ⟨rfl, rfl⟩
      go_wp2_with fail
      refine (cF _).mono ?_
      rintro e w2 ⟨rfl, f2⟩
      have hz := (EvB.new w ⟨0, 0, 0, 0, 0, 0, 0, 0⟩).keep f2 (by simp)
      obtain ⟨b0, b1, b2, b3, b4, b5, b6, b7⟩ := hz.at
      have z := hz.free
      have hz2 := hz.set8 ⟨0, 0, 0, 0, 0, 0, 0, 0⟩
      have gz := grown_st8 w2 w.heap.size (.int .i64 0) (.int .i64 0) (.int .i64 0) (.int .i64 0) (.int .i64 0) (.int .i64 0) (.int .i64 0) (.int .i64 0)
      go_wp2_with fail
      obtain ⟨d0, d1, d2, d3, d4, d5, d6, d7⟩ := hz2.at
      exact bodyPost_ret (v := .tuple #[.agg #[.int .i64 0, .int .i64 0, .int .i64 0, .int .i64 0, .int .i64 0, .int .i64 0, .int .i64 0, .int .i64 0], .int .i64 (q : Int), .int .i64 3]) (by simp [results, Tryd.results26, go_sem, d0, d1, d2, d3, d4, d5, d6, d7]) rfl ⟨(f0.trans f2).then gz (fun j hj => by simp only [Option.some.injEq] at hj; omega), .inr ⟨3, _, HE.out, .inr rfl, rfl⟩⟩
    | true =>
      have hfk : 0 ≤ fldV k := by
        obtain ⟨m, hm, rfl⟩ := kinds hk
        rw [fldV_at m hm]
        exact (fldN_in m).1
      have HK : Hid (inB 1 22 k = true) := hk
      obtain ⟨F, hF⟩ : ∃ F, F = fldV k := ⟨_, rfl⟩
      rw [← hF] at hfk
      simp only [← hF] at cF
      clear hF hk
      have c2 := fun w h => cR q hq w h
      cases hr2 : rdN bs q with
      | none =>
        rw [rdV_none hr2] at c2
        simp only [rdT] at c2
        have HE : Hid (rdEv bs p = .error 2) := rdEv_seq hr HK.out (rdSeq_gor hr2)
        clear hr hr2
        go_enter Tryd.func26, Tryd.ntmps26
        go_wp2_with fail
        refine c1.mono ?_
        rintro x w1 ⟨rfl, rfl⟩
        go_wp2_with fail
        refine (cF _).mono ?_
        rintro e w2 ⟨rfl, f2⟩
        clear c1 cF
        go_wp2_with fail
        refine (c2 _ ((h.fr f0).fr f2)).mono ?_
        rintro x w3 ⟨rfl, rfl⟩
        have hz := (EvB.new w ⟨0, 0, 0, 0, 0, 0, 0, 0⟩).keep f2 (by simp)
        obtain ⟨b0, b1, b2, b3, b4, b5, b6, b7⟩ := hz.at
        have z := hz.free
        have hz2 := hz.set8 ⟨0, 0, 0, 0, 0, 0, 0, 0⟩
        have gz := grown_st8 w3 w.heap.size (.int .i64 0) (.int .i64 0) (.int .i64 0) (.int .i64 0) (.int .i64 0) (.int .i64 0) (.int .i64 0) (.int .i64 0)
        go_wp2_with fail
        obtain ⟨d0, d1, d2, d3, d4, d5, d6, d7⟩ := hz2.at
        exact bodyPost_ret (v := .tuple #[.agg #[.int .i64 0, .int .i64 0, .int .i64 0, .int .i64 0, .int .i64 0, .int .i64 0, .int .i64 0, .int .i64 0], .int .i64 (q : Int), .int .i64 2]) (by simp [results, Tryd.results26, go_sem, d0, d1, d2, d3, d4, d5, d6, d7]) rfl ⟨(f0.trans f2).then gz (fun j hj => by simp only [Option.some.injEq] at hj; omega), .inr ⟨2, _, HE.out, .inl rfl, rfl⟩⟩
      | some gq =>
        obtain ⟨g, q2⟩ := gq
        rw [rdV_some hr2] at c2
        simp only [rdT] at c2
        have hq2 := (rdN_lt hu hr2).2
        have HS : Hid (RE bs k q 0 q2 g [0, 0, 0, 0, 0, 0]) := RE.start hr2
        have HR : Hid (rdN bs p = some (k, q)) := hr
        obtain ⟨g0, g1, -, -⟩ := rdN_some hu hr2
        clear hr hr2
        go_enter Tryd.func26, Tryd.ntmps26
        go_wp2_with fail
        refine c1.mono ?_
        rintro x w1 ⟨rfl, rfl⟩
        go_wp2_with fail
        refine (cF _).mono ?_
        rintro e w2 ⟨rfl, f2⟩
        clear c1 cF
        go_wp2_with fail
        refine (c2 _ ((h.fr f0).fr f2)).mono ?_
        rintro x w3 ⟨rfl, rfl⟩
        have hz := (EvB.new w ⟨0, 0, 0, 0, 0, 0, 0, 0⟩).keep f2 (by simp)
        have f3 := f0.trans f2
        clear c2 f2 f0
        obtain ⟨i0, hi, hz0, hz1, hz2⟩ := info_parts Tryd.info2
        have hB := hz.lt
        go_wp2_with (at_make; refine wpList_make_full _ rfl _ _ 60 rfl w3.heap.size 2 i0 (.int .i64 0) 1 Tryd.underlying60 hi hz0 hz1 .i64 .i64 _ _ 6 rfl rfl rfl rfl (by rw [hz2]; omega) (by unfold maxLen; omega) (Nat.le_refl _) ?_; intro w4 hown hgrow)
        simp only [toList_madeCells_one, Value.cells] at hown
        have hO : OwnI w4 w3.heap.size (.slice (some ⟨w3.heap.size, 0, none⟩) 6 6) [0, 0, 0, 0, 0, 0] := ⟨by simpa using hown, by simp, by intro x hx; simp at hx; subst hx; exact ⟨by decide, by decide⟩⟩
        have hz := hz.keep hgrow (by simp)
        have f4 : Fr w w4 := f3.trans hgrow
        obtain ⟨B, hBB⟩ : ∃ B, B = w3.heap.size := ⟨_, rfl⟩
        rw [← hBB] at hO hB
        simp only [← hBB]
        clear hi hz0 hz1 hz2 hown hgrow f3 hBB
        go_loopw [1, 11] (fun a i wr => ∃ (j pj : Nat) (fs : List Int), j ≤ 6 ∧ i = .int .i64 (j : Int) ∧ a = .int .i64 (pj : Int) ∧ pj ≤ bs.length ∧ OwnI wr B (.slice (some ⟨B, 0, none⟩) 6 6) fs ∧ Hid (RE bs k q j pj g fs) ∧ EvB wr w.heap.size ⟨0, 0, 0, 0, 0, 0, 0, 0⟩ ∧ Fr w wr) (fun _ i _ => 6 - (intOf i).toNat)
        case atStart => exact ⟨0, q2, _, by omega, rfl, rfl, hq2, hO, HS, hz, f4⟩
        case round =>
          obtain ⟨j, pj, fs, hj, rfl, rfl, hpj, ho, HRE, hzz, hf⟩ := hrel
          clear hO HS hz f4
          have hfl := HRE.out.2.1
          by_cases hlt : j < 6
          · have cH := fun w => l3Has_any k j hlt w
            cases hh : hasB k (2 ^ j)
            · rw [hh] at cH
              have HN : Hid (RE bs k q (j + 1) pj g fs) := HRE.out.no hlt hh
              clear hh HRE hfl
              go_wp2_with fail
              refine (cH _).mono ?_
              rintro e w5 ⟨rfl, f5⟩
              go_wp2_with fail
              go_roundw
              case rel => exact ⟨j + 1, pj, fs, by omega, by go_num, rfl, hpj, ⟨ho.1.kept f5 (by simp [Value.ownBlock]), ho.2⟩, HN, hzz.keep f5 (by simp), hf.trans f5⟩
              case measure => simp [intOf]; omega
            · rw [hh] at cH
              have cN := fun w h => cR pj hpj w h
              cases hrn : rdN bs pj with
              | none =>
                rw [rdV_none hrn] at cN
                simp only [rdT] at cN
                have HE : Hid (rdEv bs p = .error 2) := rdEv_seq HR.out HK.out (HRE.out.stop hlt hh hrn)
                clear hh HRE hfl hrn cR
                go_wp2_with fail
                refine (cH _).mono ?_
                rintro e w5 ⟨rfl, f5⟩
                have hzz := hzz.keep f5 (by simp)
                have hf := hf.trans f5
                clear cH f5
                go_wp2_with fail
                refine (cN _ (h.fr hf)).mono ?_
                rintro x w6 ⟨rfl, rfl⟩
                obtain ⟨b0, b1, b2, b3, b4, b5, b6, b7⟩ := hzz.at
                have z := hzz.free
                have hz2 := hzz.set8 ⟨0, 0, 0, 0, 0, 0, 0, 0⟩
                have gz := grown_st8 w6 w.heap.size (.int .i64 0) (.int .i64 0) (.int .i64 0) (.int .i64 0) (.int .i64 0) (.int .i64 0) (.int .i64 0) (.int .i64 0)
                go_wp2_with fail
                obtain ⟨d0, d1, d2, d3, d4, d5, d6, d7⟩ := hz2.at
                exact bodyPost_ret (v := .tuple #[.agg #[.int .i64 0, .int .i64 0, .int .i64 0, .int .i64 0, .int .i64 0, .int .i64 0, .int .i64 0, .int .i64 0], .int .i64 (pj : Int), .int .i64 2]) (by simp [results, Tryd.results26, go_sem, d0, d1, d2, d3, d4, d5, d6, d7]) rfl ⟨hf.then gz (fun j hj => by simp only [Option.some.injEq] at hj; omega), .inr ⟨2, _, HE.out, .inl rfl, rfl⟩⟩
              | some nq =>
                obtain ⟨m, pn⟩ := nq
                rw [rdV_some hrn] at cN
                simp only [rdT] at cN
                have hpn := (rdN_lt hu hrn).2
                obtain ⟨m0, m1, -, -⟩ := rdN_some hu hrn
                have HN : Hid (RE bs k q (j + 1) pn g (fs.set j m)) := HRE.out.yes hlt hh hrn ⟨by omega, by omega⟩
                clear hh HRE hrn
                go_wp2_with fail
                refine (cH _).mono ?_
                rintro e w5 ⟨rfl, f5⟩
                have hzz := hzz.keep f5 (by simp)
                have hf := hf.trans f5
                have ho : OwnI w5 B (.slice (some ⟨B, 0, none⟩) 6 6) fs := ⟨ho.1.kept f5 (by simp [Value.ownBlock]), ho.2⟩
                clear cH f5
                go_wp2_with fail
                refine (cN _ (h.fr hf)).mono ?_
                rintro x w6 ⟨rfl, rfl⟩
                have ho1 := ho.1
                rw [hfl] at ho1
                have hce := ho1.cellAt j (by omega)
                rw [List.getElem?_map, List.getElem?_eq_getElem (by omega)] at hce
                have hfz := ho1.frozenAt j
                clear ho1
                have hst := ownI_st ho hfl.symm j m ⟨by omega, by omega⟩
                clear cN ho
                go_wp2_with fail
                go_roundw
                case rel => exact ⟨j + 1, pn, fs.set j m, by omega, by go_num, rfl, hpn, hst.1, HN, hzz.keep hst.2 (by simp; omega), hf.then hst.2 (fun j hj => by simp only [Option.some.injEq] at hj; omega)⟩
                case measure => simp [intOf]; omega
          · have ej : j = 6 := by omega
            have HF : Hid (rdSeq bs (offs k) q (ev0 k) = some (evOf k g fs, pj)) := by
              have := HRE.out
              rw [ej] at this
              exact this.fin
            clear HRE ej cR
            obtain ⟨a0, a1, a2, a3, a4, a5, rfl⟩ : ∃ a0 a1 a2 a3 a4 a5, fs = [a0, a1, a2, a3, a4, a5] := by
              match fs, hfl with
              | [a, b, c, d, e, f], _ => exact ⟨a, b, c, d, e, f, rfl⟩
            have HV : Hid (rdEv bs p = if evOk ⟨k, g, a0, a1, a2, a3, a4, a5⟩ then .ok (⟨k, g, a0, a1, a2, a3, a4, a5⟩, pj) else .error 3) := rdEv_fin HR.out HK.out HF.out
            have ho1 : wr.ownsRow B 2 1 (.slice (some ⟨B, 0, none⟩) 6 6) 6 _ := ho.1
            have e0 : wr.cell? ⟨B, 0, none⟩ = some (.int .i64 a0) := ho1.cellAt 0 (by omega)
            have e1 : wr.cell? ⟨B, 1, none⟩ = some (.int .i64 a1) := ho1.cellAt 1 (by omega)
            have e2 : wr.cell? ⟨B, 2, none⟩ = some (.int .i64 a2) := ho1.cellAt 2 (by omega)
            have e3 : wr.cell? ⟨B, 3, none⟩ = some (.int .i64 a3) := ho1.cellAt 3 (by omega)
            have e4 : wr.cell? ⟨B, 4, none⟩ = some (.int .i64 a4) := ho1.cellAt 4 (by omega)
            have e5 : wr.cell? ⟨B, 5, none⟩ = some (.int .i64 a5) := ho1.cellAt 5 (by omega)
            clear ho ho1 HF hfl
            have cO := fun w => specOk_any ⟨k, g, a0, a1, a2, a3, a4, a5⟩ w
            obtain ⟨O, hO⟩ : ∃ O, O = evOk ⟨k, g, a0, a1, a2, a3, a4, a5⟩ := ⟨_, rfl⟩
            rw [← hO] at HV
            simp only [← hO] at cO
            clear hO
            clear h hp hl hu k0 k1 hq HK hfk hq2 HR g0 g1 hpj
            go_wp2_with fail
            go_region_held3 (fun w' => w'.cell? ⟨B, 0, none⟩ = some (.int .i64 a0) ∧ w'.cell? ⟨B, 1, none⟩ = some (.int .i64 a1) ∧ w'.cell? ⟨B, 2, none⟩ = some (.int .i64 a2) ∧ w'.cell? ⟨B, 3, none⟩ = some (.int .i64 a3) ∧ w'.cell? ⟨B, 4, none⟩ = some (.int .i64 a4) ∧ w'.cell? ⟨B, 5, none⟩ = some (.int .i64 a5)) (go_keep) (fail)
            all_goals (
              go_wp2_with fail
              refine (cO _).mono ?_
              rintro x w6 ⟨rfl, f6⟩
              have fX : Fr wr w6 := ((Fr.alloc wr _).trans (Fr.drew _)).trans f6
              have hN : EvB w6 wr.heap.size ⟨k, g, a0, a1, a2, a3, a4, a5⟩ := EvB.keep (w := (wr.alloc (.cells #[.int .i64 k, .int .i64 g, .int .i64 a0, .int .i64 a1, .int .i64 a2, .int .i64 a3, .int .i64 a4, .int .i64 a5] 38)).drew) (EvB.new wr ⟨k, g, a0, a1, a2, a3, a4, a5⟩) f6 (by simp)
              have hZ := hzz.keep fX (by simp)
              have hf := hf.trans fX
              clear hzz cO f6 fX e0 e1 e2 e3 e4 e5
              obtain ⟨b0, b1, b2, b3, b4, b5, b6, b7⟩ := hZ.at
              have z := hZ.free
              cases O
              · have HE : Hid (rdEv bs p = .error 3) := by
                  have := HV.out
                  show _ = _
                  simpa using this
                have hz2 := hZ.set8 ⟨0, 0, 0, 0, 0, 0, 0, 0⟩
                have gz := grown_st8 w6 w.heap.size (.int .i64 0) (.int .i64 0) (.int .i64 0) (.int .i64 0) (.int .i64 0) (.int .i64 0) (.int .i64 0) (.int .i64 0)
                clear HV hN
                go_wp2_with fail
                obtain ⟨d0, d1, d2, d3, d4, d5, d6, d7⟩ := hz2.at
                exact bodyPost_ret (v := .tuple #[.agg #[.int .i64 0, .int .i64 0, .int .i64 0, .int .i64 0, .int .i64 0, .int .i64 0, .int .i64 0, .int .i64 0], .int .i64 (pj : Int), .int .i64 3]) (by simp [results, Tryd.results26, go_sem, d0, d1, d2, d3, d4, d5, d6, d7]) rfl ⟨hf.then gz (fun j hj => by simp only [Option.some.injEq] at hj; omega), .inr ⟨3, _, HE.out, .inr rfl, rfl⟩⟩
              · have HE : Hid (rdEv bs p = .ok (⟨k, g, a0, a1, a2, a3, a4, a5⟩, pj)) := by
                  have := HV.out
                  show _ = _
                  simpa using this
                obtain ⟨x0, x1, x2, x3, x4, x5, x6, x7⟩ := hN.at
                simp only at x0 x1 x2 x3 x4 x5 x6 x7
                have hz2 := hZ.set8 ⟨k, g, a0, a1, a2, a3, a4, a5⟩
                have gz := grown_st8 w6 w.heap.size (.int .i64 k) (.int .i64 g) (.int .i64 a0) (.int .i64 a1) (.int .i64 a2) (.int .i64 a3) (.int .i64 a4) (.int .i64 a5)
                clear HV hN
                go_wp2_with fail
                obtain ⟨d0, d1, d2, d3, d4, d5, d6, d7⟩ := hz2.at
                simp only at d0 d1 d2 d3 d4 d5 d6 d7
                exact bodyPost_ret (v := .tuple #[.agg #[.int .i64 k, .int .i64 g, .int .i64 a0, .int .i64 a1, .int .i64 a2, .int .i64 a3, .int .i64 a4, .int .i64 a5], .int .i64 (pj : Int), .int .i64 0]) (by simp [results, Tryd.results26, go_sem, d0, d1, d2, d3, d4, d5, d6, d7]) rfl ⟨hf.then gz (fun j hj => by simp only [Option.some.injEq] at hj; omega), .inl ⟨_, _, HE.out, rfl⟩⟩)
end Go.Proofs.YthjnhfcncinhiaaDoor
/-
  An event that can mostly be done next: l5Next.
-/
namespace Go.Proofs.YthjnhfcncinhiaaDoor
open Go.RowKit

theorem l1Max_any2 (a b : Int) (w : World) :
    Calls Tryd.prog 61 #[.int .i64 a, .int .i64 b] w fun e w' => e = .returned (.int .i64 (max a b)) ∧ w' = w := by
  by_cases h : b < a
  · go_enter Tryd.func61, Tryd.ntmps61
    go_wp2
    go_ret
    exact ⟨ret_int (by omega), rfl⟩
  · go_enter Tryd.func61, Tryd.ntmps61
    go_wp2
    go_ret
    exact ⟨ret_int (by omega), rfl⟩

/-- The state in the midst of l5Next: the cursor in g, the boxed scene in sb, the answer's cell in rb, the event in eb. -/
structure NX (B : Nat → Prop) (w0 : World) (g sb rb eb : Nat) (s : Sv) (m : Scn) (e : Ev) (wr : World) : Prop where
  cur : Cur wr g
  gro : w0.grownBy wr (some g)
  sc : ScK wr sb s
  rs : EvB wr rb ⟨0, 0, 0, 0, 0, 0, 0, 0⟩
  ev : EvB wr eb e
  scr : ScR B wr s m
  gl : g < w0.heap.size
  sl : w0.heap.size ≤ sb
  rl : sb < rb
  el : rb < eb
  bB : ∀ b, B b → b < w0.heap.size ∧ b ≠ g
theorem NX.draw {B : Nat → Prop} {w0 wr w' : World} {g sb rb eb : Nat} {s : Sv} {m : Scn} {e : Ev} (h : NX B w0 g sb rb eb s m e wr) (c : Cur w' g) (k : wr.grownBy w' (some g)) : NX B w0 g sb rb eb s m e w' := by
  have h1 := h.gl; have h2 := h.sl; have h3 := h.rl; have h4 := h.el
  exact { h with cur := c, gro := grown_trans h.gro k, sc := h.sc.keep k (by simp; omega), rs := h.rs.keep k (by simp; omega), ev := h.ev.keep k (by simp; omega), scr := h.scr.keep k (fun j hj => by cases hj; exact fun q => (h.bB _ q).2 rfl) }
theorem NX.fr {B : Nat → Prop} {w0 wr w' : World} {g sb rb eb : Nat} {s : Sv} {m : Scn} {e : Ev} (h : NX B w0 g sb rb eb s m e wr) (k : Fr wr w') : NX B w0 g sb rb eb s m e w' :=
  { h with cur := h.cur.fr k, gro := grown_trans h.gro k.wide, sc := h.sc.fr k, rs := h.rs.keep k (by simp), ev := h.ev.keep k (by simp), scr := h.scr.fr k }
theorem NX.wrote {B : Nat → Prop} {w0 wr w' : World} {g sb rb eb : Nat} {s : Sv} {m : Scn} {e e' : Ev} (h : NX B w0 g sb rb eb s m e wr) (k : wr.grownBy w' (some eb)) (hb : EvB w' eb e') : NX B w0 g sb rb eb s m e' w' := by
  have h1 := h.gl; have h2 := h.sl; have h3 := h.rl; have h4 := h.el
  exact { h with cur := h.cur.other k (by intro j hj; simp only [Option.some.injEq] at hj; omega), gro := grown_then h.gro k (by intro j hj; simp only [Option.some.injEq] at hj; omega), sc := h.sc.keep k (by simp; omega), rs := h.rs.keep k (by simp; omega), ev := hb, scr := h.scr.keep k (fun j hj => by cases hj; intro q; have := (h.bB _ q).1; omega) }

theorem NX.fin {B : Nat → Prop} {w0 wr : World} {g sb rb eb : Nat} {s : Sv} {m : Scn} {e : Ev} (h : NX B w0 g sb rb eb s m e wr) (v0 v1 v2 v3 v4 v5 v6 v7 : Value) :
    Cur ((((((((wr.setCell ⟨rb, 0, none⟩ v0).setCell ⟨rb, 1, none⟩ v1).setCell ⟨rb, 2, none⟩ v2).setCell ⟨rb, 3, none⟩ v3).setCell ⟨rb, 4, none⟩ v4).setCell ⟨rb, 5, none⟩ v5).setCell ⟨rb, 6, none⟩ v6).setCell ⟨rb, 7, none⟩ v7) g ∧
    w0.grownBy ((((((((wr.setCell ⟨rb, 0, none⟩ v0).setCell ⟨rb, 1, none⟩ v1).setCell ⟨rb, 2, none⟩ v2).setCell ⟨rb, 3, none⟩ v3).setCell ⟨rb, 4, none⟩ v4).setCell ⟨rb, 5, none⟩ v5).setCell ⟨rb, 6, none⟩ v6).setCell ⟨rb, 7, none⟩ v7) (some g) := by
  have k := grown_st8 wr rb v0 v1 v2 v3 v4 v5 v6 v7
  have h1 := h.gl; have h2 := h.sl; have h3 := h.rl
  exact ⟨h.cur.other k (by intro j hj; simp only [Option.some.injEq] at hj; omega), grown_then h.gro k (by intro j hj; simp only [Option.some.injEq] at hj; omega)⟩

set_option maxRecDepth 20000 in
set_option maxHeartbeats 8000000 in
theorem l5Next_any {B : Nat → Prop} (g : Nat) (s : Sv) (m : Scn) (w : World) (hc : Cur w g) (hB : ∀ b, B b → b < w.heap.size ∧ b ≠ g) (h : ScR B w s m) :
    Calls Tryd.prog 49 #[.pointer (some ⟨g, 0, none⟩), .agg #[.int .i64 s.g, .slice s.lo s.ll s.lc, .slice s.co s.cl s.cc, .slice s.no s.nl s.nc, .slice s.oo s.ol s.oc]] w fun x w' => ∃ e : Ev, x = .returned (.agg #[.int .i64 e.k, .int .i64 e.g, .int .i64 e.o, .int .i64 e.w, .int .i64 e.l, .int .i64 e.s, .int .i64 e.f, .int .i64 e.t]) ∧ EvI e ∧ Cur w' g ∧ w.grownBy w' (some g) := by
  have hgl := hc.lt
  have f1 := Fr.alloc w (.cells #[.int .i64 s.g, .slice s.lo s.ll s.lc, .slice s.co s.cl s.cc, .slice s.no s.nl s.nc, .slice s.oo s.ol s.oc] 91)
  have f2 := Fr.alloc (w.alloc (.cells #[.int .i64 s.g, .slice s.lo s.ll s.lc, .slice s.co s.cl s.cc, .slice s.no s.nl s.nc, .slice s.oo s.ol s.oc] 91)) (.cells #[.int .i64 0, .int .i64 0, .int .i64 0, .int .i64 0, .int .i64 0, .int .i64 0, .int .i64 0, .int .i64 0] 38)
  have f3 := Fr.alloc ((w.alloc (.cells #[.int .i64 s.g, .slice s.lo s.ll s.lc, .slice s.co s.cl s.cc, .slice s.no s.nl s.nc, .slice s.oo s.ol s.oc] 91)).alloc (.cells #[.int .i64 0, .int .i64 0, .int .i64 0, .int .i64 0, .int .i64 0, .int .i64 0, .int .i64 0, .int .i64 0] 38)) (.cells #[.int .i64 20, .int .i64 0, .int .i64 0, .int .i64 0, .int .i64 0, .int .i64 0, .int .i64 0, .int .i64 0] 38)
  have hN : NX B w g w.heap.size (w.heap.size + 1) (w.heap.size + 1 + 1) s m ⟨20, 0, 0, 0, 0, 0, 0, 0⟩ (((w.alloc (.cells #[.int .i64 s.g, .slice s.lo s.ll s.lc, .slice s.co s.cl s.cc, .slice s.no s.nl s.nc, .slice s.oo s.ol s.oc] 91)).alloc (.cells #[.int .i64 0, .int .i64 0, .int .i64 0, .int .i64 0, .int .i64 0, .int .i64 0, .int .i64 0, .int .i64 0] 38)).alloc (.cells #[.int .i64 20, .int .i64 0, .int .i64 0, .int .i64 0, .int .i64 0, .int .i64 0, .int .i64 0, .int .i64 0] 38)) := by
    have fA := (f1.trans f2).trans f3
    have r1 := (EvB.new (w.alloc (.cells #[.int .i64 s.g, .slice s.lo s.ll s.lc, .slice s.co s.cl s.cc, .slice s.no s.nl s.nc, .slice s.oo s.ol s.oc] 91)) ⟨0, 0, 0, 0, 0, 0, 0, 0⟩).keep f3 (by simp)
    have r2 := EvB.new ((w.alloc (.cells #[.int .i64 s.g, .slice s.lo s.ll s.lc, .slice s.co s.cl s.cc, .slice s.no s.nl s.nc, .slice s.oo s.ol s.oc] 91)).alloc (.cells #[.int .i64 0, .int .i64 0, .int .i64 0, .int .i64 0, .int .i64 0, .int .i64 0, .int .i64 0, .int .i64 0] 38)) ⟨20, 0, 0, 0, 0, 0, 0, 0⟩
    simp only [World.size_alloc] at r1 r2
    exact ⟨hc.fr fA, fA.wide, (ScK.new w s).fr (f2.trans f3), r1, r2, h.fr fA, hgl, Nat.le_refl _, by omega, by omega, hB⟩
  have hsg : I64 s.g := by rw [h.g]; exact h.ig
  obtain ⟨sg, lo, ll, lc, co, cl, cc, no, nl, nc, oo, ol, oc⟩ := s
  simp only at hN hsg ⊢
  clear h hB hc f1 f2 f3 hgl
  go_enter Tryd.func49, Tryd.ntmps49
  go_wp2_with fail
  obtain ⟨W, hW⟩ : ∃ W, W = (((w.alloc (.cells #[.int .i64 sg, .slice lo ll lc, .slice co cl cc, .slice no nl nc, .slice oo ol oc] 91)).alloc (.cells #[.int .i64 0, .int .i64 0, .int .i64 0, .int .i64 0, .int .i64 0, .int .i64 0, .int .i64 0, .int .i64 0] 38)).alloc (.cells #[.int .i64 20, .int .i64 0, .int .i64 0, .int .i64 0, .int .i64 0, .int .i64 0, .int .i64 0, .int .i64 0] 38)) := ⟨_, rfl⟩
  rw [← hW] at hN ⊢
  obtain ⟨sb, hsb⟩ : ∃ sb, sb = w.heap.size := ⟨_, rfl⟩
  obtain ⟨rb, hrb⟩ : ∃ rb, rb = w.heap.size + 1 := ⟨_, rfl⟩
  obtain ⟨eb, heb⟩ : ∃ eb, eb = w.heap.size + 1 + 1 := ⟨_, rfl⟩
  rw [← heb] at hN ⊢
  rw [← hrb] at hN ⊢
  rw [← hsb] at hN ⊢
  clear hW hsb hrb heb
  go_loopw [6] (fun i wr => ∃ (k : Nat) (e : Ev), k ≤ 12 ∧ i = .int .i64 k ∧ EvI e ∧ NX B w g sb rb eb ⟨sg, lo, ll, lc, co, cl, cc, no, nl, nc, oo, ol, oc⟩ m e wr) (fun i _ => 12 - (intOf i).toNat)
  case atStart => exact ⟨0, _, by omega, rfl, ⟨⟨by decide, by decide⟩, ⟨by decide, by decide⟩, ⟨by decide, by decide⟩, ⟨by decide, by decide⟩, ⟨by decide, by decide⟩, ⟨by decide, by decide⟩, ⟨by decide, by decide⟩, ⟨by decide, by decide⟩⟩, hN⟩
  case round =>
    clear hN
    obtain ⟨i, e, hi, rfl, hE, hN⟩ := hrel
    by_cases hlt : i < 12
    · go_wp2_with fail
      refine (l2Draw_any _ _ hN.cur).mono ?_
      rintro x w1 ⟨⟨k, gr, o, wi, l, sz, f, t⟩, rfl, ⟨i0, i1, i2, i3, i4, i5, i6, i7⟩, c1, g1⟩
      simp only at i0 i1 i2 i3 i4 i5 i6 i7 ⊢
      have h1 := hN.draw c1 g1
      clear hN hE c1 g1
      obtain ⟨a0, a1, a2, a3, a4, a5, a6, a7⟩ := h1.ev.at
      have af := fun i => h1.ev.free i
      have h2 := h1.wrote (grown_st8 w1 eb (.int .i64 k) (.int .i64 gr) (.int .i64 o) (.int .i64 wi) (.int .i64 l) (.int .i64 sz) (.int .i64 f) (.int .i64 t)) (h1.ev.set8 ⟨k, gr, o, wi, l, sz, f, t⟩)
      clear h1
      go_upto_region 6 with fail
      clear a0 a1 a2 a3 a4 a5 a6 a7 af
      obtain ⟨w2, hw2⟩ : ∃ w2, w2 = ((((((((w1.setCell ⟨eb, 0, none⟩ (.int .i64 k)).setCell ⟨eb, 1, none⟩ (.int .i64 gr)).setCell ⟨eb, 2, none⟩ (.int .i64 o)).setCell ⟨eb, 3, none⟩ (.int .i64 wi)).setCell ⟨eb, 4, none⟩ (.int .i64 l)).setCell ⟨eb, 5, none⟩ (.int .i64 sz)).setCell ⟨eb, 6, none⟩ (.int .i64 f)).setCell ⟨eb, 7, none⟩ (.int .i64 t)) := ⟨_, rfl⟩
      rw [← hw2] at h2 ⊢
      clear hw2
      have c0 := h2.sc.at.c0
      simp only at c0
      go_wp2_with fail
      refine (l1Min_any _ _ _).mono ?_
      rintro e y ⟨rfl, rfl⟩
      obtain ⟨q, hq⟩ : ∃ q, q = min sg 16 := ⟨_, rfl⟩
      simp only [← hq]
      clear hq
      go_wp2_with fail
      refine (l1Max_any2 _ _ _).mono ?_
      rintro e y ⟨rfl, rfl⟩
      obtain ⟨q2, hq2⟩ : ∃ q2, q2 = max 1 q := ⟨_, rfl⟩
      simp only [← hq2]
      clear hq2
      go_wp2_with fail
      refine (l1Below_any _ _ _ h2.cur).mono ?_
      rintro e w3 ⟨x, rfl, x0, -, x2, c3, g3⟩
      have h3 := h2.draw c3 g3
      have xf := h3.ev.free 1
      have xc := h3.ev.at.2.1
      simp only at xc
      have h4 := h3.wrote (grown_set w3 eb 1 (.int .i64 x)) (h3.ev.setG x)
      simp only at h4
      clear h2 h3 c3 g3 c0 y
      go_upto_region 7 with fail
      clear xf xc
      obtain ⟨w4, hw4⟩ : ∃ w4, w4 = w3.setCell ⟨eb, 1, none⟩ (.int .i64 x) := ⟨_, rfl⟩
      rw [← hw4] at h4 ⊢
      clear hw4
      have n0 := h4.ev.at.1
      simp only at n0
      have ix : I64 x := ⟨by omega, by omega⟩
      by_cases hk1 : k = 1
      · subst hk1
        by_cases h5g : 5 ≤ sg
        · have hd : decide (5 ≤ sg) = true := decide_eq_true h5g
          obtain ⟨a0, a1, a2, a3, a4, a5, a6, a7⟩ := h4.ev.at
          have af := fun i => h4.ev.free i
          have cg := h4.sc.at.c0
          have h5 := h4.wrote (grown_st8 w4 eb (.int .i64 17) (.int .i64 x) (.int .i64 0) (.int .i64 0) (.int .i64 0) (.int .i64 0) (.int .i64 0) (.int .i64 0)) (h4.ev.set8 ⟨17, x, 0, 0, 0, 0, 0, 0⟩)
          simp only at a0 a1 a2 a3 a4 a5 a6 a7 cg h5
          clear h4 n0
          go_upto_region 14 with fail
          clear a0 a1 a2 a3 a4 a5 a6 a7 af cg
          obtain ⟨w5, hw5⟩ : ∃ w5, w5 = ((((((((w4.setCell ⟨eb, 0, none⟩ (.int .i64 17)).setCell ⟨eb, 1, none⟩ (.int .i64 x)).setCell ⟨eb, 2, none⟩ (.int .i64 0)).setCell ⟨eb, 3, none⟩ (.int .i64 0)).setCell ⟨eb, 4, none⟩ (.int .i64 0)).setCell ⟨eb, 5, none⟩ (.int .i64 0)).setCell ⟨eb, 6, none⟩ (.int .i64 0)).setCell ⟨eb, 7, none⟩ (.int .i64 0)) := ⟨_, rfl⟩
          rw [← hw5] at h5 ⊢
          clear hw5
          have ho2 : I64 0 := ⟨by decide, by decide⟩
          have cI := fun u (hs : ScR B u ⟨sg, lo, ll, lc, co, cl, cc, no, nl, nc, oo, ol, oc⟩ m) => codeIn_any ⟨sg, lo, ll, lc, co, cl, cc, no, nl, nc, oo, ol, oc⟩ m ⟨17, x, 0, 0, 0, 0, 0, 0⟩ u ho2 hs
          simp only at cI
          have hE : EvI ⟨17, x, 0, 0, 0, 0, 0, 0⟩ := ⟨(show I64 17 from ⟨by decide, by decide⟩), ix, ho2, ho2, ho2, ho2, ho2, ho2⟩
          obtain ⟨R, hR⟩ : ∃ R, R = codeIn m ⟨17, x, 0, 0, 0, 0, 0, 0⟩ := ⟨_, rfl⟩
          simp only [← hR] at cI
          clear hR
          obtain ⟨s0, s1, s2, s3, s4⟩ := h5.sc.at
          obtain ⟨e0, e1, e2, e3, e4, e5, e6, e7⟩ := h5.ev.at
          simp only at s0 s1 s2 s3 s4 e0 e1 e2 e3 e4 e5 e6 e7
          go_wp2_with fail
          refine (cI _ h5.scr).mono ?_
          rintro y w6 ⟨rfl, f6⟩
          have h6 := h5.fr f6
          clear cI s0 s1 s2 s3 s4 e0 e1 e2 e3 e4 e5 e6 e7 h5 f6
          cases hr : (R == 0)
          · go_wp2_with fail
            go_roundw
            case rel => exact ⟨i + 1, _, by omega, by go_num, hE, h6⟩
            case measure => simp [intOf]; omega
          · obtain ⟨e0, e1, e2, e3, e4, e5, e6, e7⟩ := h6.ev.at
            obtain ⟨u0, u1, u2, u3, u4, u5, u6, u7⟩ := h6.rs.at
            simp only at e0 e1 e2 e3 e4 e5 e6 e7 u0 u1 u2 u3 u4 u5 u6 u7
            have uf := fun i => h6.rs.free i
            have HF : Hid (Cur (((((((((w6.setCell ⟨rb, 0, none⟩ (.int .i64 17)).setCell ⟨rb, 1, none⟩ (.int .i64 x)).setCell ⟨rb, 2, none⟩ (.int .i64 0)).setCell ⟨rb, 3, none⟩ (.int .i64 0)).setCell ⟨rb, 4, none⟩ (.int .i64 0)).setCell ⟨rb, 5, none⟩ (.int .i64 0)).setCell ⟨rb, 6, none⟩ (.int .i64 0)).setCell ⟨rb, 7, none⟩ (.int .i64 0))) g ∧ w.grownBy (((((((((w6.setCell ⟨rb, 0, none⟩ (.int .i64 17)).setCell ⟨rb, 1, none⟩ (.int .i64 x)).setCell ⟨rb, 2, none⟩ (.int .i64 0)).setCell ⟨rb, 3, none⟩ (.int .i64 0)).setCell ⟨rb, 4, none⟩ (.int .i64 0)).setCell ⟨rb, 5, none⟩ (.int .i64 0)).setCell ⟨rb, 6, none⟩ (.int .i64 0)).setCell ⟨rb, 7, none⟩ (.int .i64 0))) (some g)) := h6.fin _ _ _ _ _ _ _ _
            clear h6
            go_wp2_with fail
            refine bodyPost_ret (v := .agg #[.int .i64 17, .int .i64 x, .int .i64 0, .int .i64 0, .int .i64 0, .int .i64 0, .int .i64 0, .int .i64 0]) (by simp [results, Tryd.results49, go_sem, u0, u1, u2, u3, u4, u5, u6, u7]) rfl ⟨⟨17, x, 0, 0, 0, 0, 0, 0⟩, rfl, hE, HF.out.1, HF.out.2⟩
        · have hd : decide (5 ≤ sg) = false := decide_eq_false h5g
          have h5g' : sg < 5 := by omega
          have a2 := h4.ev.at.2.2.1
          have af := h4.ev.free 2
          have cg := h4.sc.at.c0
          have h5 := h4.wrote (grown_set w4 eb 2 (.int .i64 sg)) (h4.ev.setO sg)
          simp only at a2 cg h5
          clear h4
          go_upto_region 14 with fail
          clear a2 af cg n0
          obtain ⟨w5, hw5⟩ : ∃ w5, w5 = w4.setCell ⟨eb, 2, none⟩ (.int .i64 sg) := ⟨_, rfl⟩
          rw [← hw5] at h5 ⊢
          clear hw5
          have ho2 : I64 sg := hsg
          have cI := fun u (hs : ScR B u ⟨sg, lo, ll, lc, co, cl, cc, no, nl, nc, oo, ol, oc⟩ m) => codeIn_any ⟨sg, lo, ll, lc, co, cl, cc, no, nl, nc, oo, ol, oc⟩ m ⟨1, x, sg, wi, l, sz, f, t⟩ u ho2 hs
          simp only at cI
          have hE : EvI ⟨1, x, sg, wi, l, sz, f, t⟩ := ⟨i0, ix, hsg, i3, i4, i5, i6, i7⟩
          obtain ⟨R, hR⟩ : ∃ R, R = codeIn m ⟨1, x, sg, wi, l, sz, f, t⟩ := ⟨_, rfl⟩
          simp only [← hR] at cI
          clear hR
          obtain ⟨s0, s1, s2, s3, s4⟩ := h5.sc.at
          obtain ⟨e0, e1, e2, e3, e4, e5, e6, e7⟩ := h5.ev.at
          simp only at s0 s1 s2 s3 s4 e0 e1 e2 e3 e4 e5 e6 e7
          go_wp2_with fail
          refine (cI _ h5.scr).mono ?_
          rintro y w6 ⟨rfl, f6⟩
          have h6 := h5.fr f6
          clear cI s0 s1 s2 s3 s4 e0 e1 e2 e3 e4 e5 e6 e7 h5 f6
          cases hr : (R == 0)
          · go_wp2_with fail
            go_roundw
            case rel => exact ⟨i + 1, _, by omega, by go_num, hE, h6⟩
            case measure => simp [intOf]; omega
          · obtain ⟨e0, e1, e2, e3, e4, e5, e6, e7⟩ := h6.ev.at
            obtain ⟨u0, u1, u2, u3, u4, u5, u6, u7⟩ := h6.rs.at
            simp only at e0 e1 e2 e3 e4 e5 e6 e7 u0 u1 u2 u3 u4 u5 u6 u7
            have uf := fun i => h6.rs.free i
            have HF : Hid (Cur (((((((((w6.setCell ⟨rb, 0, none⟩ (.int .i64 1)).setCell ⟨rb, 1, none⟩ (.int .i64 x)).setCell ⟨rb, 2, none⟩ (.int .i64 sg)).setCell ⟨rb, 3, none⟩ (.int .i64 wi)).setCell ⟨rb, 4, none⟩ (.int .i64 l)).setCell ⟨rb, 5, none⟩ (.int .i64 sz)).setCell ⟨rb, 6, none⟩ (.int .i64 f)).setCell ⟨rb, 7, none⟩ (.int .i64 t))) g ∧ w.grownBy (((((((((w6.setCell ⟨rb, 0, none⟩ (.int .i64 1)).setCell ⟨rb, 1, none⟩ (.int .i64 x)).setCell ⟨rb, 2, none⟩ (.int .i64 sg)).setCell ⟨rb, 3, none⟩ (.int .i64 wi)).setCell ⟨rb, 4, none⟩ (.int .i64 l)).setCell ⟨rb, 5, none⟩ (.int .i64 sz)).setCell ⟨rb, 6, none⟩ (.int .i64 f)).setCell ⟨rb, 7, none⟩ (.int .i64 t))) (some g)) := h6.fin _ _ _ _ _ _ _ _
            clear h6
            go_wp2_with fail
            refine bodyPost_ret (v := .agg #[.int .i64 1, .int .i64 x, .int .i64 sg, .int .i64 wi, .int .i64 l, .int .i64 sz, .int .i64 f, .int .i64 t]) (by simp [results, Tryd.results49, go_sem, u0, u1, u2, u3, u4, u5, u6, u7]) rfl ⟨⟨1, x, sg, wi, l, sz, f, t⟩, rfl, hE, HF.out.1, HF.out.2⟩
      · have ek1 : (k == 1) = false := beq_eq_false_iff_ne.2 hk1
        by_cases hk9 : k = 9
        · subst hk9
          have cg := h4.sc.at.c0
          simp only at cg
          go_wp2_with fail
          refine (l1Min_any _ _ _).mono ?_
          rintro e y ⟨rfl, rfl⟩
          obtain ⟨q, hq⟩ : ∃ q, q = min sg 16 := ⟨_, rfl⟩
          simp only [← hq]
          clear hq
          go_wp2_with fail
          refine (l1Max_any2 _ _ _).mono ?_
          rintro e y ⟨rfl, rfl⟩
          obtain ⟨q2, hq2⟩ : ∃ q2, q2 = max 1 q := ⟨_, rfl⟩
          simp only [← hq2]
          clear hq2
          go_wp2_with fail
          refine (l1Below_any _ _ _ h4.cur).mono ?_
          rintro e w5 ⟨x5, rfl, x50, -, x52, c5, g5⟩
          have h5 := h4.draw c5 g5
          have xf := h5.ev.free 3
          have xc := h5.ev.at.2.2.2.1
          have h5 := h5.wrote (grown_set w5 eb 3 (.int .i64 x5)) (h5.ev.setW x5)
          simp only at xc h5
          clear h4 c5 g5 cg n0
          go_upto_region 14 with fail
          clear xf xc
          obtain ⟨w8, hw8⟩ : ∃ w8, w8 = w5.setCell ⟨eb, 3, none⟩ (.int .i64 x5) := ⟨_, rfl⟩
          rw [← hw8] at h5 ⊢
          clear hw8
          have ho2 : I64 o := i2
          have cI := fun u (hs : ScR B u ⟨sg, lo, ll, lc, co, cl, cc, no, nl, nc, oo, ol, oc⟩ m) => codeIn_any ⟨sg, lo, ll, lc, co, cl, cc, no, nl, nc, oo, ol, oc⟩ m ⟨9, x, o, x5, l, sz, f, t⟩ u ho2 hs
          simp only at cI
          have hE : EvI ⟨9, x, o, x5, l, sz, f, t⟩ := ⟨i0, ix, i2, (show I64 x5 from ⟨by omega, by omega⟩), i4, i5, i6, i7⟩
          obtain ⟨R, hR⟩ : ∃ R, R = codeIn m ⟨9, x, o, x5, l, sz, f, t⟩ := ⟨_, rfl⟩
          simp only [← hR] at cI
          clear hR
          obtain ⟨s0, s1, s2, s3, s4⟩ := h5.sc.at
          obtain ⟨e0, e1, e2, e3, e4, e5, e6, e7⟩ := h5.ev.at
          simp only at s0 s1 s2 s3 s4 e0 e1 e2 e3 e4 e5 e6 e7
          go_wp2_with fail
          refine (cI _ h5.scr).mono ?_
          rintro y w6 ⟨rfl, f6⟩
          have h6 := h5.fr f6
          clear cI s0 s1 s2 s3 s4 e0 e1 e2 e3 e4 e5 e6 e7 h5 f6
          cases hr : (R == 0)
          · go_wp2_with fail
            go_roundw
            case rel => exact ⟨i + 1, _, by omega, by go_num, hE, h6⟩
            case measure => simp [intOf]; omega
          · obtain ⟨e0, e1, e2, e3, e4, e5, e6, e7⟩ := h6.ev.at
            obtain ⟨u0, u1, u2, u3, u4, u5, u6, u7⟩ := h6.rs.at
            simp only at e0 e1 e2 e3 e4 e5 e6 e7 u0 u1 u2 u3 u4 u5 u6 u7
            have uf := fun i => h6.rs.free i
            have HF : Hid (Cur (((((((((w6.setCell ⟨rb, 0, none⟩ (.int .i64 9)).setCell ⟨rb, 1, none⟩ (.int .i64 x)).setCell ⟨rb, 2, none⟩ (.int .i64 o)).setCell ⟨rb, 3, none⟩ (.int .i64 x5)).setCell ⟨rb, 4, none⟩ (.int .i64 l)).setCell ⟨rb, 5, none⟩ (.int .i64 sz)).setCell ⟨rb, 6, none⟩ (.int .i64 f)).setCell ⟨rb, 7, none⟩ (.int .i64 t))) g ∧ w.grownBy (((((((((w6.setCell ⟨rb, 0, none⟩ (.int .i64 9)).setCell ⟨rb, 1, none⟩ (.int .i64 x)).setCell ⟨rb, 2, none⟩ (.int .i64 o)).setCell ⟨rb, 3, none⟩ (.int .i64 x5)).setCell ⟨rb, 4, none⟩ (.int .i64 l)).setCell ⟨rb, 5, none⟩ (.int .i64 sz)).setCell ⟨rb, 6, none⟩ (.int .i64 f)).setCell ⟨rb, 7, none⟩ (.int .i64 t))) (some g)) := h6.fin _ _ _ _ _ _ _ _
            clear h6
            go_wp2_with fail
            refine bodyPost_ret (v := .agg #[.int .i64 9, .int .i64 x, .int .i64 o, .int .i64 x5, .int .i64 l, .int .i64 sz, .int .i64 f, .int .i64 t]) (by simp [results, Tryd.results49, go_sem, u0, u1, u2, u3, u4, u5, u6, u7]) rfl ⟨⟨9, x, o, x5, l, sz, f, t⟩, rfl, hE, HF.out.1, HF.out.2⟩
        · have ek9 : (k == 9) = false := beq_eq_false_iff_ne.2 hk9
          clear hk1 hk9
          go_upto_region 14 with fail
          have h5 := h4
          clear h4 n0
          have ho2 : I64 o := i2
          have cI := fun u (hs : ScR B u ⟨sg, lo, ll, lc, co, cl, cc, no, nl, nc, oo, ol, oc⟩ m) => codeIn_any ⟨sg, lo, ll, lc, co, cl, cc, no, nl, nc, oo, ol, oc⟩ m ⟨k, x, o, wi, l, sz, f, t⟩ u ho2 hs
          simp only at cI
          have hE : EvI ⟨k, x, o, wi, l, sz, f, t⟩ := ⟨i0, ix, i2, i3, i4, i5, i6, i7⟩
          obtain ⟨R, hR⟩ : ∃ R, R = codeIn m ⟨k, x, o, wi, l, sz, f, t⟩ := ⟨_, rfl⟩
          simp only [← hR] at cI
          clear hR
          obtain ⟨s0, s1, s2, s3, s4⟩ := h5.sc.at
          obtain ⟨e0, e1, e2, e3, e4, e5, e6, e7⟩ := h5.ev.at
          simp only at s0 s1 s2 s3 s4 e0 e1 e2 e3 e4 e5 e6 e7
          go_wp2_with fail
          refine (cI _ h5.scr).mono ?_
          rintro y w6 ⟨rfl, f6⟩
          have h6 := h5.fr f6
          clear cI s0 s1 s2 s3 s4 e0 e1 e2 e3 e4 e5 e6 e7 h5 f6
          cases hr : (R == 0)
          · go_wp2_with fail
            go_roundw
            case rel => exact ⟨i + 1, _, by omega, by go_num, hE, h6⟩
            case measure => simp [intOf]; omega
          · obtain ⟨e0, e1, e2, e3, e4, e5, e6, e7⟩ := h6.ev.at
            obtain ⟨u0, u1, u2, u3, u4, u5, u6, u7⟩ := h6.rs.at
            simp only at e0 e1 e2 e3 e4 e5 e6 e7 u0 u1 u2 u3 u4 u5 u6 u7
            have uf := fun i => h6.rs.free i
            have HF : Hid (Cur (((((((((w6.setCell ⟨rb, 0, none⟩ (.int .i64 k)).setCell ⟨rb, 1, none⟩ (.int .i64 x)).setCell ⟨rb, 2, none⟩ (.int .i64 o)).setCell ⟨rb, 3, none⟩ (.int .i64 wi)).setCell ⟨rb, 4, none⟩ (.int .i64 l)).setCell ⟨rb, 5, none⟩ (.int .i64 sz)).setCell ⟨rb, 6, none⟩ (.int .i64 f)).setCell ⟨rb, 7, none⟩ (.int .i64 t))) g ∧ w.grownBy (((((((((w6.setCell ⟨rb, 0, none⟩ (.int .i64 k)).setCell ⟨rb, 1, none⟩ (.int .i64 x)).setCell ⟨rb, 2, none⟩ (.int .i64 o)).setCell ⟨rb, 3, none⟩ (.int .i64 wi)).setCell ⟨rb, 4, none⟩ (.int .i64 l)).setCell ⟨rb, 5, none⟩ (.int .i64 sz)).setCell ⟨rb, 6, none⟩ (.int .i64 f)).setCell ⟨rb, 7, none⟩ (.int .i64 t))) (some g)) := h6.fin _ _ _ _ _ _ _ _
            clear h6
            go_wp2_with fail
            refine bodyPost_ret (v := .agg #[.int .i64 k, .int .i64 x, .int .i64 o, .int .i64 wi, .int .i64 l, .int .i64 sz, .int .i64 f, .int .i64 t]) (by simp [results, Tryd.results49, go_sem, u0, u1, u2, u3, u4, u5, u6, u7]) rfl ⟨⟨k, x, o, wi, l, sz, f, t⟩, rfl, hE, HF.out.1, HF.out.2⟩
    · have et : i = 12 := by omega
      subst et
      obtain ⟨k, gr, o, wi, l, sz, f, t⟩ := e
      obtain ⟨e0, e1, e2, e3, e4, e5, e6, e7⟩ := hN.ev.at
      obtain ⟨u0, u1, u2, u3, u4, u5, u6, u7⟩ := hN.rs.at
      simp only at e0 e1 e2 e3 e4 e5 e6 e7 u0 u1 u2 u3 u4 u5 u6 u7
      have uf := fun i => hN.rs.free i
      have HF : Hid (Cur (((((((((wr.setCell ⟨rb, 0, none⟩ (.int .i64 k)).setCell ⟨rb, 1, none⟩ (.int .i64 gr)).setCell ⟨rb, 2, none⟩ (.int .i64 o)).setCell ⟨rb, 3, none⟩ (.int .i64 wi)).setCell ⟨rb, 4, none⟩ (.int .i64 l)).setCell ⟨rb, 5, none⟩ (.int .i64 sz)).setCell ⟨rb, 6, none⟩ (.int .i64 f)).setCell ⟨rb, 7, none⟩ (.int .i64 t))) g ∧ w.grownBy ((((((((wr.setCell ⟨rb, 0, none⟩ (.int .i64 k)).setCell ⟨rb, 1, none⟩ (.int .i64 gr)).setCell ⟨rb, 2, none⟩ (.int .i64 o)).setCell ⟨rb, 3, none⟩ (.int .i64 wi)).setCell ⟨rb, 4, none⟩ (.int .i64 l)).setCell ⟨rb, 5, none⟩ (.int .i64 sz)).setCell ⟨rb, 6, none⟩ (.int .i64 f)).setCell ⟨rb, 7, none⟩ (.int .i64 t)) (some g)) := hN.fin _ _ _ _ _ _ _ _
      clear hN
      go_wp2_with fail
      refine bodyPost_ret (v := .agg #[.int .i64 k, .int .i64 gr, .int .i64 o, .int .i64 wi, .int .i64 l, .int .i64 sz, .int .i64 f, .int .i64 t]) (by simp [results, Tryd.results49, go_sem, u0, u1, u2, u3, u4, u5, u6, u7]) rfl ⟨⟨k, gr, o, wi, l, sz, f, t⟩, rfl, hE, HF.out.1, HF.out.2⟩
end Go.Proofs.YthjnhfcncinhiaaDoor
/-
  The walks of the laws' toEventS, szEventS, eqEventS (of two like lists).
-/
namespace Go.Proofs.YthjnhfcncinhiaaDoor
open Go.RowKit

theorem Tryd.info38 : (Tryd.prog.info? 38).map (fun i => (i.zero, i.size, i.bytes)) = some (some (.agg #[.int .i64 0, .int .i64 0, .int .i64 0, .int .i64 0, .int .i64 0, .int .i64 0, .int .i64 0, .int .i64 0]), 8, 64) := by kernel_rfl

theorem set8 (A B : List Value) (m0 m1 m2 m3 m4 m5 m6 m7 a0 a1 a2 a3 a4 a5 a6 a7 : Value) (n : Nat) (hn : A.length = n) :
    ((((((((A ++ m0 :: m1 :: m2 :: m3 :: m4 :: m5 :: m6 :: m7 :: B).set n a0).set (n + 1) a1).set (n + 2) a2).set (n + 3) a3).set (n + 4) a4).set (n + 5) a5).set (n + 6) a6).set (n + 7) a7
      = A ++ a0 :: a1 :: a2 :: a3 :: a4 :: a5 :: a6 :: a7 :: B := by
  subst hn
  simp
theorem drop8 (L : List Value) (n : Nat) (h : n + 8 ≤ L.length) : ∃ m0 m1 m2 m3 m4 m5 m6 m7, L.drop n = m0 :: m1 :: m2 :: m3 :: m4 :: m5 :: m6 :: m7 :: L.drop (n + 8) := by
  refine ⟨L[n], L[n + 1], L[n + 2], L[n + 3], L[n + 4], L[n + 5], L[n + 6], L[n + 7], ?_⟩
  rw [List.drop_eq_getElem_cons (by omega : n < L.length), List.drop_eq_getElem_cons (by omega : n + 1 < L.length), List.drop_eq_getElem_cons (by omega : n + 1 + 1 < L.length), List.drop_eq_getElem_cons (by omega : n + 1 + 1 + 1 < L.length),
    List.drop_eq_getElem_cons (by omega : n + 1 + 1 + 1 + 1 < L.length), List.drop_eq_getElem_cons (by omega : n + 1 + 1 + 1 + 1 + 1 < L.length), List.drop_eq_getElem_cons (by omega : n + 1 + 1 + 1 + 1 + 1 + 1 < L.length), List.drop_eq_getElem_cons (by omega : n + 1 + 1 + 1 + 1 + 1 + 1 + 1 < L.length)]
theorem grown_tr {a b c : World} {row : Option Nat} (h : a.grownBy b row) (k : b.grownBy c row) : a.grownBy c row :=
  ⟨k.os.trans h.os, k.tape.trans h.tape, k.output.trans h.output, Nat.le_trans h.size k.size, fun i hi hne => (k.block i (Nat.lt_of_lt_of_le hi h.size) hne).trans (h.block i hi hne)⟩
theorem own8 {w : World} {base g n cap : Nat} {e : TypeId} {xs : List Value} (h : w.ownsRow base e 8 (.slice (some ⟨g, 0, none⟩) n cap) n xs) (j : Nat) (a0 a1 a2 a3 a4 a5 a6 a7 : Value) :
    ((((((((w.setCell ⟨g, j, none⟩ a0).setCell ⟨g, j + 1, none⟩ a1).setCell ⟨g, j + 2, none⟩ a2).setCell ⟨g, j + 3, none⟩ a3).setCell ⟨g, j + 4, none⟩ a4).setCell ⟨g, j + 5, none⟩ a5).setCell ⟨g, j + 6, none⟩ a6).setCell ⟨g, j + 7, none⟩ a7).ownsRow base e 8 (.slice (some ⟨g, 0, none⟩) n cap) n
      ((((((((xs.set j a0).set (j + 1) a1).set (j + 2) a2).set (j + 3) a3).set (j + 4) a4).set (j + 5) a5).set (j + 6) a6).set (j + 7) a7) ∧
    w.grownBy ((((((((w.setCell ⟨g, j, none⟩ a0).setCell ⟨g, j + 1, none⟩ a1).setCell ⟨g, j + 2, none⟩ a2).setCell ⟨g, j + 3, none⟩ a3).setCell ⟨g, j + 4, none⟩ a4).setCell ⟨g, j + 5, none⟩ a5).setCell ⟨g, j + 6, none⟩ a6).setCell ⟨g, j + 7, none⟩ a7) (some g) := by
  have h0 := h.stored j a0
  have h1 := h0.1.stored (j + 1) a1
  have h2 := h1.1.stored (j + 2) a2
  have h3 := h2.1.stored (j + 3) a3
  have h4 := h3.1.stored (j + 4) a4
  have h5 := h4.1.stored (j + 5) a5
  have h6 := h5.1.stored (j + 6) a6
  have h7 := h6.1.stored (j + 7) a7
  exact ⟨h7.1, grown_tr (grown_tr (grown_tr (grown_tr (grown_tr (grown_tr (grown_tr h0.2 h1.2) h2.2) h3.2) h4.2) h5.2) h6.2) h7.2⟩
/-- One event more is laid. -/
theorem laid_step (es : List Ev) (M : List Value) (k : Nat) (hk : k < es.length) (hM : M.length = es.length * 8) (e : Ev) :
    (((((((((es.take k).flatMap evCells ++ M.drop (k * 8)).set (k * 8) (.int .i64 e.k)).set (k * 8 + 1) (.int .i64 e.g)).set (k * 8 + 2) (.int .i64 e.o)).set (k * 8 + 3) (.int .i64 e.w)).set (k * 8 + 4) (.int .i64 e.l)).set (k * 8 + 5) (.int .i64 e.s)).set (k * 8 + 6) (.int .i64 e.f)).set (k * 8 + 7) (.int .i64 e.t)
      = (es.take k ++ [e]).flatMap evCells ++ M.drop ((k + 1) * 8) := by
  obtain ⟨m0, m1, m2, m3, m4, m5, m6, m7, hd⟩ := drop8 M (k * 8) (by omega)
  have hl : ((es.take k).flatMap evCells).length = k * 8 := by rw [cells_len, List.length_take]; congr 1; omega
  rw [hd, set8 _ _ _ _ _ _ _ _ _ _ _ _ _ _ _ _ _ _ _ hl, show (k + 1) * 8 = k * 8 + 8 by omega, List.flatMap_append]
  simp [evCells]

end Go.Proofs.YthjnhfcncinhiaaDoor
/-
  'append' of one event to a slice of events that the call owns.
-/
namespace Go.Proofs.YthjnhfcncinhiaaDoor
open Go.RowKit

theorem ownE_new (w : World) : OwnE (w.alloc (.cells #[] 38)) w.heap.size (.slice (some ⟨w.heap.size, 0, none⟩) 0 0) [] :=
  ⟨w.heap.size, 0, rfl, World.ownsRow_made w #[] 0 (Nat.le_refl _) (by unfold maxLen; omega) rfl, by simp⟩

theorem appE (w : World) {ops : Array Oper} {rest : List Oper} {o : Oper} {a : Act} {Q : Exit → Act → World → Prop} (hgd : o.guard = none) (s x : Operand)
    (ho : o.op = .call { callee := .builtin .append, args := #[s, x], argTypes := #[24, 24] })
    (base : Nat) (v : Value) (es : List Ev) (e : Ev) (hs : a.eval s = v) (hown : OwnE w base v es)
    (b : Nat) (c : Nat) (hx : a.eval x = .slice (some ⟨b, 0, none⟩) 1 c) (hnew : EvC w b 0 e)
    (hlen : es.length ≤ 16777215) (hbase : base ≤ w.heap.size)
    (h : ∀ v' w', OwnE w' base v' (es ++ [e]) → w.grownBy w' v.ownBlock → (v'.ownBlock = v.ownBlock ∨ v'.ownBlock = some w.heap.size) → wpList Tryd.prog ops Q rest (a.put o.dst v') w') : wpList Tryd.prog ops Q (o :: rest) a w := by
  obtain ⟨i0, hi, hz0, hz1, hz2⟩ := info_parts Tryd.info38
  obtain ⟨g, cap, rfl, ho', hl⟩ := hown
  refine wpList_append_own_at w hgd s x 24 ho base 38 i0 _ 8 64 Tryd.underlying24 hi hz0 hz1 hz2 rfl (by decide) _ _ _ hs ho' ⟨b, 0, none⟩ 1 c (evCells e) hx (by simp [evCells]) ?_ ?_ (by unfold maxLen; omega) (by omega) hbase ?_
  · intro j u hu
    rw [Addr.add_lit]
    obtain ⟨c0, c1, c2, c3, c4, c5, c6, c7⟩ := hnew
    match j, hu with
    | 0, hu => simp [evCells] at hu; subst hu; exact c0
    | 1, hu => simp [evCells] at hu; subst hu; exact c1
    | 2, hu => simp [evCells] at hu; subst hu; exact c2
    | 3, hu => simp [evCells] at hu; subst hu; exact c3
    | 4, hu => simp [evCells] at hu; subst hu; exact c4
    | 5, hu => simp [evCells] at hu; subst hu; exact c5
    | 6, hu => simp [evCells] at hu; subst hu; exact c6
    | 7, hu => simp [evCells] at hu; subst hu; exact c7
    | n + 8, hu => simp [evCells] at hu
  · intro u hu
    simp only [evCells, List.mem_cons, List.not_mem_nil, or_false] at hu
    rcases hu with rfl | rfl | rfl | rfl | rfl | rfl | rfl | rfl <;> rfl
  · intro v' w' hv hg hnz hat
    refine h v' w' ?_ hg hat
    rcases hv.2 with ⟨e', _⟩ | ⟨g', cap', cur, e', r⟩
    · have := (hnz.1 e').1
      simp at this
    · subst e'
      exact ⟨g', cap', by simp, by simpa [List.flatMap_append] using hv, by simp; omega⟩
theorem evC_new (w : World) (e : Ev) : EvC (w.alloc (.cells #[.int .i64 e.k, .int .i64 e.g, .int .i64 e.o, .int .i64 e.w, .int .i64 e.l, .int .i64 e.s, .int .i64 e.f, .int .i64 e.t] 38)) w.heap.size 0 e := by
  obtain ⟨c0, c1, c2, c3, c4, c5, c6, c7⟩ := (EvB.new w e).at
  exact ⟨c0, c1, c2, c3, c4, c5, c6, c7⟩
end Go.Proofs.YthjnhfcncinhiaaDoor
