/-
  One event at a place, by the specification: l3Read.
-/
import Derived.Test.YtnekojcgbokhpaaDoorRd
import Derived.Test.YtnekojcgbokhpaaDoorEvSpecL
import Derived.Test.YtnekojcgbokhpaaDoorEvSpec
import Derived.Deep.RegionHeld3
namespace Go.Proofs.YtnekojcgbokhpaaDoor
open Go.RowKit

/-- An event of its Kind, its Gor and six numbers. -/
def evOf (k g : Int) (f : List Int) : Ev := ⟨k, g, f.getD 0 0, f.getD 1 0, f.getD 2 0, f.getD 3 0, f.getD 4 0, f.getD 5 0⟩
theorem evOf_put (k g : Int) (f : List Int) (i : Nat) (n : Int) (hi : i < 6) (hf : f.length = 6) : (evOf k g f).put (i + 2) n = evOf k g (f.set i n) := by
  match f, hf with
  | [a, b, c, d, e, h], _ =>
    rcases (by omega : i = 0 ∨ i = 1 ∨ i = 2 ∨ i = 3 ∨ i = 4 ∨ i = 5) with rfl | rfl | rfl | rfl | rfl | rfl <;> rfl
theorem offF_yes (k : Int) (i : Nat) (hi : i < 6) (h : hasB k (2 ^ i) = true) : offF k i = (i + 2) :: offF k (i + 1) := by
  have e : 6 - i = (6 - (i + 1)) + 1 := by omega
  rw [offF, e, List.range'_succ, List.filter_cons_of_pos (by simpa using h)]
  rfl
theorem offF_no (k : Int) (i : Nat) (hi : i < 6) (h : hasB k (2 ^ i) = false) : offF k i = offF k (i + 1) := by
  have e : 6 - i = (6 - (i + 1)) + 1 := by omega
  rw [offF, e, List.range'_succ, List.filter_cons_of_neg (by simp [h])]
  rfl
theorem offF_end (k : Int) : offF k 6 = [] := rfl

/-- The reading so far: the fields from the i-th on come from the place p. -/
def RE (bs : List Int) (k : Int) (q : Nat) (i p : Nat) (g : Int) (f : List Int) : Prop := rdSeq bs (offF k i) p (evOf k g f) = rdSeq bs (offs k) q (ev0 k) ∧ f.length = 6 ∧ ∀ x ∈ f, I64 x
theorem RE.start {bs : List Int} {k : Int} {q p : Nat} {g : Int} (h : rdN bs q = some (g, p)) : RE bs k q 0 p g [0, 0, 0, 0, 0, 0] := by
  refine ⟨?_, rfl, ?_⟩
  · rw [offs, rdSeq, h]; rfl
  · intro x hx; simp at hx; subst hx; exact ⟨by decide, by decide⟩
theorem RE.no {bs : List Int} {k : Int} {q i p : Nat} {g : Int} {f : List Int} (h : RE bs k q i p g f) (hi : i < 6) (hh : hasB k (2 ^ i) = false) : RE bs k q (i + 1) p g f := by
  refine ⟨?_, h.2⟩
  rw [← h.1, offF_no k i hi hh]
theorem RE.yes {bs : List Int} {k : Int} {q i p p' : Nat} {g n : Int} {f : List Int} (h : RE bs k q i p g f) (hi : i < 6) (hh : hasB k (2 ^ i) = true) (hr : rdN bs p = some (n, p')) (hn : I64 n) : RE bs k q (i + 1) p' g (f.set i n) := by
  refine ⟨?_, by rw [List.length_set]; exact h.2.1, fun x hx => ?_⟩
  · rw [← h.1, offF_yes k i hi hh, rdSeq, hr]
    simp only []
    rw [evOf_put k g f i n hi h.2.1]
  · rcases List.mem_or_eq_of_mem_set hx with hx | rfl
    · exact h.2.2 x hx
    · exact hn
theorem RE.stop {bs : List Int} {k : Int} {q i p : Nat} {g : Int} {f : List Int} (h : RE bs k q i p g f) (hi : i < 6) (hh : hasB k (2 ^ i) = true) (hr : rdN bs p = none) : rdSeq bs (offs k) q (ev0 k) = none := by
  rw [← h.1, offF_yes k i hi hh, rdSeq, hr]
theorem RE.fin {bs : List Int} {k : Int} {q p : Nat} {g : Int} {f : List Int} (h : RE bs k q 6 p g f) : rdSeq bs (offs k) q (ev0 k) = some (evOf k g f, p) := by
  rw [← h.1, offF_end]; rfl

/-- An event stored over another one. -/
theorem EvB.set8 {w : World} {b : Nat} {e0 : Ev} (h : EvB w b e0) (e : Ev) : EvB ((((((((w.setCell ⟨b, 0, none⟩ (.int .i64 e.k)).setCell ⟨b, 1, none⟩ (.int .i64 e.g)).setCell ⟨b, 2, none⟩ (.int .i64 e.o)).setCell ⟨b, 3, none⟩ (.int .i64 e.w)).setCell ⟨b, 4, none⟩ (.int .i64 e.l)).setCell ⟨b, 5, none⟩ (.int .i64 e.s)).setCell ⟨b, 6, none⟩ (.int .i64 e.f)).setCell ⟨b, 7, none⟩ (.int .i64 e.t)) b e :=
  (((((((h.setK e.k).setG e.g).setO e.o).setW e.w).setL e.l).setS e.s).setF e.f).setT e.t
theorem grown_st (w : World) (g o : Nat) (v : Value) : w.grownBy (w.setCell ⟨g, o, none⟩ v) (some g) :=
  ⟨rfl, rfl, rfl, by simp, fun k _ hk => heap_setCell_other w ⟨g, o, none⟩ k v (fun e => hk (by simp [e]))⟩
theorem grown_tw {a b c : World} {row : Option Nat} (h : a.grownBy b row) (k : b.grownBy c row) : a.grownBy c row :=
  ⟨k.os.trans h.os, k.tape.trans h.tape, k.output.trans h.output, Nat.le_trans h.size k.size, fun i hi hne => (k.block i (Nat.lt_of_lt_of_le hi h.size) hne).trans (h.block i hi hne)⟩
theorem grown_st8 (w : World) (r : Nat) (v0 v1 v2 v3 v4 v5 v6 v7 : Value) :
    w.grownBy ((((((((w.setCell ⟨r, 0, none⟩ v0).setCell ⟨r, 1, none⟩ v1).setCell ⟨r, 2, none⟩ v2).setCell ⟨r, 3, none⟩ v3).setCell ⟨r, 4, none⟩ v4).setCell ⟨r, 5, none⟩ v5).setCell ⟨r, 6, none⟩ v6).setCell ⟨r, 7, none⟩ v7) (some r) :=
  grown_tw (grown_tw (grown_tw (grown_tw (grown_tw (grown_tw (grown_tw (grown_st _ r 0 _) (grown_st _ r 1 _)) (grown_st _ r 2 _)) (grown_st _ r 3 _)) (grown_st _ r 4 _)) (grown_st _ r 5 _)) (grown_st _ r 6 _)) (grown_st _ r 7 _)

theorem ownI_st {w : World} {base g cap n : Nat} {xs : List Int} (h : OwnI w base (.slice (some ⟨g, 0, none⟩) n cap) xs) (hn : n = xs.length) (j : Nat) (x : Int) (hx : I64 x) :
    OwnI (w.setCell ⟨g, j, none⟩ (.int .i64 x)) base (.slice (some ⟨g, 0, none⟩) n cap) (xs.set j x) ∧ w.grownBy (w.setCell ⟨g, j, none⟩ (.int .i64 x)) (some g) := by
  subst hn
  have hst := h.1.stored j (.int .i64 x)
  refine ⟨⟨?_, by simpa using h.2.1, fun y hy => ?_⟩, hst.2⟩
  · have e : (xs.set j x).map (Value.int .i64) = (xs.map (Value.int .i64)).set j (.int .i64 x) := by rw [List.map_set]
    rw [e, List.length_set]
    exact hst.1
  · rcases List.mem_or_eq_of_mem_set hy with hy | rfl
    · exact h.2.2 y hy
    · exact hx

/-- What l3Read answers. -/
def ReadC (bs : List Int) (p : Nat) (w : World) (x : Ending) (w' : World) : Prop :=
  Fr w w' ∧ ((∃ e q, rdEv bs p = .ok (e, q) ∧ x = .returned (.tuple #[.agg #[.int .i64 e.k, .int .i64 e.g, .int .i64 e.o, .int .i64 e.w, .int .i64 e.l, .int .i64 e.s, .int .i64 e.f, .int .i64 e.t], .int .i64 (q : Int), .int .i64 0])) ∨
    (∃ c y, rdEv bs p = .error c ∧ (c = 2 ∨ c = 3) ∧ x = .returned (.tuple #[.agg #[.int .i64 0, .int .i64 0, .int .i64 0, .int .i64 0, .int .i64 0, .int .i64 0, .int .i64 0, .int .i64 0], .int .i64 y, .int .i64 c])))

theorem rdEv_no {bs : List Int} {p : Nat} (h : rdN bs p = none) : rdEv bs p = .error 2 := by rw [rdEv, h]
theorem rdEv_kind {bs : List Int} {p q : Nat} {k : Int} (h : rdN bs p = some (k, q)) (hk : inB 1 22 k = false) : rdEv bs p = .error 3 := by
  rw [rdEv, h]; simp [hk]
theorem rdEv_seq {bs : List Int} {p q : Nat} {k : Int} (h : rdN bs p = some (k, q)) (hk : inB 1 22 k = true) (hs : rdSeq bs (offs k) q (ev0 k) = none) : rdEv bs p = .error 2 := by
  rw [rdEv, h]; simp [hk, hs]
theorem rdEv_fin {bs : List Int} {p q r : Nat} {k : Int} {e : Ev} (h : rdN bs p = some (k, q)) (hk : inB 1 22 k = true) (hs : rdSeq bs (offs k) q (ev0 k) = some (e, r)) : rdEv bs p = if evOk e then .ok (e, r) else .error 3 := by
  rw [rdEv, h]; simp [hk, hs]
theorem rdSeq_gor {bs : List Int} {q : Nat} {k : Int} (h : rdN bs q = none) : rdSeq bs (offs k) q (ev0 k) = none := by rw [offs, rdSeq, h]

set_option maxHeartbeats 4000000 in
theorem l3Read_any (ao : Option Addr) (n cap : Nat) (bs : List Int) (p : Nat) (w : World) (hn : bs.length = n) (hp : p ≤ bs.length) (h : ReadsB w ao bs) :
    Calls Tryd.prog 33 #[.slice ao n cap, .int .i64 (p : Int)] w (ReadC bs p w) := by
  subst hn
  have hl := h.len
  have hu := h.bd
  have cR := fun (i : Nat) (hi : i ≤ bs.length) w h => specRead_any ao bs.length cap bs (i : Int) w rfl ⟨by omega, by omega⟩ h
  have f0 := Fr.alloc w (.cells #[.int .i64 0, .int .i64 0, .int .i64 0, .int .i64 0, .int .i64 0, .int .i64 0, .int .i64 0, .int .i64 0] 49)
  have c1 := cR p hp _ (h.fr f0)
  cases hr : rdN bs p with
  | none =>
    rw [rdV_none hr] at c1
    simp only [rdT] at c1
    have HE : Hid (rdEv bs p = .error 2) := rdEv_no hr
    clear hr
    go_enter Tryd.func33, Tryd.ntmps33
    go_wp2_with fail
    refine c1.mono ?_
    rintro x w1 ⟨rfl, rfl⟩
    go_wp2_with fail
    refine bodyPost_ret (v := .tuple #[.agg #[.int .i64 0, .int .i64 0, .int .i64 0, .int .i64 0, .int .i64 0, .int .i64 0, .int .i64 0, .int .i64 0], .int .i64 (p : Int), .int .i64 2]) (by simp [results, Tryd.results33, go_sem]) rfl ⟨f0, .inr ⟨2, _, HE.out, .inl rfl, rfl⟩⟩
  | some kq =>
    obtain ⟨k, q⟩ := kq
    obtain ⟨k0, k1, -, -⟩ := rdN_some hu hr
    have hq := (rdN_lt hu hr).2
    rw [rdV_some hr] at c1
    simp only [rdT] at c1
    have cF := fun w => specFields_any k w
    cases hk : inB 1 22 k with
    | false =>
      have e : fldV k = -1 := by rw [fldV, hk]; rfl
      rw [e] at cF
      have HE : Hid (rdEv bs p = .error 3) := rdEv_kind hr hk
      clear hr hk e
      go_enter Tryd.func33, Tryd.ntmps33
      go_wp2_with fail
      refine c1.mono ?_
      rintro x w1 ⟨rfl, rfl⟩
      go_wp2_with fail
      refine (cF _).mono ?_
      rintro e w2 ⟨rfl, f2⟩
      have hz := (EvB.new w ⟨0, 0, 0, 0, 0, 0, 0, 0⟩).keep f2 (by simp)
      obtain ⟨b0, b1, b2, b3, b4, b5, b6, b7⟩ := hz.at
      have z := hz.free
      have hz2 := hz.set8 ⟨0, 0, 0, 0, 0, 0, 0, 0⟩
      have gz := grown_st8 w2 w.heap.size (.int .i64 0) (.int .i64 0) (.int .i64 0) (.int .i64 0) (.int .i64 0) (.int .i64 0) (.int .i64 0) (.int .i64 0)
      go_wp2_with fail
      obtain ⟨d0, d1, d2, d3, d4, d5, d6, d7⟩ := hz2.at
      exact bodyPost_ret (v := .tuple #[.agg #[.int .i64 0, .int .i64 0, .int .i64 0, .int .i64 0, .int .i64 0, .int .i64 0, .int .i64 0, .int .i64 0], .int .i64 (q : Int), .int .i64 3]) (by simp [results, Tryd.results33, go_sem, d0, d1, d2, d3, d4, d5, d6, d7]) rfl ⟨(f0.trans f2).then gz (fun j hj => by simp only [Option.some.injEq] at hj; omega), .inr ⟨3, _, HE.out, .inr rfl, rfl⟩⟩
    | true =>
      have hfk : 0 ≤ fldV k := by
        obtain ⟨m, hm, rfl⟩ := kinds hk
        rw [fldV_at m hm]
        exact (fldN_in m).1
      have HK : Hid (inB 1 22 k = true) := hk
      obtain ⟨F, hF⟩ : ∃ F, F = fldV k := ⟨_, rfl⟩
      rw [← hF] at hfk
      simp only [← hF] at cF
      clear hF hk
      have c2 := fun w h => cR q hq w h
      cases hr2 : rdN bs q with
      | none =>
        rw [rdV_none hr2] at c2
        simp only [rdT] at c2
        have HE : Hid (rdEv bs p = .error 2) := rdEv_seq hr HK.out (rdSeq_gor hr2)
        clear hr hr2
        go_enter Tryd.func33, Tryd.ntmps33
        go_wp2_with fail
        refine c1.mono ?_
        rintro x w1 ⟨rfl, rfl⟩
        go_wp2_with fail
        refine (cF _).mono ?_
        rintro e w2 ⟨rfl, f2⟩
        clear c1 cF
        go_wp2_with fail
        refine (c2 _ ((h.fr f0).fr f2)).mono ?_
        rintro x w3 ⟨rfl, rfl⟩
        have hz := (EvB.new w ⟨0, 0, 0, 0, 0, 0, 0, 0⟩).keep f2 (by simp)
        obtain ⟨b0, b1, b2, b3, b4, b5, b6, b7⟩ := hz.at
        have z := hz.free
        have hz2 := hz.set8 ⟨0, 0, 0, 0, 0, 0, 0, 0⟩
        have gz := grown_st8 w3 w.heap.size (.int .i64 0) (.int .i64 0) (.int .i64 0) (.int .i64 0) (.int .i64 0) (.int .i64 0) (.int .i64 0) (.int .i64 0)
        go_wp2_with fail
        obtain ⟨d0, d1, d2, d3, d4, d5, d6, d7⟩ := hz2.at
        exact bodyPost_ret (v := .tuple #[.agg #[.int .i64 0, .int .i64 0, .int .i64 0, .int .i64 0, .int .i64 0, .int .i64 0, .int .i64 0, .int .i64 0], .int .i64 (q : Int), .int .i64 2]) (by simp [results, Tryd.results33, go_sem, d0, d1, d2, d3, d4, d5, d6, d7]) rfl ⟨(f0.trans f2).then gz (fun j hj => by simp only [Option.some.injEq] at hj; omega), .inr ⟨2, _, HE.out, .inl rfl, rfl⟩⟩
      | some gq =>
        obtain ⟨g, q2⟩ := gq
        rw [rdV_some hr2] at c2
        simp only [rdT] at c2
        have hq2 := (rdN_lt hu hr2).2
        have HS : Hid (RE bs k q 0 q2 g [0, 0, 0, 0, 0, 0]) := RE.start hr2
        have HR : Hid (rdN bs p = some (k, q)) := hr
        obtain ⟨g0, g1, -, -⟩ := rdN_some hu hr2
        clear hr hr2
        go_enter Tryd.func33, Tryd.ntmps33
        go_wp2_with fail
        refine c1.mono ?_
        rintro x w1 ⟨rfl, rfl⟩
        go_wp2_with fail
        refine (cF _).mono ?_
        rintro e w2 ⟨rfl, f2⟩
        clear c1 cF
        go_wp2_with fail
        refine (c2 _ ((h.fr f0).fr f2)).mono ?_
        rintro x w3 ⟨rfl, rfl⟩
        have hz := (EvB.new w ⟨0, 0, 0, 0, 0, 0, 0, 0⟩).keep f2 (by simp)
        have f3 := f0.trans f2
        clear c2 f2 f0
        obtain ⟨i0, hi, hz0, hz1, hz2⟩ := info_parts Tryd.info2
        have hB := hz.lt
        go_wp2_with (at_make; refine wpList_make_full _ rfl _ _ 36 rfl w3.heap.size 2 i0 (.int .i64 0) 1 Tryd.underlying36 hi hz0 hz1 .i64 .i64 _ _ 6 rfl rfl rfl rfl (by rw [hz2]; omega) (by unfold maxLen; omega) (Nat.le_refl _) ?_; intro w4 hown hgrow)
        simp only [toList_madeCells_one, Value.cells] at hown
        have hO : OwnI w4 w3.heap.size (.slice (some ⟨w3.heap.size, 0, none⟩) 6 6) [0, 0, 0, 0, 0, 0] := ⟨by simpa using hown, by simp, by intro x hx; simp at hx; subst hx; exact ⟨by decide, by decide⟩⟩
        have hz := hz.keep hgrow (by simp)
        have f4 : Fr w w4 := f3.trans hgrow
        obtain ⟨B, hBB⟩ : ∃ B, B = w3.heap.size := ⟨_, rfl⟩
        rw [← hBB] at hO hB
        simp only [← hBB]
        clear hi hz0 hz1 hz2 hown hgrow f3 hBB
        go_loopw [1, 11] (fun a i wr => ∃ (j pj : Nat) (fs : List Int), j ≤ 6 ∧ i = .int .i64 (j : Int) ∧ a = .int .i64 (pj : Int) ∧ pj ≤ bs.length ∧ OwnI wr B (.slice (some ⟨B, 0, none⟩) 6 6) fs ∧ Hid (RE bs k q j pj g fs) ∧ EvB wr w.heap.size ⟨0, 0, 0, 0, 0, 0, 0, 0⟩ ∧ Fr w wr) (fun _ i _ => 6 - (intOf i).toNat)
        case atStart => exact ⟨0, q2, _, by omega, rfl, rfl, hq2, hO, HS, hz, f4⟩
        case round =>
          obtain ⟨j, pj, fs, hj, rfl, rfl, hpj, ho, HRE, hzz, hf⟩ := hrel
          clear hO HS hz f4
          have hfl := HRE.out.2.1
          by_cases hlt : j < 6
          · have cH := fun w => l3Has_any k j hlt w
            cases hh : hasB k (2 ^ j)
            · rw [hh] at cH
              have HN : Hid (RE bs k q (j + 1) pj g fs) := HRE.out.no hlt hh
              clear hh HRE hfl
              go_wp2_with fail
              refine (cH _).mono ?_
              rintro e w5 ⟨rfl, f5⟩
              go_wp2_with fail
              go_roundw
              case rel => exact ⟨j + 1, pj, fs, by omega, by go_num, rfl, hpj, ⟨ho.1.kept f5 (by simp [Value.ownBlock]), ho.2⟩, HN, hzz.keep f5 (by simp), hf.trans f5⟩
              case measure => simp [intOf]; omega
            · rw [hh] at cH
              have cN := fun w h => cR pj hpj w h
              cases hrn : rdN bs pj with
              | none =>
                rw [rdV_none hrn] at cN
                simp only [rdT] at cN
                have HE : Hid (rdEv bs p = .error 2) := rdEv_seq HR.out HK.out (HRE.out.stop hlt hh hrn)
                clear hh HRE hfl hrn cR
                go_wp2_with fail
                refine (cH _).mono ?_
                rintro e w5 ⟨rfl, f5⟩
                have hzz := hzz.keep f5 (by simp)
                have hf := hf.trans f5
                clear cH f5
                go_wp2_with fail
                refine (cN _ (h.fr hf)).mono ?_
                rintro x w6 ⟨rfl, rfl⟩
                obtain ⟨b0, b1, b2, b3, b4, b5, b6, b7⟩ := hzz.at
                have z := hzz.free
                have hz2 := hzz.set8 ⟨0, 0, 0, 0, 0, 0, 0, 0⟩
                have gz := grown_st8 w6 w.heap.size (.int .i64 0) (.int .i64 0) (.int .i64 0) (.int .i64 0) (.int .i64 0) (.int .i64 0) (.int .i64 0) (.int .i64 0)
                go_wp2_with fail
                obtain ⟨d0, d1, d2, d3, d4, d5, d6, d7⟩ := hz2.at
                exact bodyPost_ret (v := .tuple #[.agg #[.int .i64 0, .int .i64 0, .int .i64 0, .int .i64 0, .int .i64 0, .int .i64 0, .int .i64 0, .int .i64 0], .int .i64 (pj : Int), .int .i64 2]) (by simp [results, Tryd.results33, go_sem, d0, d1, d2, d3, d4, d5, d6, d7]) rfl ⟨hf.then gz (fun j hj => by simp only [Option.some.injEq] at hj; omega), .inr ⟨2, _, HE.out, .inl rfl, rfl⟩⟩
              | some nq =>
                obtain ⟨m, pn⟩ := nq
                rw [rdV_some hrn] at cN
                simp only [rdT] at cN
                have hpn := (rdN_lt hu hrn).2
                obtain ⟨m0, m1, -, -⟩ := rdN_some hu hrn
                have HN : Hid (RE bs k q (j + 1) pn g (fs.set j m)) := HRE.out.yes hlt hh hrn ⟨by omega, by omega⟩
                clear hh HRE hrn
                go_wp2_with fail
                refine (cH _).mono ?_
                rintro e w5 ⟨rfl, f5⟩
                have hzz := hzz.keep f5 (by simp)
                have hf := hf.trans f5
                have ho : OwnI w5 B (.slice (some ⟨B, 0, none⟩) 6 6) fs := ⟨ho.1.kept f5 (by simp [Value.ownBlock]), ho.2⟩
                clear cH f5
                go_wp2_with fail
                refine (cN _ (h.fr hf)).mono ?_
                rintro x w6 ⟨rfl, rfl⟩
                have ho1 := ho.1
                rw [hfl] at ho1
                have hce := ho1.cellAt j (by omega)
                rw [List.getElem?_map, List.getElem?_eq_getElem (by omega)] at hce
                have hfz := ho1.frozenAt j
                clear ho1
                have hst := ownI_st ho hfl.symm j m ⟨by omega, by omega⟩
                clear cN ho
                go_wp2_with fail
                go_roundw
                case rel => exact ⟨j + 1, pn, fs.set j m, by omega, by go_num, rfl, hpn, hst.1, HN, hzz.keep hst.2 (by simp; omega), hf.then hst.2 (fun j hj => by simp only [Option.some.injEq] at hj; omega)⟩
                case measure => simp [intOf]; omega
          · have ej : j = 6 := by omega
            have HF : Hid (rdSeq bs (offs k) q (ev0 k) = some (evOf k g fs, pj)) := by
              have := HRE.out
              rw [ej] at this
              exact this.fin
            clear HRE ej cR
            obtain ⟨a0, a1, a2, a3, a4, a5, rfl⟩ : ∃ a0 a1 a2 a3 a4 a5, fs = [a0, a1, a2, a3, a4, a5] := by
              match fs, hfl with
              | [a, b, c, d, e, f], _ => exact ⟨a, b, c, d, e, f, rfl⟩
            have HV : Hid (rdEv bs p = if evOk ⟨k, g, a0, a1, a2, a3, a4, a5⟩ then .ok (⟨k, g, a0, a1, a2, a3, a4, a5⟩, pj) else .error 3) := rdEv_fin HR.out HK.out HF.out
            have ho1 : wr.ownsRow B 2 1 (.slice (some ⟨B, 0, none⟩) 6 6) 6 _ := ho.1
            have e0 : wr.cell? ⟨B, 0, none⟩ = some (.int .i64 a0) := ho1.cellAt 0 (by omega)
            have e1 : wr.cell? ⟨B, 1, none⟩ = some (.int .i64 a1) := ho1.cellAt 1 (by omega)
            have e2 : wr.cell? ⟨B, 2, none⟩ = some (.int .i64 a2) := ho1.cellAt 2 (by omega)
            have e3 : wr.cell? ⟨B, 3, none⟩ = some (.int .i64 a3) := ho1.cellAt 3 (by omega)
            have e4 : wr.cell? ⟨B, 4, none⟩ = some (.int .i64 a4) := ho1.cellAt 4 (by omega)
            have e5 : wr.cell? ⟨B, 5, none⟩ = some (.int .i64 a5) := ho1.cellAt 5 (by omega)
            clear ho ho1 HF hfl
            have cO := fun w => specOk_any ⟨k, g, a0, a1, a2, a3, a4, a5⟩ w
            obtain ⟨O, hO⟩ : ∃ O, O = evOk ⟨k, g, a0, a1, a2, a3, a4, a5⟩ := ⟨_, rfl⟩
            rw [← hO] at HV
            simp only [← hO] at cO
            clear hO
            clear h hp hl hu k0 k1 hq HK hfk hq2 HR g0 g1 hpj
            go_wp2_with fail
            go_region_held3 (fun w' => w'.cell? ⟨B, 0, none⟩ = some (.int .i64 a0) ∧ w'.cell? ⟨B, 1, none⟩ = some (.int .i64 a1) ∧ w'.cell? ⟨B, 2, none⟩ = some (.int .i64 a2) ∧ w'.cell? ⟨B, 3, none⟩ = some (.int .i64 a3) ∧ w'.cell? ⟨B, 4, none⟩ = some (.int .i64 a4) ∧ w'.cell? ⟨B, 5, none⟩ = some (.int .i64 a5)) (go_keep) (fail)
            all_goals (
              go_wp2_with fail
              refine (cO _).mono ?_
              rintro x w6 ⟨rfl, f6⟩
              have fX : Fr wr w6 := ((Fr.alloc wr _).trans (Fr.drew _)).trans f6
              have hN : EvB w6 wr.heap.size ⟨k, g, a0, a1, a2, a3, a4, a5⟩ := EvB.keep (w := (wr.alloc (.cells #[.int .i64 k, .int .i64 g, .int .i64 a0, .int .i64 a1, .int .i64 a2, .int .i64 a3, .int .i64 a4, .int .i64 a5] 49)).drew) (EvB.new wr ⟨k, g, a0, a1, a2, a3, a4, a5⟩) f6 (by simp)
              have hZ := hzz.keep fX (by simp)
              have hf := hf.trans fX
              clear hzz cO f6 fX e0 e1 e2 e3 e4 e5
              obtain ⟨b0, b1, b2, b3, b4, b5, b6, b7⟩ := hZ.at
              have z := hZ.free
              cases O
              · have HE : Hid (rdEv bs p = .error 3) := by
                  have := HV.out
                  show _ = _
                  simpa using this
                have hz2 := hZ.set8 ⟨0, 0, 0, 0, 0, 0, 0, 0⟩
                have gz := grown_st8 w6 w.heap.size (.int .i64 0) (.int .i64 0) (.int .i64 0) (.int .i64 0) (.int .i64 0) (.int .i64 0) (.int .i64 0) (.int .i64 0)
                clear HV hN
                go_wp2_with fail
                obtain ⟨d0, d1, d2, d3, d4, d5, d6, d7⟩ := hz2.at
                exact bodyPost_ret (v := .tuple #[.agg #[.int .i64 0, .int .i64 0, .int .i64 0, .int .i64 0, .int .i64 0, .int .i64 0, .int .i64 0, .int .i64 0], .int .i64 (pj : Int), .int .i64 3]) (by simp [results, Tryd.results33, go_sem, d0, d1, d2, d3, d4, d5, d6, d7]) rfl ⟨hf.then gz (fun j hj => by simp only [Option.some.injEq] at hj; omega), .inr ⟨3, _, HE.out, .inr rfl, rfl⟩⟩
              · have HE : Hid (rdEv bs p = .ok (⟨k, g, a0, a1, a2, a3, a4, a5⟩, pj)) := by
                  have := HV.out
                  show _ = _
                  simpa using this
                obtain ⟨x0, x1, x2, x3, x4, x5, x6, x7⟩ := hN.at
                simp only at x0 x1 x2 x3 x4 x5 x6 x7
                have hz2 := hZ.set8 ⟨k, g, a0, a1, a2, a3, a4, a5⟩
                have gz := grown_st8 w6 w.heap.size (.int .i64 k) (.int .i64 g) (.int .i64 a0) (.int .i64 a1) (.int .i64 a2) (.int .i64 a3) (.int .i64 a4) (.int .i64 a5)
                clear HV hN
                go_wp2_with fail
                obtain ⟨d0, d1, d2, d3, d4, d5, d6, d7⟩ := hz2.at
                simp only at d0 d1 d2 d3 d4 d5 d6 d7
                exact bodyPost_ret (v := .tuple #[.agg #[.int .i64 k, .int .i64 g, .int .i64 a0, .int .i64 a1, .int .i64 a2, .int .i64 a3, .int .i64 a4, .int .i64 a5], .int .i64 (pj : Int), .int .i64 0]) (by simp [results, Tryd.results33, go_sem, d0, d1, d2, d3, d4, d5, d6, d7]) rfl ⟨hf.then gz (fun j hj => by simp only [Option.some.injEq] at hj; omega), .inl ⟨_, _, HE.out, rfl⟩⟩)
end Go.Proofs.YtnekojcgbokhpaaDoor
