/-
  Texts in one.
-/
import Derived.Test.YtcofhmikdkkigaaGreatDoorPsC
import Derived.Test.YtcofhmikdkkigaaGreatDoorPsB
import Derived.Test.YtcofhmikdkkigaaGreatDoorPsA
import Derived.Test.YtcofhmikdkkigaaGreatDoorPrBE
import Derived.Test.YtcofhmikdkkigaaGreatDoorPrAA
import Derived.BigQuiet
import Derived.Deep.Cut
namespace Go.Proofs.YtcofhmikdkkigaaGreatDoor
open Go.RowKit

def RI (gb off n c I J R g1 L c1 N : Nat) (sv : Value) (ps : List (Int × Int)) (W : World) (B : Nat) : Nat → Value → World → Prop
  | 0, v, _ => v = .pointer (some ⟨R, 1, none⟩)
  | 1, v, _ => v = .int .i64 (J : Int)
  | 2, v, _ => v = .slice (some ⟨g1, 0, none⟩) L c1
  | 3, v, _ => v = .int .i64 (L : Int)
  | 4, v, _ => v = .bool true
  | 5, v, _ => v = .bool true
  | 6, v, _ => v = .slice (some ⟨gb, off, none⟩) n c
  | 7, v, _ => v = .pointer (some ⟨R, 1, none⟩)
  | 8, v, _ => v = .int .i64 (J : Int)
  | 9, v, _ => v = .slice (some ⟨g1, 0, none⟩) L c1
  | 10, v, _ => v = .pointer (some ⟨R, 1, none⟩)
  | 11, v, _ => v = .int .i64 (J : Int)
  | 12, v, _ => v = .pointer (some ⟨g1, J * 10, none⟩)
  | 13, v, _ => v = .pointer (some ⟨g1, J * 10 + 5, none⟩)
  | 14, v, _ => v = .agg #[.int .u64 (wd (N) 0), .int .u64 (wd (N) 1), .int .u64 (wd (N) 2), .int .u64 (wd (N) 3), .int .u64 (wd (N) 4)]
  | 17, v, _ => v = .agg #[.int .i64 (I : Int), .int .i64 (J : Int)]
  | 18, v, _ => v = .bool (hasP ps I J)
  | 15, v, u => v = sv ∧ Fr W u
  | 16, v, u => OwnG layPr u B v ps
  | _, _, _ => True
def CI (S : Nat → Prop) (W : World) (L : Nat → Bool) (u : World) : Prop := FrS S W u ∧ (L 16 = false → Fr W u)
theorem CI.fr {S : Nat → Prop} {W : World} {L : Nat → Bool} {u u' : World} {i : Nat} (h : CI S W L u) (hi : i ≠ 16) (f : Fr u u') : CI S W (cameL L i) u' := by
  refine ⟨FrS.trans h.1 (frS_fr f), fun q => (h.2 ?_).trans f⟩
  unfold cameL at q
  rwa [if_neg (Ne.symm hi)] at q
theorem CI.same {S : Nat → Prop} {W : World} {L : Nat → Bool} {u : World} {i : Nat} (h : CI S W L u) (hi : i ≠ 16) : CI S W (cameL L i) u := h.fr hi (Fr.refl _)
def dstI (i : Nat) : Nat := i + 47
def consI (i : Nat) : Nat := [1, 4, 3, 4, 5, 19, 16, 8, 16, 12, 11, 12, 13, 14, 16, 16, 18, 18, 19].getD i 0
theorem RI_fr {gb off n c I J R g1 L c1 N : Nat} {sv : Value} {ps : List (Int × Int)} {W : World} {B : Nat} {q : Nat} {x : Value} {u u' : World} (hq : q < 19) (h : RI gb off n c I J R g1 L c1 N sv ps W B q x u) (f : Fr u u') : RI gb off n c I J R g1 L c1 N sv ps W B q x u' := by
  rcases q with _ | _ | _ | _ | _ | _ | _ | _ | _ | _ | _ | _ | _ | _ | _ | _ | _ | _ | _ | q
  · exact h
  · exact h
  · exact h
  · exact h
  · exact h
  · exact h
  · exact h
  · exact h
  · exact h
  · exact h
  · exact h
  · exact h
  · exact h
  · exact h
  · exact h
  · exact ⟨h.1, h.2.trans f⟩
  · exact OwnG.fr h f
  · exact h
  · exact h
  · omega
theorem RI_past {gb off n c I J R g1 L c1 N : Nat} {sv : Value} {ps : List (Int × Int)} {W : World} {B : Nat} {q : Nat} {x : Value} {u u' : World} (hq : q < 19) (h1 : q ≠ 16) (h2 : consI q ≠ 16) (h : RI gb off n c I J R g1 L c1 N sv ps W B q x u) : RI gb off n c I J R g1 L c1 N sv ps W B q x u' := by
  rcases q with _ | _ | _ | _ | _ | _ | _ | _ | _ | _ | _ | _ | _ | _ | _ | _ | _ | _ | _ | q
  · exact h
  · exact h
  · exact h
  · exact h
  · exact h
  · exact h
  · exact absurd rfl h2
  · exact h
  · exact absurd rfl h2
  · exact h
  · exact h
  · exact h
  · exact h
  · exact h
  · exact absurd rfl h2
  · exact absurd rfl h2
  · exact absurd rfl h1
  · exact h
  · exact h
  · omega

set_option maxRecDepth 20000 in
set_option maxHeartbeats 4000000 in
theorem isPair_in (gb off n c : Nat) (es : List Ev) (I J : Nat) (sv : Value) (w : World) (S : Nat → Prop) (ps : List (Int × Int)) (N : Nat) (hn : es.length = n) (hn3 : n ≤ 300) (hnc : n ≤ c) (h : ReadsE w (some ⟨gb, off, none⟩) es) (hS : ∀ b, S b → b < w.heap.size) (hJ : J < n) (hI : I < J)
    (cla : Bool) (hcl : claB (evA es I) (evA es J) = cla) (hs : Shapes w) (L : Nat)
    (cR : ∀ W, Fr w W → Calls Tryz.prog 130 #[.slice (some ⟨gb, off, none⟩) (J + 1) c] W fun x w' => ∃ g cap, x = .returned (.slice (some ⟨g, 0, none⟩) L cap) ∧ (J < L → PsC w' g (J * 10 + 5) N) ∧ W.heap.size ≤ g ∧ g < w'.heap.size ∧ Fr W w')
    (cI : J < L → ∀ u, Fr w u → Calls Tryz.prog 131 #[.slice (some ⟨gb, off, none⟩) n c, .int .i64 (J : Int), .agg #[.int .u64 (wd (N) 0), .int .u64 (wd (N) 1), .int .u64 (wd (N) 2), .int .u64 (wd (N) 3), .int .u64 (wd (N) 4)], sv] u fun x w' => ∃ y, x = .returned y ∧ OwnG layPr w' u.heap.size y ps ∧ FrS S u w') :
    Calls Tryz.prog 82 #[.slice (some ⟨gb, off, none⟩) n c, .agg #[.int .i64 (I : Int), .int .i64 (J : Int)], sv] w fun x w' => x = .returned (.bool (cla && (decide (J < L) && hasP ps I J))) ∧ FrS S w w' := by
  obtain ⟨D, HD⟩ : ∃ D, Hid (D = (cla && (decide (J < L) && hasP ps I J))) := ⟨_, rfl⟩
  rw [← HD.out]
  have f0 := Fr.alloc w (.cells #[.int .i64 (I : Int), .int .i64 (J : Int)] 51)
  have k0 := heap_alloc_new w (.cells #[.int .i64 (I : Int), .int .i64 (J : Int)] 51)
  have cT := fun u => isTrace_any (some ⟨gb, off, none⟩) n c u
  have e2 : decide ((n : Int) ≤ 300) = true := by simp; omega
  simp only [e2] at cT
  have c1 := fun u => within_any (J : Int) 0 ((n : Int) - 1) u
  have c2 := fun u => within_any (I : Int) 0 ((J : Int) - 1) u
  rw [inB_mk (by omega) (by omega)] at c1 c2
  have cC := fun u (f : Fr w u) => implCla_any (evA es I) (evA es J) u (hs.fr f)
  rw [hcl] at cC
  have hJc : (J : Int) + 1 ≤ c := by omega
  have HE : Hid (∀ u, Fr w u → EvC u gb (off + I * 8) (evA es I) ∧ EvC u gb (off + J * 8) (evA es J)) := fun u f => by
    obtain ⟨b, o, e, hc⟩ := (h.fr f).at_ I (by omega)
    obtain ⟨b', o', e', hc'⟩ := (h.fr f).at_ J (by omega)
    cases e
    cases e'
    rw [evA_at (by omega), evA_at (by omega)]
    exact ⟨hc I (by omega), hc' J (by omega)⟩
  obtain ⟨eI, hI2⟩ : ∃ e, e = evA es I := ⟨_, rfl⟩
  obtain ⟨eJ, hJ2⟩ : ∃ e, e = evA es J := ⟨_, rfl⟩
  rw [← hI2] at cC HE
  rw [← hJ2] at cC HE
  clear hI2 hJ2 hcl
  go_enter Tryz.func82, Tryz.ntmps82
  go_upto_region 1 with fail
  obtain ⟨U, hU⟩ : ∃ U, U = w.alloc (.cells #[.int .i64 (I : Int), .int .i64 (J : Int)] 51) := ⟨_, rfl⟩
  rw [← hU] at f0 k0 ⊢
  clear hU
  obtain ⟨R, hR⟩ : ∃ R, R = w.heap.size := ⟨_, rfl⟩
  have HR : Hid (R = w.heap.size) := hR
  rw [← hR] at k0 ⊢
  clear hR
  have HB : Hid (∀ u, Fr U u → u.cell? ⟨R, 0, none⟩ = some (.int .i64 (I : Int)) ∧ u.cell? ⟨R, 1, none⟩ = some (.int .i64 (J : Int))) := fun u f => ⟨f.cell (by rw [cell_of_row _ _ _ _ _ _ k0]; rfl), f.cell (by rw [cell_of_row _ _ _ _ _ _ k0]; rfl)⟩
  clear k0
  obtain ⟨b0, b1⟩ := HB.out U (Fr.refl _)
  go_wp2_with fail
  refine (cT _).mono ?_
  rintro e u1 ⟨rfl, rfl⟩
  go_wp2_with fail
  refine (c1 _).mono ?_
  rintro e u2 ⟨rfl, rfl⟩
  go_wp2_with fail
  refine (c2 _).mono ?_
  rintro e u3 ⟨rfl, rfl⟩
  clear c1 c2 cT b0 b1
  have x0 := fun σ : Later u3 => (HB.out σ.u σ.fr).1
  have x1 := fun σ : Later u3 => (HB.out σ.u σ.fr).2
  have p0 := fun σ : Later u3 => (HE.out σ.u (f0.trans σ.fr)).1.c0
  have p1 := fun σ : Later u3 => (HE.out σ.u (f0.trans σ.fr)).1.c1
  have p2 := fun σ : Later u3 => (HE.out σ.u (f0.trans σ.fr)).1.c2
  have p3 := fun σ : Later u3 => (HE.out σ.u (f0.trans σ.fr)).1.c3
  have p4 := fun σ : Later u3 => (HE.out σ.u (f0.trans σ.fr)).1.c4
  have p5 := fun σ : Later u3 => (HE.out σ.u (f0.trans σ.fr)).1.c5
  have p6 := fun σ : Later u3 => (HE.out σ.u (f0.trans σ.fr)).1.c6
  have p7 := fun σ : Later u3 => (HE.out σ.u (f0.trans σ.fr)).1.c7
  have r0 := fun σ : Later u3 => (HE.out σ.u (f0.trans σ.fr)).2.c0
  have r1 := fun σ : Later u3 => (HE.out σ.u (f0.trans σ.fr)).2.c1
  have r2 := fun σ : Later u3 => (HE.out σ.u (f0.trans σ.fr)).2.c2
  have r3 := fun σ : Later u3 => (HE.out σ.u (f0.trans σ.fr)).2.c3
  have r4 := fun σ : Later u3 => (HE.out σ.u (f0.trans σ.fr)).2.c4
  have r5 := fun σ : Later u3 => (HE.out σ.u (f0.trans σ.fr)).2.c5
  have r6 := fun σ : Later u3 => (HE.out σ.u (f0.trans σ.fr)).2.c6
  have r7 := fun σ : Later u3 => (HE.out σ.u (f0.trans σ.fr)).2.c7
  have hne := Later.some u3
  have cC1 := fun σ : Later u3 => cC σ.u (f0.trans σ.fr)
  go_wp2_with fail
  refine wp_region_grown (by kernel_rfl) (by kernel_rfl) ?_
  repeat (go_big_quiet_step (first | with_reducible exact Calls.grown_of (cC1 _)))
  refine wpQuiet_nil ?_
  rintro _ ⟨σ, rfl⟩
  clear x0 x1 p0 p1 p2 p3 p4 p5 p6 p7 r0 r1 r2 r3 r4 r5 r6 r7 hne cC cC1
  have FV := σ.fr
  obtain ⟨V, hV⟩ : ∃ V, V = σ.u := ⟨_, rfl⟩
  rw [← hV] at FV ⊢
  clear hV σ
  cases cla
  · have hD : D = false := by rw [HD.out]; rfl
    subst hD
    go_wp2_with fail
    go_ret
    exact ⟨rfl, frS_fr (f0.trans FV)⟩
  obtain ⟨b0, b1⟩ := HB.out V FV
  go_wp2_with fail
  refine (cR _ (f0.trans FV)).mono ?_
  rintro e u4 ⟨g1, c1, rfl, HK, hg1, hg2, f4⟩
  have HK : Hid _ := HK
  have F4 := FV.trans f4
  clear b0 b1 cR
  have hgR : ¬ S R := fun q => by have := hS R q; have := HR.out; omega
  have hgG : ¬ S g1 := fun q => by have := hS g1 q; have h1 := (f0.trans FV).size; omega
  have hgR : ¬ S R := fun q => by have := hS R q; have := HR.out; omega
  have hgG : ¬ S g1 := fun q => by have := hS g1 q; have h1 := (f0.trans FV).size; omega
  have hgR : ¬ S R := fun q => by have := hS R q; have := HR.out; omega
  have hgG : ¬ S g1 := fun q => by have := hS g1 q; have h1 := (f0.trans FV).size; omega
  have hgR : ¬ S R := fun q => by have := hS R q; have := HR.out; omega
  have hgG : ¬ S g1 := fun q => by have := hS g1 q; have h1 := (f0.trans FV).size; omega
  have hgR : ¬ S R := fun q => by have := hS R q; have := HR.out; omega
  have hgG : ¬ S g1 := fun q => by have := hS g1 q; have h1 := (f0.trans FV).size; omega
  have hgR : ¬ S R := fun q => by have := hS R q; have := HR.out; omega
  have hgG : ¬ S g1 := fun q => by have := hS g1 q; have h1 := (f0.trans FV).size; omega
  by_cases hJL : J < L
  · have hDv : D = hasP ps I J := by rw [HD.out, decide_eq_true hJL]; simp
    subst hDv
    have hk := HK.out hJL
    have HQ : Hid (∀ u, FrS S u4 u → u.cell? ⟨R, 0, none⟩ = some (.int .i64 (I : Int)) ∧ u.cell? ⟨R, 1, none⟩ = some (.int .i64 (J : Int)) ∧ u.cell? ⟨g1, J * 10 + 5, none⟩ = some (.int .u64 (wd N 0)) ∧ u.cell? ⟨g1, J * 10 + 6, none⟩ = some (.int .u64 (wd N 1)) ∧ u.cell? ⟨g1, J * 10 + 7, none⟩ = some (.int .u64 (wd N 2)) ∧ u.cell? ⟨g1, J * 10 + 8, none⟩ = some (.int .u64 (wd N 3)) ∧ u.cell? ⟨g1, J * 10 + 9, none⟩ = some (.int .u64 (wd N 4))) := fun u f =>
      ⟨f.cell (HB.out u4 F4).1 hgR, f.cell (HB.out u4 F4).2 hgR, f.cell (hk 0 (by omega)) hgG, f.cell (hk 1 (by omega)) hgG, f.cell (hk 2 (by omega)) hgG, f.cell (hk 3 (by omega)) hgG, f.cell (hk 4 (by omega)) hgG⟩
    clear hk
    have cI' := fun u (f : Fr u4 u) => cI hJL u ((f0.trans F4).trans f)
    have hJi : (J : Int) < (L : Int) := by omega
    go_wp2_with fail
    refine wp_region_late2 19 dstI consI (fun X => { tmps := #[.slice (some ⟨gb, off, none⟩) n c, .agg #[.int .i64 (I : Int), .int .i64 (J : Int)], sv, undef, .pointer (some ⟨R, 0, none⟩), undef, .bool false, .slice (some ⟨g1, 0, none⟩) L c1, .slice (some ⟨gb, off, none⟩) n c, .bool true, .bool false, .bool false, .pointer (some ⟨R, 1, none⟩), .int .i64 (J : Int), .slice (some ⟨gb, off, none⟩) n c, .int .i64 (n : Int), .int .i64 ((n : Int) - 1), .bool true, .bool false, .bool false, .bool false, .pointer (some ⟨R, 0, none⟩), .int .i64 (I : Int), .pointer (some ⟨R, 1, none⟩), .int .i64 (J : Int), .int .i64 ((J : Int) - 1), .bool true, .bool false, .bool false, .slice (some ⟨gb, off, none⟩) n c, .pointer (some ⟨R, 0, none⟩), .int .i64 (I : Int), .pointer (some ⟨gb, off + I * 8, none⟩), .agg #[.int .i64 eI.k, .int .i64 eI.g, .int .i64 eI.o, .int .i64 eI.w, .int .i64 eI.l, .int .i64 eI.s, .int .i64 eI.f, .int .i64 eI.t], .slice (some ⟨gb, off, none⟩) n c, .pointer (some ⟨R, 1, none⟩), .int .i64 (J : Int), .pointer (some ⟨gb, off + J * 8, none⟩), .agg #[.int .i64 eJ.k, .int .i64 eJ.g, .int .i64 eJ.o, .int .i64 eJ.w, .int .i64 eJ.l, .int .i64 eJ.s, .int .i64 eJ.f, .int .i64 eJ.t], .bool true, .bool !true, .slice (some ⟨gb, off, none⟩) n c, .pointer (some ⟨R, 1, none⟩), .int .i64 (J : Int), .int .i64 ((J : Int) + 1), .slice (some ⟨gb, off, none⟩) (J + 1) c, .slice (some ⟨g1, 0, none⟩) L c1, X 47, X 48, X 49, X 50, X 51, X 52, X 53, X 54, X 55, X 56, X 57, X 58, X 59, X 60, X 61, X 62, X 63, X 64, X 65, undef], defers := [] }) (RI gb off n c I J R g1 L c1 N sv ps u4 u4.heap.size) (CI S u4) ⟨frS_fr (Fr.drew u4), fun _ => Fr.drew u4⟩ (by kernel_rfl) (by kernel_rfl) (by kernel_rfl) (by kernel_rfl) (by kernel_rfl) (dst_of (by kernel_rfl)) (by kernel_rfl) (fun _ => undef) rfl ?_ ?_
    · intro i o X u LL hi ho CU hLi hLc hX hG
      obtain ⟨b0, b1, k0, k1, k2, k3, k4⟩ := HQ.out u CU.1
      rcases i with _ | _ | _ | _ | _ | _ | _ | _ | _ | _ | _ | _ | _ | _ | _ | _ | _ | _ | _ | i
      · simp only [List.getElem?_toArray, List.getElem?_cons_zero, Option.some.injEq] at ho
        subst ho
        refine ⟨by simp [Region.wanted], ?_⟩
        go_simp
        refine ⟨.pointer (some ⟨R, 1, none⟩), by simp [upd, dstI], ?_⟩
        first | exact ⟨CU.same (by omega), rfl⟩ | exact ⟨CU.same (by omega), rfl, fun _ _ _ _ _ h => h⟩
      · simp only [List.getElem?_toArray, List.getElem?_cons_succ, List.getElem?_cons_zero, Option.some.injEq] at ho
        subst ho
        refine ⟨by simp [Region.wanted], ?_⟩
        have e0 : X 47 = _ := hX 0 (by omega) rfl
        go_simp
        refine ⟨.int .i64 (J : Int), by simp [upd, dstI, e0], ?_⟩
        first | exact ⟨CU.same (by omega), rfl⟩ | exact ⟨CU.same (by omega), rfl, fun _ _ _ _ _ h => h⟩
      · simp only [List.getElem?_toArray, List.getElem?_cons_succ, List.getElem?_cons_zero, Option.some.injEq] at ho
        subst ho
        refine ⟨by simp [Region.wanted], ?_⟩
        go_simp
        refine ⟨.slice (some ⟨g1, 0, none⟩) L c1, by simp [upd, dstI], ?_⟩
        first | exact ⟨CU.same (by omega), rfl⟩ | exact ⟨CU.same (by omega), rfl, fun _ _ _ _ _ h => h⟩
      · simp only [List.getElem?_toArray, List.getElem?_cons_succ, List.getElem?_cons_zero, Option.some.injEq] at ho
        subst ho
        refine ⟨by simp [Region.wanted], ?_⟩
        have e2 : X 49 = _ := hX 2 (by omega) rfl
        go_simp
        refine ⟨.int .i64 (L : Int), by simp [upd, dstI, e2], ?_⟩
        first | exact ⟨CU.same (by omega), rfl⟩ | exact ⟨CU.same (by omega), rfl, fun _ _ _ _ _ h => h⟩
      · simp only [List.getElem?_toArray, List.getElem?_cons_succ, List.getElem?_cons_zero, Option.some.injEq] at ho
        subst ho
        refine ⟨by simp [Region.wanted], ?_⟩
        have e1 : X 48 = _ := hX 1 (by omega) rfl
        have e3 : X 50 = _ := hX 3 (by omega) rfl
        go_simp
        refine ⟨.bool true, by simp [upd, dstI, e1, e3], ?_⟩
        first | exact ⟨CU.same (by omega), rfl⟩ | exact ⟨CU.same (by omega), rfl, fun _ _ _ _ _ h => h⟩
      · simp only [List.getElem?_toArray, List.getElem?_cons_succ, List.getElem?_cons_zero, Option.some.injEq] at ho
        subst ho
        refine ⟨by simp [Region.wanted], ?_⟩
        have e4 : X 51 = _ := hX 4 (by omega) rfl
        go_simp
        refine ⟨.bool true, by simp [upd, dstI, e4], ?_⟩
        first | exact ⟨CU.same (by omega), rfl⟩ | exact ⟨CU.same (by omega), rfl, fun _ _ _ _ _ h => h⟩
      · simp only [List.getElem?_toArray, List.getElem?_cons_succ, List.getElem?_cons_zero, Option.some.injEq] at ho
        subst ho
        have e5 : X 52 = .bool true := hG 5 (by omega) rfl (by kernel_rfl)
        refine ⟨by simp [Region.wanted, yielded, e5], ?_⟩
        go_simp
        refine ⟨.slice (some ⟨gb, off, none⟩) n c, by simp [upd, dstI, e5], ?_⟩
        first | exact ⟨CU.same (by omega), rfl⟩ | exact ⟨CU.same (by omega), rfl, fun _ _ _ _ _ h => h⟩
      · simp only [List.getElem?_toArray, List.getElem?_cons_succ, List.getElem?_cons_zero, Option.some.injEq] at ho
        subst ho
        have e5 : X 52 = .bool true := hG 5 (by omega) rfl (by kernel_rfl)
        refine ⟨by simp [Region.wanted, yielded, e5], ?_⟩
        go_simp
        refine ⟨.pointer (some ⟨R, 1, none⟩), by simp [upd, dstI, e5], ?_⟩
        first | exact ⟨CU.same (by omega), rfl⟩ | exact ⟨CU.same (by omega), rfl, fun _ _ _ _ _ h => h⟩
      · simp only [List.getElem?_toArray, List.getElem?_cons_succ, List.getElem?_cons_zero, Option.some.injEq] at ho
        subst ho
        have e5 : X 52 = .bool true := hG 5 (by omega) rfl (by kernel_rfl)
        refine ⟨by simp [Region.wanted, yielded, e5], ?_⟩
        have e7 : X 54 = _ := hX 7 (by omega) rfl
        go_simp
        refine ⟨.int .i64 (J : Int), by simp [upd, dstI, e7, e5], ?_⟩
        first | exact ⟨CU.same (by omega), rfl⟩ | exact ⟨CU.same (by omega), rfl, fun _ _ _ _ _ h => h⟩
      · simp only [List.getElem?_toArray, List.getElem?_cons_succ, List.getElem?_cons_zero, Option.some.injEq] at ho
        subst ho
        have e5 : X 52 = .bool true := hG 5 (by omega) rfl (by kernel_rfl)
        refine ⟨by simp [Region.wanted, yielded, e5], ?_⟩
        go_simp
        refine ⟨.slice (some ⟨g1, 0, none⟩) L c1, by simp [upd, dstI, e5], ?_⟩
        first | exact ⟨CU.same (by omega), rfl⟩ | exact ⟨CU.same (by omega), rfl, fun _ _ _ _ _ h => h⟩
      · simp only [List.getElem?_toArray, List.getElem?_cons_succ, List.getElem?_cons_zero, Option.some.injEq] at ho
        subst ho
        have e5 : X 52 = .bool true := hG 5 (by omega) rfl (by kernel_rfl)
        refine ⟨by simp [Region.wanted, yielded, e5], ?_⟩
        go_simp
        refine ⟨.pointer (some ⟨R, 1, none⟩), by simp [upd, dstI, e5], ?_⟩
        first | exact ⟨CU.same (by omega), rfl⟩ | exact ⟨CU.same (by omega), rfl, fun _ _ _ _ _ h => h⟩
      · simp only [List.getElem?_toArray, List.getElem?_cons_succ, List.getElem?_cons_zero, Option.some.injEq] at ho
        subst ho
        have e5 : X 52 = .bool true := hG 5 (by omega) rfl (by kernel_rfl)
        refine ⟨by simp [Region.wanted, yielded, e5], ?_⟩
        have e10 : X 57 = _ := hX 10 (by omega) rfl
        go_simp
        refine ⟨.int .i64 (J : Int), by simp [upd, dstI, e10, e5], ?_⟩
        first | exact ⟨CU.same (by omega), rfl⟩ | exact ⟨CU.same (by omega), rfl, fun _ _ _ _ _ h => h⟩
      · simp only [List.getElem?_toArray, List.getElem?_cons_succ, List.getElem?_cons_zero, Option.some.injEq] at ho
        subst ho
        have e5 : X 52 = .bool true := hG 5 (by omega) rfl (by kernel_rfl)
        refine ⟨by simp [Region.wanted, yielded, e5], ?_⟩
        have e9 : X 56 = _ := hX 9 (by omega) rfl
        have e11 : X 58 = _ := hX 11 (by omega) rfl
        go_simp
        refine ⟨.pointer (some ⟨g1, J * 10, none⟩), by simp [upd, dstI, e9, e11, e5], ?_⟩
        first | exact ⟨CU.same (by omega), rfl⟩ | exact ⟨CU.same (by omega), rfl, fun _ _ _ _ _ h => h⟩
      · simp only [List.getElem?_toArray, List.getElem?_cons_succ, List.getElem?_cons_zero, Option.some.injEq] at ho
        subst ho
        have e5 : X 52 = .bool true := hG 5 (by omega) rfl (by kernel_rfl)
        refine ⟨by simp [Region.wanted, yielded, e5], ?_⟩
        have e12 : X 59 = _ := hX 12 (by omega) rfl
        go_simp
        refine ⟨.pointer (some ⟨g1, J * 10 + 5, none⟩), by simp [upd, dstI, e12, e5], ?_⟩
        first | exact ⟨CU.same (by omega), rfl⟩ | exact ⟨CU.same (by omega), rfl, fun _ _ _ _ _ h => h⟩
      · simp only [List.getElem?_toArray, List.getElem?_cons_succ, List.getElem?_cons_zero, Option.some.injEq] at ho
        subst ho
        have e5 : X 52 = .bool true := hG 5 (by omega) rfl (by kernel_rfl)
        refine ⟨by simp [Region.wanted, yielded, e5], ?_⟩
        have e13 : X 60 = _ := hX 13 (by omega) rfl
        go_simp
        refine ⟨.agg #[.int .u64 (wd (N) 0), .int .u64 (wd (N) 1), .int .u64 (wd (N) 2), .int .u64 (wd (N) 3), .int .u64 (wd (N) 4)], by simp [upd, dstI, e13, e5], ?_⟩
        first | exact ⟨CU.same (by omega), rfl⟩ | exact ⟨CU.same (by omega), rfl, fun _ _ _ _ _ h => h⟩
      · simp only [List.getElem?_toArray, List.getElem?_cons_succ, List.getElem?_cons_zero, Option.some.injEq] at ho
        subst ho
        have e5 : X 52 = .bool true := hG 5 (by omega) rfl (by kernel_rfl)
        refine ⟨by simp [Region.wanted, yielded, e5], ?_⟩
        have FUv := CU.2 hLc
        go_simp
        refine ⟨sv, by simp [upd, dstI, e5], ?_⟩
        first | exact ⟨CU.same (by omega), rfl, FUv⟩ | exact ⟨CU.same (by omega), ⟨rfl, FUv⟩, fun _ _ _ _ _ h => h⟩
      · simp only [List.getElem?_toArray, List.getElem?_cons_succ, List.getElem?_cons_zero, Option.some.injEq] at ho
        subst ho
        have e5 : X 52 = .bool true := hG 5 (by omega) rfl (by kernel_rfl)
        refine ⟨by simp [Region.wanted, yielded, e5], ?_⟩
        have e6 : X 53 = _ := hX 6 (by omega) rfl
        have e8 : X 55 = _ := hX 8 (by omega) rfl
        have e14 : X 61 = _ := hX 14 (by omega) rfl
        obtain ⟨e15, fu⟩ : X 62 = sv ∧ Fr u4 u := hX 15 (by omega) rfl
        have q := cI' u fu
        go_simp
        refine q.mono ?_
        rintro x u' ⟨y, rfl, o, f'⟩
        refine ⟨y, by simp [upd, dstI, e5, e6, e8, e14, e15], ⟨FrS.trans CU.1 f', fun q => by simp [cameL] at q⟩, ?_, fun k x h1 h2 h3 h4 => RI_past h1 h2 h3 h4⟩
        exact OwnG.lower o fu.size
      · simp only [List.getElem?_toArray, List.getElem?_cons_succ, List.getElem?_cons_zero, Option.some.injEq] at ho
        subst ho
        have e5 : X 52 = .bool true := hG 5 (by omega) rfl (by kernel_rfl)
        refine ⟨by simp [Region.wanted, yielded, e5], ?_⟩
        go_simp
        refine ⟨.agg #[.int .i64 (I : Int), .int .i64 (J : Int)], by simp [upd, dstI, e5], ?_⟩
        first | exact ⟨CU.same (by omega), rfl⟩ | exact ⟨CU.same (by omega), rfl, fun _ _ _ _ _ h => h⟩
      · simp only [List.getElem?_toArray, List.getElem?_cons_succ, List.getElem?_cons_zero, Option.some.injEq] at ho
        subst ho
        have e5 : X 52 = .bool true := hG 5 (by omega) rfl (by kernel_rfl)
        refine ⟨by simp [Region.wanted, yielded, e5], ?_⟩
        have e16 : OwnG layPr u u4.heap.size (X 63) ps := hX 16 (by omega) rfl
        have e17 : X 64 = _ := hX 17 (by omega) rfl
        obtain ⟨g7, c7, e7e⟩ := ownG_some e16
        rw [e7e] at e16
        have q := hasPr_any _ _ c7 ps (I : Int) (J : Int) u rfl (ownG_readsG e16)
        go_simp
        refine q.mono ?_
        rintro x u' ⟨rfl, f'⟩
        refine ⟨.bool (hasP ps (I : Int) (J : Int)), by simp [upd, dstI, e5, e7e, e17], CU.fr (by omega) f', rfl, fun k x h1 h2 h3 h4 => RI_fr h1 h4 f'⟩
      · omega
    · intro o o2 X u LL ho ho2 CU hX
      simp only [List.getElem?_toArray, List.getElem?_cons_succ, List.getElem?_cons_zero, Option.some.injEq] at ho ho2
      subst ho ho2
      refine ⟨by simp [Region.wanted], ?_⟩
      have e5 : X 52 = .bool true := hX 5 (by omega) rfl
      have e18 : X 65 = _ := hX 18 (by omega) rfl
      have HF : Hid (FrS S w u) := FrS.trans (frS_fr (f0.trans F4)) CU.1
      clear hX
      go_simp
      go_wp2_with fail
      go_ret
      exact ⟨rfl, HF.out⟩
  · have hDv : D = false := by rw [HD.out, decide_eq_false hJL]; simp
    subst hDv
    have hd2 : decide ((J : Int) < (L : Int)) = false := decide_eq_false (by omega)
    obtain ⟨b0, b1⟩ := HB.out u4 F4
    have x0 := fun n : Nat => (Fr.drewN u4 n).cell b0
    have x1 := fun n : Nat => (Fr.drewN u4 n).cell b1
    go_wp2_with fail
    go_quiet (fail)
    go_wp2_with fail
    go_ret
    exact ⟨rfl, frS_fr ((f0.trans F4).trans (Fr.drewN _ _))⟩

set_option maxRecDepth 20000 in
set_option maxHeartbeats 1000000 in
theorem isPair_big (gb off n c : Nat) (i j : Int) (sv : Value) (w : World) (hn3 : ¬ n ≤ 300) :
    Calls Tryz.prog 82 #[.slice (some ⟨gb, off, none⟩) n c, .agg #[.int .i64 i, .int .i64 j], sv] w fun x w' => x = .returned (.bool false) ∧ Fr w w' := by
  have f0 := Fr.alloc w (.cells #[.int .i64 i, .int .i64 j] 51)
  have cT := fun u => isTrace_any (some ⟨gb, off, none⟩) n c u
  have e2 : decide ((n : Int) ≤ 300) = false := by simp; omega
  simp only [e2] at cT
  go_enter Tryz.func82, Tryz.ntmps82
  go_wp2_with fail
  refine (cT _).mono ?_
  rintro e u1 ⟨rfl, rfl⟩
  go_wp2_with fail
  go_ret
  exact ⟨rfl, f0⟩

set_option maxRecDepth 20000 in
set_option maxHeartbeats 1000000 in
theorem isPair_out (gb off n c : Nat) (i j : Int) (sv : Value) (w : World) (hn3 : n ≤ 300) (hj : ¬ (0 ≤ j ∧ j < n)) :
    Calls Tryz.prog 82 #[.slice (some ⟨gb, off, none⟩) n c, .agg #[.int .i64 i, .int .i64 j], sv] w fun x w' => x = .returned (.bool false) ∧ Fr w w' := by
  have f0 := Fr.alloc w (.cells #[.int .i64 i, .int .i64 j] 51)
  have k0 : ∀ z v, #[Value.int .i64 i, .int .i64 j][z]? = some v → (w.alloc (.cells #[.int .i64 i, .int .i64 j] 51)).cell? ⟨w.heap.size, z, none⟩ = some v := fun z v e => by rw [cell_of_row _ _ _ _ _ _ (heap_alloc_new w _)]; exact e
  have b0 := k0 0 _ rfl
  have b1 := k0 1 _ rfl
  have cT := fun u => isTrace_any (some ⟨gb, off, none⟩) n c u
  have e2 : decide ((n : Int) ≤ 300) = true := by simp; omega
  simp only [e2] at cT
  have c1 := fun u => within_any j 0 ((n : Int) - 1) u
  have e3 : inB 0 ((n : Int) - 1) j = false := by
    cases hv : inB 0 ((n : Int) - 1) j
    · rfl
    · have := inB_true hv; omega
  simp only [e3] at c1
  clear k0
  go_enter Tryz.func82, Tryz.ntmps82
  go_wp2_with fail
  refine (cT _).mono ?_
  rintro e u1 ⟨rfl, rfl⟩
  go_wp2_with fail
  refine (c1 _).mono ?_
  rintro e u1 ⟨rfl, rfl⟩
  go_wp2_with fail
  go_ret
  exact ⟨rfl, f0⟩

set_option maxRecDepth 20000 in
set_option maxHeartbeats 1000000 in
theorem isPair_ahead (gb off n c : Nat) (i j : Int) (sv : Value) (w : World) (hn3 : n ≤ 300) (hj : 0 ≤ j ∧ j < n) (hi : ¬ (0 ≤ i ∧ i < j)) :
    Calls Tryz.prog 82 #[.slice (some ⟨gb, off, none⟩) n c, .agg #[.int .i64 i, .int .i64 j], sv] w fun x w' => x = .returned (.bool false) ∧ Fr w w' := by
  have f0 := Fr.alloc w (.cells #[.int .i64 i, .int .i64 j] 51)
  have k0 : ∀ z v, #[Value.int .i64 i, .int .i64 j][z]? = some v → (w.alloc (.cells #[.int .i64 i, .int .i64 j] 51)).cell? ⟨w.heap.size, z, none⟩ = some v := fun z v e => by rw [cell_of_row _ _ _ _ _ _ (heap_alloc_new w _)]; exact e
  have b0 := k0 0 _ rfl
  have b1 := k0 1 _ rfl
  have cT := fun u => isTrace_any (some ⟨gb, off, none⟩) n c u
  have e2 : decide ((n : Int) ≤ 300) = true := by simp; omega
  simp only [e2] at cT
  have c1 := fun u => within_any j 0 ((n : Int) - 1) u
  rw [inB_mk (by omega) (by omega)] at c1
  have c2 := fun u => within_any i 0 (j - 1) u
  have e3 : inB 0 (j - 1) i = false := by
    cases hv : inB 0 (j - 1) i
    · rfl
    · have := inB_true hv; omega
  simp only [e3] at c2
  clear k0
  go_enter Tryz.func82, Tryz.ntmps82
  go_wp2_with fail
  refine (cT _).mono ?_
  rintro e u1 ⟨rfl, rfl⟩
  go_wp2_with fail
  refine (c1 _).mono ?_
  rintro e u1 ⟨rfl, rfl⟩
  go_wp2_with fail
  refine (c2 _).mono ?_
  rintro e u1 ⟨rfl, rfl⟩
  go_wp2_with fail
  go_ret
  exact ⟨rfl, f0⟩
end Go.Proofs.YtcofhmikdkkigaaGreatDoor

namespace Go.Proofs.YtcofhmikdkkigaaGreatDoor
open Go.RowKit

theorem pairsJ_has {es : List Ev} {lk : List Bool} {near : Bool} {I J : Nat} (h : I < J) : hasP (pairsJ es lk near J) I J = pairB es lk near J I := by
  rw [Bool.eq_iff_iff, hasP_iff]
  unfold pairsJ
  simp only [List.mem_map, List.mem_filter, List.mem_range, Prod.mk.injEq]
  constructor
  · rintro ⟨k, ⟨h1, h2⟩, h3, -⟩
    have : k = I := by omega
    rw [this] at h2
    exact h2
  · intro h2
    exact ⟨I, ⟨h, h2⟩, rfl, trivial⟩
theorem has_all {es : List Ev} {lk : List Bool} {near : Bool} {i j : Int} : hasP (pairsL (lpL es) lk near (lpL es).length) i j = true ↔ 0 ≤ i ∧ i < j ∧ j < (lpL es).length ∧ pairB (lpL es) lk near j.toNat i.toNat = true := by
  rw [hasP_iff, pairsL_mem]
theorem has_in {es : List Ev} {lk : List Bool} {near : Bool} {I J : Nat} (h : I < J) : hasP (pairsL (lpL es) lk near (lpL es).length) I J = (claB (evA es I) (evA es J) && (decide (J < (lpL es).length) && hasP (pairsJ es lk near J) I J)) := by
  rw [Bool.eq_iff_iff, has_all, pairsJ_has h]
  simp only [Bool.and_eq_true, decide_eq_true_eq, Int.toNat_natCast]
  constructor
  · rintro ⟨-, -, h3, h4⟩
    have h5 : J < (lpL es).length := by omega
    rw [pairB_congr (fun k hk => evA_lp (by omega)) (bef_lp h5) h] at h4
    refine ⟨?_, h5, h4⟩
    unfold pairB at h4
    simp only [Bool.and_eq_true] at h4
    exact h4.1.1.2
  · rintro ⟨-, h5, h4⟩
    refine ⟨by omega, by omega, by omega, ?_⟩
    rw [pairB_congr (fun k hk => evA_lp (by omega)) (bef_lp h5) h]
    exact h4
theorem has_no {es : List Ev} {lk : List Bool} {near : Bool} {i j : Int} (h : ¬ (0 ≤ i ∧ i < j ∧ j < (lpL es).length)) : hasP (pairsL (lpL es) lk near (lpL es).length) i j = false := by
  cases hv : hasP (pairsL (lpL es) lk near (lpL es).length) i j
  · rfl
  · have := has_all.1 hv
    exact absurd ⟨this.1, this.2.1, this.2.2.1⟩ h
theorem lp_le (es : List Ev) : (lpL es).length ≤ es.length := by unfold lpL; rw [List.length_take]; omega

theorem isPair_any (near : Bool) (gb off n c : Nat) (es : List Ev) (lk : List Bool) (i j : Int) (sv : Value) (w : World) (S : Nat → Prop) (hn : es.length = n) (hnc : n ≤ c) (h : ReadsE w (some ⟨gb, off, none⟩) es) (hs : Shapes w) (hab : gb < w.heap.size) (hS : ∀ b, S b → b < w.heap.size)
    (cI : ∀ J, J < (lpL es).length → ∀ u, Fr w u → Calls Tryz.prog 131 #[.slice (some ⟨gb, off, none⟩) n c, .int .i64 (J : Int), .agg #[.int .u64 (wd (befN (eE es) J) 0), .int .u64 (wd (befN (eE es) J) 1), .int .u64 (wd (befN (eE es) J) 2), .int .u64 (wd (befN (eE es) J) 3), .int .u64 (wd (befN (eE es) J) 4)], sv] u fun x w' => ∃ y, x = .returned y ∧ OwnG layPr w' u.heap.size y (pairsJ es lk near J) ∧ FrS S u w') :
    Calls Tryz.prog 82 #[.slice (some ⟨gb, off, none⟩) n c, .agg #[.int .i64 i, .int .i64 j], sv] w fun x w' => x = .returned (.bool (hasP (pairsL (lpL es) lk near (lpL es).length) i j)) ∧ FrS S w w' := by
  have hle := lp_le es
  by_cases hb : es.length ≤ 300
  · by_cases hj : 0 ≤ j ∧ j < n
    · by_cases hi : 0 ≤ i ∧ i < j
      · obtain ⟨J, rfl⟩ : ∃ J : Nat, j = J := ⟨j.toNat, by omega⟩
        obtain ⟨I, rfl⟩ : ∃ I : Nat, i = I := ⟨i.toNat, by omega⟩
        have hIJ : I < J := by omega
        have hJ : J < es.length := by omega
        rw [has_in hIJ]
        have hlt : (es.take (J + 1)).length = J + 1 := by simp; omega
        have hiff : J < (legS scn0 (es.take (J + 1))).2.1 ↔ J < (lpL es).length := by
          have e := lp_len hb
          have e2 : legLen es = (legS scn0 es).2.1 := by unfold legLen; rw [if_neg (by omega)]
          rcases leg_take_len hb hJ with ⟨h1, h2⟩ | ⟨h1, h2⟩ <;> omega
        have hd : decide (J < (lpL es).length) = decide (J < (legS scn0 (es.take (J + 1))).2.1) := by simp only [hiff]
        rw [hd]
        refine isPair_in gb off n c es I J sv w S (pairsJ es lk near J) (befN (eE es) J) hn (by omega) hnc h hS (by omega) hIJ _ rfl hs _ (fun W fW => ?_) (fun q => cI J (hiff.1 q))
        refine (ranksOf_any (some ⟨gb, off, none⟩) (J + 1) c (es.take (J + 1)) W hlt ((h.fr fW).take (J + 1)) (hs.fr fW) (fun k hk => by simp only [blk, Option.map_some, Option.some.injEq] at hk; have := fW.size; omega) (by omega)).mono ?_
        rintro x w' ⟨g, cap, rfl, K, hg, f⟩
        refine ⟨g, cap, rfl, fun q => ?_, hg, K.row.lt, f⟩
        have := K.bf J q
        rw [befN_take] at this
        exact this
      · rw [has_no (fun q => hi ⟨q.1, q.2.1⟩)]
        exact (isPair_ahead gb off n c i j sv w (by omega) hj hi).mono fun x w' q => ⟨q.1, frS_fr q.2⟩
    · rw [has_no (fun q => hj ⟨by omega, by omega⟩)]
      exact (isPair_out gb off n c i j sv w (by omega) hj).mono fun x w' q => ⟨q.1, frS_fr q.2⟩
  · have := lp_none hb
    rw [has_no (fun q => by omega)]
    exact (isPair_big gb off n c i j sv w (by omega)).mono fun x w' q => ⟨q.1, frS_fr q.2⟩

set_option maxHeartbeats 1000000 in
theorem implIsRace_any (gb off n c : Nat) (es : List Ev) (i j : Int) (w : World) (hn : es.length = n) (hnc : n ≤ c) (h : ReadsE w (some ⟨gb, off, none⟩) es) (hs : Shapes w) (hab : gb < w.heap.size) :
    Calls Tryz.prog 41 #[.slice (some ⟨gb, off, none⟩) n c, .int .i64 i, .int .i64 j] w fun x w' => x = .returned (.bool (hasP (pairsL (lpL es) [] false (lpL es).length) i j)) ∧ Fr w w' := by
  have cP := isPair_any false gb off n c es [] i j (.func (.func 132) #[] #[]) w (fun _ => False) hn hnc h hs hab (fun b q => q.elim) (fun J hJ u fu => by
    refine (into_race' gb off n c es u hn hnc (h.fr fu) (hs.fr fu) J hJ).mono ?_
    rintro x w' ⟨y, rfl, o, f⟩
    exact ⟨y, rfl, o, frS_fr f⟩)
  have cR := raceSieve_any w
  obtain ⟨B, hB⟩ : ∃ B, B = hasP (pairsL (lpL es) [] false (lpL es).length) i j := ⟨_, rfl⟩
  rw [← hB] at cP ⊢
  clear hB
  go_enter Tryz.func41, Tryz.ntmps41
  go_wp2_with fail
  refine cR.mono ?_
  rintro x u1 ⟨rfl, rfl⟩
  go_wp2_with fail
  refine cP.mono ?_
  rintro x u2 ⟨rfl, f2⟩
  go_wp2_with fail
  go_ret
  exact ⟨rfl, ⟨f2.os, f2.tape, f2.output, f2.size, fun k hk _ => f2.block k hk (fun q => q)⟩⟩
set_option maxHeartbeats 1000000 in
theorem implIsShort_any (gb off n c : Nat) (lo : Option Addr) (m lc : Nat) (es : List Ev) (lk : List Bool) (i j : Int) (w : World) (hn : es.length = n) (hnc : n ≤ c) (h : ReadsE w (some ⟨gb, off, none⟩) es) (hs : Shapes w) (hab : gb < w.heap.size) (hm : lk.length = m) (hL : ReadsG layBo w lo lk) (hm2 : m ≤ 16777216) :
    Calls Tryz.prog 29 #[.slice (some ⟨gb, off, none⟩) n c, .slice lo m lc, .int .i64 i, .int .i64 j] w fun x w' => x = .returned (.bool (hasP (pairsL (lpL es) lk true (lpL es).length) i j)) ∧ Fr w w' := by
  have cS := shortSieve_any lo m lc w
  have cP := fun (tb wb rb : Nat) (u : World) (S8 : Sv8 tb wb rb lo m lc 0 (fun _ => 0) u) (fu : Fr w u) (b1 : tb < u.heap.size) (b2 : wb < u.heap.size) (b3 : rb < u.heap.size) (b4 : w.heap.size ≤ wb) (b5 : w.heap.size ≤ rb) =>
    isPair_any true gb off n c es lk i j (.func (.func 133) #[] #[.pointer (some ⟨tb, 0, none⟩), .pointer (some ⟨wb, 0, none⟩), .pointer (some ⟨rb, 0, none⟩)]) u (SvS true wb rb) hn hnc (h.fr fu) (hs.fr fu) (Nat.lt_of_lt_of_le hab fu.size) (fun b q => by rcases q.2 with e | e <;> omega) (fun J hJ u2 f2 => by
      have h300 := lpL_300 es
      have hle := lp_le es
      have hlen := h.len
      have hz2 := f2.size
      have hX := fun u' (f : FrS (SvS true wb rb) u2 u') => fr_behind (fu.trans f2) f (fun b q => by rcases q.2 with e | e <;> omega)
      refine (into_short true rfl tb wb rb lo m lc gb off n c J es lk u2 hn hnc (by omega) (by omega) (by omega) (fun u' f => h.fr (hX u' f)) (fun u' f => hs.fr (hX u' f)) (fun _ u' f => hL.fr (hX u' f)) hm hm2 (fun _ => S8.fr f2) (fun _ => ⟨by omega, by omega, by omega⟩) (fun i hi _ => leg_gor (by omega)) (fun B g cap ps u hu => rev_any B g cap ps u hu)).mono ?_
      rintro x w' ⟨y, rfl, o, f, -⟩
      exact ⟨y, rfl, o, f⟩)
  obtain ⟨B, hB⟩ : ∃ B, B = hasP (pairsL (lpL es) lk true (lpL es).length) i j := ⟨_, rfl⟩
  simp only [← hB] at cP
  rw [← hB]
  clear hB
  go_enter Tryz.func29, Tryz.ntmps29
  go_wp2_with fail
  refine cS.mono ?_
  rintro x u1 ⟨tb, wb, rb, rfl, S8, a1, a2, a3, a4, a5, a6, f1⟩
  have cP := cP tb wb rb u1 S8 f1 a2 a4 a6 a3 a5
  go_wp2_with fail
  refine cP.mono ?_
  rintro x u2 ⟨rfl, f2⟩
  go_wp2_with fail
  go_ret
  exact ⟨rfl, fr_behind f1 f2 (fun b q => by rcases q.2 with e | e <;> omega)⟩
end Go.Proofs.YtcofhmikdkkigaaGreatDoor
