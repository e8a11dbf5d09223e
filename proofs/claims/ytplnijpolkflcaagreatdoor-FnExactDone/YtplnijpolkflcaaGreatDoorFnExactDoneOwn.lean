/-
  The law FnExactDone answers true at every scene and every event (the program's table lying as its text lays it), and leaves its arguments as they were.
-/
import Derived.Test.YtplnijpolkflcaaGreatDoorRows
import Derived.Test.YtplnijpolkflcaaGreatDoorCards
import Derived.Test.YtplnijpolkflcaaGreatDoorTie
import Derived.Test.YtplnijpolkflcaaGreatDoorPqAI
import Derived.Test.YtplnijpolkflcaaGreatDoorArgSc
import Derived.Test.YtplnijpolkflcaaGreatDoorPqBY
import Derived.Test.YtplnijpolkflcaaGreatDoorPqCA
import Derived.Test.YtplnijpolkflcaaGreatDoorPqBP
import Derived.Test.YtplnijpolkflcaaGreatDoorMkyS
import Derived.Test.YtplnijpolkflcaaGreatDoorPqBX
import Derived.Test.YtplnijpolkflcaaGreatDoorPqBW
import Derived.Test.YtplnijpolkflcaaGreatDoorPqAH
import Derived.Test.YtplnijpolkflcaaGreatDoorDone2
import Derived.Deep.RegionHeld3
import Derived.WalkKit
import Derived.ProofKit
import Derived.OpenShut
import Derived.LaidMore
import Derived.Stop.Joined
import Derived.OpenVars
import Derived.SevenTiedAt
namespace Go.Proofs.YtplnijpolkflcaaGreatDoor.fnExactDone
open Go.ChangeShapes Go.WideShapes Go.ChangeAt Go.RowKit
set_option linter.unusedVariables false

def mkD5 (sv ev : Value) (A : Nat) (r : Int) (b20 : Value) (X : Nat → Value) : Act :=
  { tmps := #[sv, ev, .pointer (some ⟨A, 0, none⟩), .pointer (some ⟨A + 1, 0, none⟩), .bool false, .int .i64 r, X 6, X 7, undef, undef, undef, undef, undef, undef, undef, undef, sv, .int .i64 1048576, .int .i64 r, .int .i64 r, b20, X 21, X 22, X 23, X 24, X 25, X 26, X 27, X 28, undef, undef, undef, undef, undef, undef, undef, undef, undef, undef, undef, undef, undef, undef, undef, undef, undef, undef, undef, undef, undef, undef, undef, undef, undef, undef, undef, undef, undef, undef, undef, undef, undef, undef, undef, undef, undef, undef, undef, undef, undef, undef, undef, undef, undef, undef, undef, undef, undef, undef, undef, undef, undef, undef, undef, undef, undef, undef, undef, undef, undef, undef, undef, undef, undef, undef, undef, undef, undef, undef, undef, undef, undef, undef, undef], defers := [] }
def sg5 (i : Nat) : Nat := [22, 23, 24, 25, 26, 21, 27, 28, 6, 200, 7].getD i 0
def InvD5 (sv ev : Value) (A : Nat) (r : Int) (b20 : Value) (W : World) (m D : Scn) (C : Int) (K : Nat → Nat → World → Sv → Prop) (L : Nat → Bool) (a : Act) (u : World) : Prop :=
  ∃ (X : Nat → Value) (t s sk : Sv) (lo hi k : Nat), a = mkD5 sv ev A r b20 X ∧ TwoR sg5 W sv ev m D C K L X t s sk lo hi k u
theorem scR_any {B : Nat → Prop} {w : World} {s : Sv} {m : Scn} (h : ScR B w s m) : ScR (fun _ => True) w s m := h.mono (fun _ _ => trivial)
def mkD7 (v0 v1 v2 v3 v4 v5 v6 v7 v8 v16 v17 v18 v19 v20 v21 v22 v23 v24 v25 v26 v27 v28 v29 v30 : Value) (X : Nat → Value) : Act :=
  { tmps := #[v0, v1, v2, v3, v4, v5, v6, v7, v8, X 9, X 10, undef, undef, undef, undef, undef, v16, v17, v18, v19, v20, v21, v22, v23, v24, v25, v26, v27, v28, v29, v30, X 31, X 32, X 33, X 34, X 35, X 36, X 37, undef, undef, undef, undef, undef, undef, undef, undef, undef, undef, undef, undef, undef, undef, undef, undef, undef, undef, undef, undef, undef, undef, undef, undef, undef, undef, undef, undef, undef, undef, undef, undef, undef, undef, undef, undef, undef, undef, undef, undef, undef, undef, undef, undef, undef, undef, undef, undef, undef, undef, undef, undef, undef, undef, undef, undef, undef, undef, undef, undef, undef, undef, undef, undef, undef, undef], defers := [] }
def sg7 (i : Nat) : Nat := [201, 32, 33, 34, 35, 31, 36, 37, 9, 200, 10].getD i 0
def InvD7 (v0 v1 v2 v3 v4 v5 v6 v7 v8 v16 v17 v18 v19 v20 v21 v22 v23 v24 v25 v26 v27 v28 v29 v30 ev : Value) (x0 : Sv) (W : World) (m D : Scn) (C : Int) (K : Nat → Nat → World → Sv → Prop) (L : Nat → Bool) (a : Act) (u : World) : Prop :=
  ∃ (X : Nat → Value) (t s sk : Sv) (lo hi k : Nat), a = mkD7 v0 v1 v2 v3 v4 v5 v6 v7 v8 v16 v17 v18 v19 v20 v21 v22 v23 v24 v25 v26 v27 v28 v29 v30 X ∧ TwoR sg7 W undef ev m D C K (shL L) X t s sk lo hi k u ∧ (L 0 = true → t = x0)
def mkD24 (v0 v1 v2 v3 v4 v5 v6 v7 v8 v9 v10 v11 v12 v13 v16 v17 v18 v19 v20 v21 v22 v23 v24 v25 v26 v27 v28 v29 v30 v31 v32 v33 v34 v35 v36 v37 v38 v39 v40 v41 v42 v43 v44 v45 v46 v47 v48 v49 v50 v51 v52 v53 v54 v55 v56 v57 v58 v59 v60 v61 v62 v63 v64 v65 v66 v67 v68 v69 v70 v71 v72 v73 v74 v75 v76 v77 v78 : Value) (X : Nat → Value) : Act :=
  { tmps := #[v0, v1, v2, v3, v4, v5, v6, v7, v8, v9, v10, v11, v12, v13, X 14, X 15, v16, v17, v18, v19, v20, v21, v22, v23, v24, v25, v26, v27, v28, v29, v30, v31, v32, v33, v34, v35, v36, v37, v38, v39, v40, v41, v42, v43, v44, v45, v46, v47, v48, v49, v50, v51, v52, v53, v54, v55, v56, v57, v58, v59, v60, v61, v62, v63, v64, v65, v66, v67, v68, v69, v70, v71, v72, v73, v74, v75, v76, v77, v78, X 79, X 80, X 81, X 82, X 83, X 84, X 85, X 86, undef, undef, undef, undef, undef, undef, undef, undef, undef, undef, undef, undef, undef, undef, undef, undef, undef], defers := [] }
def sg24 (i : Nat) : Nat := [80, 81, 82, 83, 84, 79, 85, 86, 14, 200, 15].getD i 0
def InvD24 (v0 v1 v2 v3 v4 v5 v6 v7 v8 v9 v10 v11 v12 v13 v16 v17 v18 v19 v20 v21 v22 v23 v24 v25 v26 v27 v28 v29 v30 v31 v32 v33 v34 v35 v36 v37 v38 v39 v40 v41 v42 v43 v44 v45 v46 v47 v48 v49 v50 v51 v52 v53 v54 v55 v56 v57 v58 v59 v60 v61 v62 v63 v64 v65 v66 v67 v68 v69 v70 v71 v72 v73 v74 v75 v76 v77 v78 a0 e0 : Value) (W : World) (m D : Scn) (C : Int) (K : Nat → Nat → World → Sv → Prop) (L : Nat → Bool) (a : Act) (u : World) : Prop :=
  ∃ (X : Nat → Value) (t s sk : Sv) (lo hi k : Nat), a = mkD24 v0 v1 v2 v3 v4 v5 v6 v7 v8 v9 v10 v11 v12 v13 v16 v17 v18 v19 v20 v21 v22 v23 v24 v25 v26 v27 v28 v29 v30 v31 v32 v33 v34 v35 v36 v37 v38 v39 v40 v41 v42 v43 v44 v45 v46 v47 v48 v49 v50 v51 v52 v53 v54 v55 v56 v57 v58 v59 v60 v61 v62 v63 v64 v65 v66 v67 v68 v69 v70 v71 v72 v73 v74 v75 v76 v77 v78 X ∧ TwoR sg24 W a0 e0 m D C K L X t s sk lo hi k u

set_option maxHeartbeats 8000000 in
set_option maxRecDepth 20000 in
theorem walk (s0 : Sv) (e1 : Ev) (w : World) (i0 : InSc w s0) (i1 : EvI e1) (hs : Shapes w) :
    Calls Tryz.prog 7 #[.agg #[.int .i64 s0.g, .slice s0.lo s0.ll s0.lc, .slice s0.co s0.cl s0.cc, .slice s0.no s0.nl s0.nc, .slice s0.oo s0.ol s0.oc], .agg #[.int .i64 e1.k, .int .i64 e1.g, .int .i64 e1.o, .int .i64 e1.w, .int .i64 e1.l, .int .i64 e1.s, .int .i64 e1.f, .int .i64 e1.t]] w fun e w' => e = .returned (.bool true) ∧ Below w.heap.size w w' := by
  have f01 := Fr.alloc w (.cells #[.int .i64 s0.g, .slice s0.lo s0.ll s0.lc, .slice s0.co s0.cl s0.cc, .slice s0.no s0.nl s0.nc, .slice s0.oo s0.ol s0.oc] 54)
  have f02 := Fr.alloc (w.alloc (.cells #[.int .i64 s0.g, .slice s0.lo s0.ll s0.lc, .slice s0.co s0.cl s0.cc, .slice s0.no s0.nl s0.nc, .slice s0.oo s0.ol s0.oc] 54)) (.cells #[.int .i64 e1.k, .int .i64 e1.g, .int .i64 e1.o, .int .i64 e1.w, .int .i64 e1.l, .int .i64 e1.s, .int .i64 e1.f, .int .i64 e1.t] 55)
  have ka := (argB w s0).keep f02 (by simp)
  have kb := EvAt.new (w.alloc (.cells #[.int .i64 s0.g, .slice s0.lo s0.ll s0.lc, .slice s0.co s0.cl s0.cc, .slice s0.no s0.nl s0.nc, .slice s0.oo s0.ol s0.oc] 54)) e1 55
  have fW := f01.trans f02
  simp only [World.size_alloc] at kb
  clear f01 f02
  have cz := szScene_any s0 _ (i0.fr fW)
  have ho : I64 e1.o := i1.2.2.1
  clear i0 i1
  have cT2 := fun u => toEvent_any e1 u
  have cS := fun u t (B : Nat → Prop) m (h : ScR B u t m) => specDone_any t m e1 u h
  have cI := fun u t (B : Nat → Prop) m (h : ScR B u t m) (hB : ∀ x, B x → x < u.heap.size) (f : Fr w u) => implDone_any t m e1 u h hB (hs.fr f)
  clear ho hs
  obtain ⟨k, gr, o, wi, l, sz, f, t⟩ := e1
  obtain ⟨sg, lo, ll, lc, co, cl, cc, no, nl, nc, oo, ol, oc⟩ := s0
  simp only at fW ka kb cz cT2 cS cI ⊢
  go_enter Tryz.func7, Tryz.ntmps7
  go_wp2_with fail
  obtain ⟨W, hW⟩ : ∃ W, W = (w.alloc (.cells #[.int .i64 sg, .slice lo ll lc, .slice co cl cc, .slice no nl nc, .slice oo ol oc] 54)).alloc (.cells #[.int .i64 k, .int .i64 gr, .int .i64 o, .int .i64 wi, .int .i64 l, .int .i64 sz, .int .i64 f, .int .i64 t] 55) := ⟨_, rfl⟩
  rw [← hW] at fW ka kb cz ⊢
  clear hW
  refine cz.mono ?_
  rintro x u1 ⟨r, rfl, hr, f1⟩
  clear cz
  rcases hr with rfl | ⟨r0, m, R⟩
  · go_wp2_with fail
    go_ret
    exact ⟨rfl, (fW.trans f1).below⟩
  have cT := fun u (f : Fr W u) => toSceneW_any ⟨sg, lo, ll, lc, co, cl, cc, no, nl, nc, oo, ol, oc⟩ m u (R.fr f)
  simp only at cT
  clear R
  obtain ⟨A, hA⟩ : ∃ A, A = w.heap.size := ⟨_, rfl⟩
  rw [← hA] at ka kb ⊢
  have HA : Hid (A = w.heap.size) := hA
  clear hA
  have HQ : Hid (∀ u, Fr W u → ScB u A ⟨sg, lo, ll, lc, co, cl, cc, no, nl, nc, oo, ol, oc⟩ ∧ EvAt u (A + 1) ⟨k, gr, o, wi, l, sz, f, t⟩) := fun u f => ⟨ka.keep f (by simp), kb.fr f⟩
  clear ka kb
  obtain ⟨⟨a0, a1, a2, a3, a4⟩, c0, c1, c2, c3, c4, c5, c6, c7⟩ := HQ.out u1 f1
  simp only at a0 a1 a2 a3 a4 c0 c1 c2 c3 c4 c5 c6 c7
  go_wp2_with fail
  have hsg := dst_of (dst := sg5) (n := 11) (by kernel_rfl)
  refine wp_region_inv (InvD5 (.agg #[.int .i64 sg, .slice lo ll lc, .slice co cl cc, .slice no nl nc, .slice oo ol oc]) (.agg #[.int .i64 k, .int .i64 gr, .int .i64 o, .int .i64 wi, .int .i64 l, .int .i64 sz, .int .i64 f, .int .i64 t]) A r (.bool (decide (r < 0))) u1.drew m (doneS m ⟨k, gr, o, wi, l, sz, f, t⟩) (codeIn m ⟨k, gr, o, wi, l, sz, f, t⟩) (fun _ _ _ _ => True)) (by kernel_rfl) (by kernel_rfl) ⟨fun _ => undef, ⟨0, none, 0, 0, none, 0, 0, none, 0, 0, none, 0, 0⟩, ⟨0, none, 0, 0, none, 0, 0, none, 0, 0, none, 0, 0⟩, ⟨0, none, 0, 0, none, 0, 0, none, 0, 0, none, 0, 0⟩, 0, 0, 0, rfl, TwoR.start _ _ _ _ _ _ _ _⟩ ?_ ?_
  · intro i o L a u ho hI hL hE
    obtain ⟨X, t2, s2, sk2, lo2, hi2, k2, rfl, T⟩ := hI
    have FW := (f1.trans (Fr.drew u1)).trans T.fr
    obtain ⟨⟨a0, a1, a2, a3, a4⟩, c0, c1, c2, c3, c4, c5, c6, c7⟩ := HQ.out u FW
    simp only at a0 a1 a2 a3 a4 c0 c1 c2 c3 c4 c5 c6 c7
    rcases i with _ | _ | _ | _ | _ | _ | _ | _ | _ | _ | _ | i
    · simp only [List.getElem?_toArray, List.getElem?_cons_zero, Option.some.injEq] at ho
      subst ho
      refine ⟨by simp [Region.wanted], ?_⟩
      simp only [mkD5]
      go_simp
      refine ⟨upd X (sg5 0) _, t2, s2, sk2, lo2, hi2, k2, ?_, T.s0 hsg⟩
      rfl
    · simp only [List.getElem?_toArray, List.getElem?_cons_succ, List.getElem?_cons_zero, Option.some.injEq] at ho
      subst ho
      refine ⟨by simp [Region.wanted], ?_⟩
      simp only [mkD5]
      have e0 := T.f0 (hE ⟨0, .data⟩ (by simp) rfl)
      have e0 : X 22 = .agg #[.int .i64 sg, .slice lo ll lc, .slice co cl cc, .slice no nl nc, .slice oo ol oc] := e0
      have q := cT u FW
      go_simp
      refine q.mono ?_
      rintro x u' ⟨t3, rfl, S3, f3, -⟩
      refine ⟨upd X (sg5 1) _, t3, s2, sk2, lo2, hi2, k2, ?_, (T.grow f3 (fun _ _ _ _ => trivial)).s1 hsg t3 (S3.mono (fun b q => q.2))⟩
      simp [mkD5, upd, sg5, e0]
    · simp only [List.getElem?_toArray, List.getElem?_cons_succ, List.getElem?_cons_zero, Option.some.injEq] at ho
      subst ho
      refine ⟨by simp [Region.wanted], ?_⟩
      simp only [mkD5]
      go_simp
      refine ⟨upd X (sg5 2) _, t2, s2, sk2, lo2, hi2, k2, ?_, T.s2 hsg⟩
      rfl
    · simp only [List.getElem?_toArray, List.getElem?_cons_succ, List.getElem?_cons_zero, Option.some.injEq] at ho
      subst ho
      refine ⟨by simp [Region.wanted], ?_⟩
      simp only [mkD5]
      have e2 : X 24 = .agg #[.int .i64 k, .int .i64 gr, .int .i64 o, .int .i64 wi, .int .i64 l, .int .i64 sz, .int .i64 f, .int .i64 t] := T.f2 (hE ⟨2, .data⟩ (by simp) rfl)
      have q := cT2 u
      go_simp
      refine q.mono ?_
      rintro x u' ⟨rfl, f3⟩
      refine ⟨upd X (sg5 3) _, t2, s2, sk2, lo2, hi2, k2, ?_, (T.grow f3 (fun _ _ _ _ => trivial)).s3 hsg⟩
      simp [mkD5, upd, sg5, e2]
    · simp only [List.getElem?_toArray, List.getElem?_cons_succ, List.getElem?_cons_zero, Option.some.injEq] at ho
      subst ho
      refine ⟨by simp [Region.wanted], ?_⟩
      simp only [mkD5]
      obtain ⟨e1, S1⟩ := T.f1 (hE ⟨1, .data⟩ (by simp) rfl)
      have e1 : X 23 = .agg #[.int .i64 t2.g, .slice t2.lo t2.ll t2.lc, .slice t2.co t2.cl t2.cc, .slice t2.no t2.nl t2.nc, .slice t2.oo t2.ol t2.oc] := e1
      have e3 : X 25 = .agg #[.int .i64 k, .int .i64 gr, .int .i64 o, .int .i64 wi, .int .i64 l, .int .i64 sz, .int .i64 f, .int .i64 t] := T.f3 (hE ⟨3, .data⟩ (by simp) rfl)
      have h9 : L 9 = false := by
        cases h : L 9
        · rfl
        · have := (T.f9 h).1.1
          rw [hL] at this
          cases this
      have q := cS u t2 _ m (S1 h9)
      have hz := T.fr.size
      have hk8 := fun h => (T.f8 h).2.2.lt
      go_simp
      refine q.mono ?_
      rintro x u' ⟨s3, rfl, S3, f3⟩
      refine ⟨upd X (sg5 4) _, t2, s3, sk2, u.heap.size, u'.heap.size, k2, ?_, (T.grow f3 (fun _ _ _ _ => trivial)).s4 hsg hL s3 u.heap.size u'.heap.size S3 hz (Nat.le_refl _) trivial (fun h => .inl (hk8 h))⟩
      simp [mkD5, upd, sg5, e1, e3]
    · simp only [List.getElem?_toArray, List.getElem?_cons_succ, List.getElem?_cons_zero, Option.some.injEq] at ho
      subst ho
      refine ⟨by simp [Region.wanted], ?_⟩
      simp only [mkD5]
      have h4 := hE ⟨4, .data⟩ (by simp) rfl
      have e4 : X 26 = .tuple #[.agg #[.int .i64 s2.g, .slice s2.lo s2.ll s2.lc, .slice s2.co s2.cl s2.cc, .slice s2.no s2.nl s2.nc, .slice s2.oo s2.ol s2.oc], .int .i64 (codeIn m ⟨k, gr, o, wi, l, sz, f, t⟩)] := (T.f4 h4).1
      go_simp
      refine ⟨upd X (sg5 5) _, t2, s2, sk2, lo2, hi2, k2, ?_, T.s5 hsg h4⟩
      simp [mkD5, upd, sg5, e4]
    · simp only [List.getElem?_toArray, List.getElem?_cons_succ, List.getElem?_cons_zero, Option.some.injEq] at ho
      subst ho
      refine ⟨by simp [Region.wanted], ?_⟩
      simp only [mkD5]
      obtain ⟨h4, e5⟩ := T.f5 (hE ⟨5, .data⟩ (by simp) rfl)
      have e5 : X 21 = .tuple #[.agg #[.int .i64 s2.g, .slice s2.lo s2.ll s2.lc, .slice s2.co s2.cl s2.cc, .slice s2.no s2.nl s2.nc, .slice s2.oo s2.ol s2.oc], .int .i64 (codeIn m ⟨k, gr, o, wi, l, sz, f, t⟩)] := e5
      go_simp
      refine ⟨upd X (sg5 6) _, t2, s2, sk2, lo2, hi2, k2, ?_, T.s6 hsg h4⟩
      simp [mkD5, upd, sg5, e5]
    · simp only [List.getElem?_toArray, List.getElem?_cons_succ, List.getElem?_cons_zero, Option.some.injEq] at ho
      subst ho
      refine ⟨by simp [Region.wanted], ?_⟩
      simp only [mkD5]
      obtain ⟨h4, e5⟩ := T.f5 (hE ⟨5, .data⟩ (by simp) rfl)
      have e5 : X 21 = .tuple #[.agg #[.int .i64 s2.g, .slice s2.lo s2.ll s2.lc, .slice s2.co s2.cl s2.cc, .slice s2.no s2.nl s2.nc, .slice s2.oo s2.ol s2.oc], .int .i64 (codeIn m ⟨k, gr, o, wi, l, sz, f, t⟩)] := e5
      go_simp
      refine ⟨upd X (sg5 7) _, t2, s2, sk2, lo2, hi2, k2, ?_, T.s7 hsg h4⟩
      simp [mkD5, upd, sg5, e5]
    · simp only [List.getElem?_toArray, List.getElem?_cons_succ, List.getElem?_cons_zero, Option.some.injEq] at ho
      subst ho
      refine ⟨by simp [Region.wanted], ?_⟩
      simp only [mkD5]
      have hz := T.fr.size
      have hz4 := fun h => (T.f4 h).2.2.2.1
      have T2 := (T.grow (Fr.alloc u (.cells #[.int .i64 0, .slice none 0 0, .slice none 0 0, .slice none 0 0, .slice none 0 0] 29)) (fun _ _ _ _ => trivial)).s8 hsg hL u.heap.size ⟨0, none, 0, 0, none, 0, 0, none, 0, 0, none, 0, 0⟩ hz (ScK.new u ⟨0, none, 0, 0, none, 0, 0, none, 0, 0, none, 0, 0⟩) (fun h => .inr (hz4 h))
      have T2 : Hid _ := T2
      go_simp
      exact ⟨upd X (sg5 8) _, t2, s2, _, lo2, hi2, _, by simp [mkD5, upd, sg5], T2.out⟩
    · simp only [List.getElem?_toArray, List.getElem?_cons_succ, List.getElem?_cons_zero, Option.some.injEq] at ho
      subst ho
      refine ⟨by simp [Region.wanted], ?_⟩
      simp only [mkD5]
      have h8 := hE ⟨8, .data⟩ (by simp) rfl
      obtain ⟨e8, h8b, h8c⟩ := T.f8 h8
      have e8 : X 6 = .pointer (some ⟨k2, 0, none⟩) := e8
      obtain ⟨h4, e6⟩ := T.f6 (hE ⟨6, .data⟩ (by simp) rfl)
      have e6 : X 27 = .agg #[.int .i64 s2.g, .slice s2.lo s2.ll s2.lc, .slice s2.co s2.cl s2.cc, .slice s2.no s2.nl s2.nc, .slice s2.oo s2.ol s2.oc] := e6
      obtain ⟨j0, j1, j2, j3, j4⟩ := h8c.at
      have jf := fun i => h8c.free i
      have T2 := T.s9 h4 h8 (put5 u k2 (.int .i64 s2.g) (.slice s2.lo s2.ll s2.lc) (.slice s2.co s2.cl s2.cc) (.slice s2.no s2.nl s2.nc) (.slice s2.oo s2.ol s2.oc)) (h8c.put5T s2) (fun _ _ => trivial)
      have T2 : Hid _ := T2
      go_simp
      exact ⟨X, t2, s2, _, lo2, hi2, k2, by simp [mkD5, e8, e6], T2.out⟩
    · simp only [List.getElem?_toArray, List.getElem?_cons_succ, List.getElem?_cons_zero, Option.some.injEq] at ho
      subst ho
      refine ⟨by simp [Region.wanted], ?_⟩
      simp only [mkD5]
      have e7 : X 28 = .int .i64 (codeIn m ⟨k, gr, o, wi, l, sz, f, t⟩) := (T.f7 (hE ⟨7, .data⟩ (by simp) rfl)).2
      go_simp
      refine ⟨upd X (sg5 10) _, t2, s2, sk2, lo2, hi2, k2, ?_, T.s10 hsg⟩
      simp [mkD5, upd, sg5, e7]
    · simp only [List.getElem?_toArray, List.getElem?_cons_succ, List.getElem?_nil] at ho
      cases ho
  · intro L a U5 hI hall
    obtain ⟨X, t2, s2, sW, lo2, hi2, kw, rfl, T⟩ := hI
    obtain ⟨e8, -, kW⟩ := T.f8 (hall 8 (by decide))
    have e8 : X 6 = .pointer (some ⟨kw, 0, none⟩) := e8
    have e10 : X 7 = .int .i64 (codeIn m ⟨k, gr, o, wi, l, sz, f, t⟩) := T.f10 (hall 10 (by decide))
    obtain ⟨-, rfl⟩ := T.f9 (hall 9 (by decide))
    have S2 := (T.f4 (hall 4 (by decide))).2.1
    have FU := (f1.trans (Fr.drew u1)).trans T.fr
    clear T hall cS
    obtain ⟨x6, hx6⟩ : ∃ x, x = X 6 := ⟨_, rfl⟩
    simp only [mkD5, e8, e10]
    clear hx6 x6 e8 e10
    obtain ⟨C, hC⟩ : ∃ C, C = codeIn m ⟨k, gr, o, wi, l, sz, f, t⟩ := ⟨_, rfl⟩
    obtain ⟨D, hD⟩ : ∃ C, C = doneS m ⟨k, gr, o, wi, l, sz, f, t⟩ := ⟨_, rfl⟩
    have cI := fun u t (B : Nat → Prop) (h : ScR B u t m) hB fu => cI u t B m h hB fu
    simp only [← hC, ← hD] at S2 cI ⊢
    clear hC hD
    obtain ⟨⟨a0, a1, a2, a3, a4⟩, c0, c1, c2, c3, c4, c5, c6, c7⟩ := HQ.out U5 FU
    simp only at a0 a1 a2 a3 a4 c0 c1 c2 c3 c4 c5 c6 c7
    go_wp2_with fail
    refine (cT U5 FU).mono ?_
    rintro x u3 ⟨x0, rfl, X3, f3, W3⟩
    clear a0 a1 a2 a3 a4 c0 c1 c2 c3 c4 c5 c6 c7
    have fx := Fr.alloc u3 (.cells #[.int .i64 x0.g, .slice x0.lo x0.ll x0.lc, .slice x0.co x0.cl x0.cc, .slice x0.no x0.nl x0.nc, .slice x0.oo x0.ol x0.oc] 29)
    have kX := ScK.new u3 x0
    go_wp2_with fail
    obtain ⟨V, hV⟩ : ∃ V, V = u3.alloc (.cells #[.int .i64 x0.g, .slice x0.lo x0.ll x0.lc, .slice x0.co x0.cl x0.cc, .slice x0.no x0.nl x0.nc, .slice x0.oo x0.ol x0.oc] 29) := ⟨_, rfl⟩
    have SX := X3.fr fx
    have WX := W3.fr fx
    have zx := fx.size
    rw [← hV] at fx kX SX WX zx ⊢
    obtain ⟨xb, hxb⟩ : ∃ xb, xb = u3.heap.size := ⟨_, rfl⟩
    rw [← hxb] at kX ⊢
    have HXB : Hid (xb = u3.heap.size) := hxb
    have FX3 := f3.trans fx
    clear hV hxb X3 W3
    have hsg7 := dst_of (dst := sg7) (n := 11) (by kernel_rfl)
    refine wp_region_inv (InvD7 _ _ _ _ _ _ _ _ _ _ _ _ _ _ _ _ _ _ _ _ _ _ _ _ (.agg #[.int .i64 k, .int .i64 gr, .int .i64 o, .int .i64 wi, .int .i64 l, .int .i64 sz, .int .i64 f, .int .i64 t]) x0 V.drew m D C (fun lo hi u s => Mky lo hi u s D)) (by kernel_rfl) (by kernel_rfl) ⟨fun _ => undef, ⟨0, none, 0, 0, none, 0, 0, none, 0, 0, none, 0, 0⟩, ⟨0, none, 0, 0, none, 0, 0, none, 0, 0, none, 0, 0⟩, ⟨0, none, 0, 0, none, 0, 0, none, 0, 0, none, 0, 0⟩, 0, 0, 0, rfl, TwoR.start1 _ _ _ _ _ _ _, fun q => by cases q⟩ ?_ ?_
    · intro i o L a u ho hI hL hE
      obtain ⟨X, t2, s2, sk2, lo2, hi2, k2, rfl, T, HT⟩ := hI
      have FX := (Fr.drew V).trans T.fr
      obtain ⟨⟨a0, a1, a2, a3, a4⟩, c0, c1, c2, c3, c4, c5, c6, c7⟩ := HQ.out u (FU.trans (FX3.trans FX))
      simp only at a0 a1 a2 a3 a4 c0 c1 c2 c3 c4 c5 c6 c7
      rcases i with _ | _ | _ | _ | _ | _ | _ | _ | _ | _ | i
      · simp only [List.getElem?_toArray, List.getElem?_cons_zero, Option.some.injEq] at ho
        subst ho
        refine ⟨by simp [Region.wanted], ?_⟩
        simp only [mkD7]
        obtain ⟨y0, y1, y2, y3, y4⟩ := (kX.fr FX).at
        have S1 := (SX.fr FX).mono (B' := fun b => b < u.heap.size) (fun b q => by have := FX.size; omega)
        go_simp
        refine ⟨upd X (sg7 1) _, x0, s2, sk2, lo2, hi2, k2, ?_, by rw [shL_came]; exact T.s1 hsg7 x0 S1, fun _ => rfl⟩
        rfl
      · simp only [List.getElem?_toArray, List.getElem?_cons_succ, List.getElem?_cons_zero, Option.some.injEq] at ho
        subst ho
        refine ⟨by simp [Region.wanted], ?_⟩
        simp only [mkD7]
        go_simp
        refine ⟨upd X (sg7 2) _, t2, s2, sk2, lo2, hi2, k2, ?_, by rw [shL_came]; exact T.s2 hsg7, fun q => HT (ofL (by decide) q)⟩
        rfl
      · simp only [List.getElem?_toArray, List.getElem?_cons_succ, List.getElem?_cons_zero, Option.some.injEq] at ho
        subst ho
        refine ⟨by simp [Region.wanted], ?_⟩
        simp only [mkD7]
        have e2 : X 33 = .agg #[.int .i64 k, .int .i64 gr, .int .i64 o, .int .i64 wi, .int .i64 l, .int .i64 sz, .int .i64 f, .int .i64 t] := T.f2 (shL_at (hE ⟨1, .data⟩ (by simp) rfl))
        have q := cT2 u
        go_simp
        refine q.mono ?_
        rintro x u' ⟨rfl, f3⟩
        refine ⟨upd X (sg7 3) _, t2, s2, sk2, lo2, hi2, k2, ?_, by rw [shL_came]; exact (T.grow f3 (fun _ _ _ q => Mky.fr q f3)).s3 hsg7, fun q => HT (ofL (by decide) q)⟩
        simp [mkD7, upd, sg7, e2]
      · simp only [List.getElem?_toArray, List.getElem?_cons_succ, List.getElem?_cons_zero, Option.some.injEq] at ho
        subst ho
        refine ⟨by simp [Region.wanted], ?_⟩
        simp only [mkD7]
        have h0 := hE ⟨0, .data⟩ (by simp) rfl
        have e1 := (T.f1 (shL_at h0)).1
        have e1 : X 32 = .agg #[.int .i64 t2.g, .slice t2.lo t2.ll t2.lc, .slice t2.co t2.cl t2.cc, .slice t2.no t2.nl t2.nc, .slice t2.oo t2.ol t2.oc] := e1
        rw [HT h0] at e1
        have e3 : X 34 = .agg #[.int .i64 k, .int .i64 gr, .int .i64 o, .int .i64 wi, .int .i64 l, .int .i64 sz, .int .i64 f, .int .i64 t] := T.f3 (shL_at (hE ⟨2, .data⟩ (by simp) rfl))
        have q := cI u x0 _ (SX.fr FX) (fun x hx => by have := hx.2; have := FX.size; omega) ((fW.trans FU).trans (FX3.trans FX))
        have hz := T.fr.size
        have hk8 := fun h => (T.f8 h).2.2.lt
        go_simp
        refine q.mono ?_
        rintro x u' ⟨s3, rfl, S3, f3, M3⟩
        refine ⟨upd X (sg7 4) _, t2, s3, sk2, u.heap.size, u'.heap.size, k2, ?_, by rw [shL_came]; exact (T.grow f3 (fun _ _ _ q => Mky.fr q f3)).s4 hsg7 (shL_no hL) s3 u.heap.size u'.heap.size S3 hz (Nat.le_refl _) M3 (fun h => .inl (hk8 h)), fun q => HT (ofL (by decide) q)⟩
        simp [mkD7, upd, sg7, e1, e3]
      · simp only [List.getElem?_toArray, List.getElem?_cons_succ, List.getElem?_cons_zero, Option.some.injEq] at ho
        subst ho
        refine ⟨by simp [Region.wanted], ?_⟩
        simp only [mkD7]
        have h4 := shL_at (hE ⟨3, .data⟩ (by simp) rfl)
        have e4 : X 35 = .tuple #[.agg #[.int .i64 s2.g, .slice s2.lo s2.ll s2.lc, .slice s2.co s2.cl s2.cc, .slice s2.no s2.nl s2.nc, .slice s2.oo s2.ol s2.oc], .int .i64 C] := (T.f4 h4).1
        go_simp
        refine ⟨upd X (sg7 5) _, t2, s2, sk2, lo2, hi2, k2, ?_, by rw [shL_came]; exact T.s5 hsg7 h4, fun q => HT (ofL (by decide) q)⟩
        simp [mkD7, upd, sg7, e4]
      · simp only [List.getElem?_toArray, List.getElem?_cons_succ, List.getElem?_cons_zero, Option.some.injEq] at ho
        subst ho
        refine ⟨by simp [Region.wanted], ?_⟩
        simp only [mkD7]
        obtain ⟨h4, e5⟩ := T.f5 (shL_at (hE ⟨4, .data⟩ (by simp) rfl))
        have e5 : X 31 = .tuple #[.agg #[.int .i64 s2.g, .slice s2.lo s2.ll s2.lc, .slice s2.co s2.cl s2.cc, .slice s2.no s2.nl s2.nc, .slice s2.oo s2.ol s2.oc], .int .i64 C] := e5
        go_simp
        refine ⟨upd X (sg7 6) _, t2, s2, sk2, lo2, hi2, k2, ?_, by rw [shL_came]; exact T.s6 hsg7 h4, fun q => HT (ofL (by decide) q)⟩
        simp [mkD7, upd, sg7, e5]
      · simp only [List.getElem?_toArray, List.getElem?_cons_succ, List.getElem?_cons_zero, Option.some.injEq] at ho
        subst ho
        refine ⟨by simp [Region.wanted], ?_⟩
        simp only [mkD7]
        obtain ⟨h4, e5⟩ := T.f5 (shL_at (hE ⟨4, .data⟩ (by simp) rfl))
        have e5 : X 31 = .tuple #[.agg #[.int .i64 s2.g, .slice s2.lo s2.ll s2.lc, .slice s2.co s2.cl s2.cc, .slice s2.no s2.nl s2.nc, .slice s2.oo s2.ol s2.oc], .int .i64 C] := e5
        go_simp
        refine ⟨upd X (sg7 7) _, t2, s2, sk2, lo2, hi2, k2, ?_, by rw [shL_came]; exact T.s7 hsg7 h4, fun q => HT (ofL (by decide) q)⟩
        simp [mkD7, upd, sg7, e5]
      · simp only [List.getElem?_toArray, List.getElem?_cons_succ, List.getElem?_cons_zero, Option.some.injEq] at ho
        subst ho
        refine ⟨by simp [Region.wanted], ?_⟩
        simp only [mkD7]
        have hz := T.fr.size
        have hz4 := fun h => (T.f4 h).2.2.2.1
        have f3 := Fr.alloc u (.cells #[.int .i64 0, .slice none 0 0, .slice none 0 0, .slice none 0 0, .slice none 0 0] 29)
        have T2 := (T.grow f3 (fun _ _ _ q => Mky.fr q f3)).s8 hsg7 (shL_no hL) u.heap.size ⟨0, none, 0, 0, none, 0, 0, none, 0, 0, none, 0, 0⟩ hz (ScK.new u ⟨0, none, 0, 0, none, 0, 0, none, 0, 0, none, 0, 0⟩) (fun h => .inr (hz4 h))
        have T2 : Hid _ := T2
        go_simp
        exact ⟨upd X (sg7 8) (.pointer (some ⟨u.heap.size, 0, none⟩)), t2, s2, ⟨0, none, 0, 0, none, 0, 0, none, 0, 0, none, 0, 0⟩, lo2, hi2, u.heap.size, by simp [mkD7, upd, sg7], by rw [shL_came]; exact T2.out, fun q => HT (ofL (by decide) q)⟩
      · simp only [List.getElem?_toArray, List.getElem?_cons_succ, List.getElem?_cons_zero, Option.some.injEq] at ho
        subst ho
        refine ⟨by simp [Region.wanted], ?_⟩
        simp only [mkD7]
        have h8 := shL_at (hE ⟨7, .data⟩ (by simp) rfl)
        obtain ⟨e8, h8b, h8c⟩ := T.f8 h8
        have e8 : X 9 = .pointer (some ⟨k2, 0, none⟩) := e8
        obtain ⟨h4, e6⟩ := T.f6 (shL_at (hE ⟨5, .data⟩ (by simp) rfl))
        have e6 : X 36 = .agg #[.int .i64 s2.g, .slice s2.lo s2.ll s2.lc, .slice s2.co s2.cl s2.cc, .slice s2.no s2.nl s2.nc, .slice s2.oo s2.ol s2.oc] := e6
        obtain ⟨j0, j1, j2, j3, j4⟩ := h8c.at
        have jf := fun i => h8c.free i
        have T2 := T.s9 h4 h8 (put5 u k2 (.int .i64 s2.g) (.slice s2.lo s2.ll s2.lc) (.slice s2.co s2.cl s2.cc) (.slice s2.no s2.nl s2.nc) (.slice s2.oo s2.ol s2.oc)) (h8c.put5T s2) (fun p q => Mky.keepX q (put5 u k2 (.int .i64 s2.g) (.slice s2.lo s2.ll s2.lc) (.slice s2.co s2.cl s2.cc) (.slice s2.no s2.nl s2.nc) (.slice s2.oo s2.ol s2.oc)) p)
        have T2 : Hid _ := T2
        go_simp
        exact ⟨X, t2, s2, _, lo2, hi2, k2, by simp [mkD7, e8, e6], by rw [shL_came]; exact T2.out, fun q => HT (ofL (by decide) q)⟩
      · simp only [List.getElem?_toArray, List.getElem?_cons_succ, List.getElem?_cons_zero, Option.some.injEq] at ho
        subst ho
        refine ⟨by simp [Region.wanted], ?_⟩
        simp only [mkD7]
        have e7 : X 37 = .int .i64 C := (T.f7 (shL_at (hE ⟨6, .data⟩ (by simp) rfl))).2
        go_simp
        refine ⟨upd X (sg7 10) _, t2, s2, sk2, lo2, hi2, k2, ?_, by rw [shL_came]; exact T.s10 hsg7, fun q => HT (ofL (by decide) q)⟩
        simp [mkD7, upd, sg7, e7]
      · simp only [List.getElem?_toArray, List.getElem?_cons_succ, List.getElem?_nil] at ho
        cases ho
    · intro L a u hI hall
      obtain ⟨X5, t2, s3, sG, lo3, hi3, kg, rfl, T, -⟩ := hI
      obtain ⟨e8, -, kG⟩ := T.f8 (shL_at (hall 7 (by decide)))
      have e8 : X5 9 = .pointer (some ⟨kg, 0, none⟩) := e8
      have e10 : X5 10 = .int .i64 C := T.f10 (shL_at (hall 9 (by decide)))
      obtain ⟨-, rfl⟩ := T.f9 (shL_at (hall 8 (by decide)))
      obtain ⟨-, S3, lo3b, hi3b, M3⟩ := T.f4 (shL_at (hall 3 (by decide)))
      have hkc := T.fc (shL_at (hall 3 (by decide))) (shL_at (hall 7 (by decide)))
      have hkgV := (T.f8 (shL_at (hall 7 (by decide)))).2.1
      have FX := (Fr.drew V).trans T.fr
      clear T hall
      simp only [mkD7, e8, e10]
      clear e8 e10
      obtain ⟨va, hvva⟩ : ∃ v : Value, v = .agg #[.int .i64 sg, .slice lo ll lc, .slice co cl cc, .slice no nl nc, .slice oo ol oc] := ⟨_, rfl⟩
      try simp only [← hvva]
      clear hvva
      obtain ⟨vb, hvvb⟩ : ∃ v : Value, v = .agg #[.int .i64 k, .int .i64 gr, .int .i64 o, .int .i64 wi, .int .i64 l, .int .i64 sz, .int .i64 f, .int .i64 t] := ⟨_, rfl⟩
      try simp only [← hvvb]
      clear hvvb
      obtain ⟨vc, hvvc⟩ : ∃ v : Value, v = .agg #[.int .i64 x0.g, .slice x0.lo x0.ll x0.lc, .slice x0.co x0.cl x0.cc, .slice x0.no x0.nl x0.nc, .slice x0.oo x0.ol x0.oc] := ⟨_, rfl⟩
      try simp only [← hvvc]
      clear hvvc
      have FU7 := FX3.trans FX
      have S2u := S2.fr FU7
      have KW : Hid (∀ v, Fr U5 v → ScB v kw sW) := fun v q => (kW.fr q).at
      obtain ⟨t0, t1, t2', t3, t4⟩ := KW.out u FU7
      obtain ⟨y0, y1, y2, y3, y4⟩ := kG.at
      have hne : (C != C) = false := by simp
      go_wp2_with fail
      refine (eqScene_same sG sW D u S3 S2u).mono ?_
      rintro x u8 ⟨rfl, f8⟩
      clear t0 t1 t2' t3 t4 y0 y1 y2 y3 y4 S2u
      obtain ⟨vd, hvvd⟩ : ∃ v : Value, v = .agg #[.int .i64 sG.g, .slice sG.lo sG.ll sG.lc, .slice sG.co sG.cl sG.cc, .slice sG.no sG.nl sG.nc, .slice sG.oo sG.ol sG.oc] := ⟨_, rfl⟩
      try simp only [← hvvd]
      clear hvvd
      obtain ⟨vf, hvvf⟩ : ∃ v : Value, v = .agg #[.int .i64 sW.g, .slice sW.lo sW.ll sW.lc, .slice sW.co sW.cl sW.cc, .slice sW.no sW.nl sW.nc, .slice sW.oo sW.ol sW.oc] := ⟨_, rfl⟩
      try simp only [← hvvf]
      clear hvvf
      have F8 := FU7.trans f8
      have G8 := FX.trans f8
      obtain ⟨⟨a0, a1, a2, a3, a4⟩, -⟩ := HQ.out u8 (FU.trans F8)
      simp only at a0 a1 a2 a3 a4
      have KX : Hid (∀ v, Fr V v → ScB v xb x0) := fun v q => (kX.fr q).at
      obtain ⟨x0', x1', x2', x3', x4'⟩ := KX.out u8 G8
      have cE := fun v (fv : Fr V v) t (h : ScR (fun b => u8.drew.heap.size ≤ b ∧ b < v.heap.size) v t m) => eqScene_same x0 t m v (SX.fr fv) h
      go_wp2_with fail
      go_region_held3 (fun u => (u.cell? ⟨A, 0, none⟩ = some (.int .i64 sg) ∧ u.cell? ⟨A, 1, none⟩ = some (.slice lo ll lc) ∧ u.cell? ⟨A, 2, none⟩ = some (.slice co cl cc) ∧ u.cell? ⟨A, 3, none⟩ = some (.slice no nl nc) ∧ u.cell? ⟨A, 4, none⟩ = some (.slice oo ol oc)) ∧ u.cell? ⟨xb, 0, none⟩ = some (.int .i64 x0.g) ∧ u.cell? ⟨xb, 1, none⟩ = some (.slice x0.lo x0.ll x0.lc) ∧ u.cell? ⟨xb, 2, none⟩ = some (.slice x0.co x0.cl x0.cc) ∧ u.cell? ⟨xb, 3, none⟩ = some (.slice x0.no x0.nl x0.nc) ∧ u.cell? ⟨xb, 4, none⟩ = some (.slice x0.oo x0.ol x0.oc)) (go_keep)
        (first | (go_at_call 33; refine (cT _ ((FU.trans F8).trans (Fr.drew u8))).mono ?_; rintro x u9 ⟨t9, rfl, T9, f9, -⟩; have g9 := (Fr.drew u8).trans f9; obtain ⟨⟨b0, b1, b2, b3, b4⟩, -⟩ := HQ.out u9 ((FU.trans F8).trans g9); obtain ⟨z0, z1, z2, z3, z4⟩ := KX.out u9 (G8.trans g9); simp only at b0 b1 b2 b3 b4) | (go_at_call 35; refine (cE _ (G8.trans g9) t9 T9).mono ?_; rintro x u10 ⟨rfl, f10⟩; have g10 := g9.trans f10; obtain ⟨⟨d0, d1, d2, d3, d4⟩, -⟩ := HQ.out u10 ((FU.trans F8).trans g10); obtain ⟨w0, w1, w2, w3, w4⟩ := KX.out u10 (G8.trans g10); simp only at d0 d1 d2 d3 d4))
      all_goals
        obtain ⟨vg, hvvg⟩ : ∃ v : Value, v = .agg #[.int .i64 sg, .slice lo ll lc, .slice co cl cc, .slice no nl nc, .slice oo ol oc] := ⟨_, rfl⟩
        try simp only [← hvvg]
        clear hvvg
        obtain ⟨vh, hvvh⟩ : ∃ v : Value, v = .agg #[.int .i64 x0.g, .slice x0.lo x0.ll x0.lc, .slice x0.co x0.cl x0.cc, .slice x0.no x0.nl x0.nc, .slice x0.oo x0.ol x0.oc] := ⟨_, rfl⟩
        try simp only [← hvvh]
        clear hvvh
        obtain ⟨vi, hvvi⟩ : ∃ v : Value, v = .agg #[.int .i64 t9.g, .slice t9.lo t9.ll t9.lc, .slice t9.co t9.cl t9.cc, .slice t9.no t9.nl t9.nc, .slice t9.oo t9.ol t9.oc] := ⟨_, rfl⟩
        try simp only [← hvvi]
        clear hvvi
        clear a0 a1 a2 a3 a4 x0' x1' x2' x3' x4' b0 b1 b2 b3 b4 z0 z1 z2 z3 z4 d0 d1 d2 d3 d4 T9 cE
        have F10 := F8.trans g10
        have G10 := G8.trans g10
        have h78 := f8.trans g10
        have S3b := S3.fr h78
        have M3b := Mky.fr M3 h78
        have kGb := kG.fr h78
        have cM := markScene_wk x0 m u10 (SX.fr G10) (WX.fr G10) (by have := G10.size; omega)
        go_wp2_with fail
        refine cM.mono ?_
        rintro x u11 ⟨r11, rfl, p11, m11⟩
        have F11 := F10.thenS m11 (fun j q => q.1)
        have lo3c : V.heap.size ≤ lo3 := lo3b
        have kgc : V.heap.size ≤ kg := hkgV
        have nS : ∀ x, (lo3 ≤ x ∧ x < hi3) → ¬ (U5.heap.size ≤ x ∧ x < u3.heap.size) := fun x q p => by omega
        have S4 := S3b.keepS m11 nS
        have M4 := Mky.keepS M3b m11 nS
        have kG4 : ScK u11 kg sG := (m11.block kg kGb.lt (fun q => by omega)).trans kGb
        obtain ⟨y0, y1, y2, y3, y4⟩ := kG4.at
        obtain ⟨t0, t1, t2', t3, t4⟩ := KW.out u11 F11
        have hk11 : (r11 < 0) = False := by simp only [eq_iff_iff, iff_false]; omega
        have hzV : U5.heap.size ≤ V.heap.size := FX3.size
        have HLO : Hid (U5.heap.size ≤ lo3 ∧ (kg < lo3 ∨ hi3 ≤ kg)) := ⟨by omega, hkc⟩
        clear cM S3b M3b kGb S3 M3 kG SX WX nS lo3b lo3c kgc hkgV hkc hi3b zx hzV p11 w0 w1 w2 w3 w4 F10 G10 h78 m11 f8 g10 g9 f9 f10 F8 G8
        go_wp2_with fail
        refine (eqScene_same sG sW D u11 S4 (S2.fr F11)).mono ?_
        rintro x u12 ⟨rfl, f12⟩
        clear y0 y1 y2 y3 y4 t0 t1 t2' t3 t4
        have F12 := F11.trans f12
        have kG5 := kG4.fr f12
        have S5 := S4.fr f12
        have M5 := Mky.fr M4 f12
        clear S4 M4 kG4 f12 F11
        obtain ⟨y0, y1, y2, y3, y4⟩ := kG5.at
        go_wp2_with fail
        refine (markS_any sG D u12 S5 M5).mono ?_
        rintro x u13 ⟨lvs, rfl, H13, f13⟩
        clear y0 y1 y2 y3 y4
        have F13 := F12.thenS f13 (fun j q => by have := HLO.out; omega)
        have kG6 : ScK u13 kg sG := (f13.block kg kG5.lt (fun q => by have := HLO.out; omega)).trans kG5
        clear S5 M5 kG5 f13 F12
        have b1 : (endS sG lvs < 0) = False := by
          have := endS_pos sG lvs
          simp only [eq_iff_iff, iff_false]
          omega
        have cH := fun u h => heldScene_any sG lvs u h
        obtain ⟨KK, hK2⟩ : ∃ K, K = endS sG lvs := ⟨_, rfl⟩
        simp only [← hK2] at cH b1 ⊢
        clear hK2
        have b2 : (KK != KK) = false := by simp
        obtain ⟨y0, y1, y2, y3, y4⟩ := kG6.at
        go_wp2_with fail
        refine (cH _ H13).mono ?_
        rintro x u14 ⟨rfl, f14⟩
        clear y0 y1 y2 y3 y4
        have F14 := F13.trans f14
        have kG7 := kG6.fr f14
        have H14 := H13.fr f14
        clear H13 kG6 f14 F13
        obtain ⟨⟨a0, a1, a2, a3, a4⟩, c0, c1, c2, c3, c4, c5, c6, c7⟩ := HQ.out u14 (FU.trans F14)
        simp only at a0 a1 a2 a3 a4 c0 c1 c2 c3 c4 c5 c6 c7
        go_wp2_with fail
        obtain ⟨vj, hvvj⟩ : ∃ v : Value, v = .agg #[.int .i64 sG.g, .slice sG.lo sG.ll sG.lc, .slice sG.co sG.cl sG.cc, .slice sG.no sG.nl sG.nc, .slice sG.oo sG.ol sG.oc] := ⟨_, rfl⟩
        try simp only [← hvvj]
        clear hvvj
        obtain ⟨vk, hvvk⟩ : ∃ v : Value, v = .agg #[.int .i64 sW.g, .slice sW.lo sW.ll sW.lc, .slice sW.co sW.cl sW.cc, .slice sW.no sW.nl sW.nc, .slice sW.oo sW.ol sW.oc] := ⟨_, rfl⟩
        try simp only [← hvvk]
        clear hvvk
        obtain ⟨vl, hvvl⟩ : ∃ v : Value, v = .agg #[.int .i64 x0.g, .slice x0.lo x0.ll x0.lc, .slice x0.co x0.cl x0.cc, .slice x0.no x0.nl x0.nc, .slice x0.oo x0.ol x0.oc] := ⟨_, rfl⟩
        try simp only [← hvvl]
        clear hvvl
        have hsg24 := dst_of (dst := sg24) (n := 11) (by kernel_rfl)
        refine wp_region_inv (InvD24 _ _ _ _ _ _ _ _ _ _ _ _ _ _ _ _ _ _ _ _ _ _ _ _ _ _ _ _ _ _ _ _ _ _ _ _ _ _ _ _ _ _ _ _ _ _ _ _ _ _ _ _ _ _ _ _ _ _ _ _ _ _ _ _ _ _ _ _ _ _ _ _ _ _ _ _ _ (.agg #[.int .i64 sg, .slice lo ll lc, .slice co cl cc, .slice no nl nc, .slice oo ol oc]) (.agg #[.int .i64 k, .int .i64 gr, .int .i64 o, .int .i64 wi, .int .i64 l, .int .i64 sz, .int .i64 f, .int .i64 t]) u14.drew m D C (fun _ _ _ _ => True)) (by kernel_rfl) (by kernel_rfl) ⟨fun _ => undef, ⟨0, none, 0, 0, none, 0, 0, none, 0, 0, none, 0, 0⟩, ⟨0, none, 0, 0, none, 0, 0, none, 0, 0, none, 0, 0⟩, ⟨0, none, 0, 0, none, 0, 0, none, 0, 0, none, 0, 0⟩, 0, 0, 0, rfl, TwoR.start _ _ _ _ _ _ _ _⟩ ?_ ?_
        · intro i o L a u ho hI hL hE
          obtain ⟨X, t2, s2, sk2, lo2, hi2, k2, rfl, T⟩ := hI
          have FW := (FU.trans F14).trans ((Fr.drew u14).trans T.fr)
          obtain ⟨⟨a0, a1, a2, a3, a4⟩, c0, c1, c2, c3, c4, c5, c6, c7⟩ := HQ.out u FW
          simp only at a0 a1 a2 a3 a4 c0 c1 c2 c3 c4 c5 c6 c7
          rcases i with _ | _ | _ | _ | _ | _ | _ | _ | _ | _ | _ | i
          · simp only [List.getElem?_toArray, List.getElem?_cons_zero, Option.some.injEq] at ho
            subst ho
            refine ⟨by simp [Region.wanted], ?_⟩
            simp only [mkD24]
            go_simp
            refine ⟨upd X (sg24 0) _, t2, s2, sk2, lo2, hi2, k2, ?_, T.s0 hsg24⟩
            rfl
          · simp only [List.getElem?_toArray, List.getElem?_cons_succ, List.getElem?_cons_zero, Option.some.injEq] at ho
            subst ho
            refine ⟨by simp [Region.wanted], ?_⟩
            simp only [mkD24]
            have e0 := T.f0 (hE ⟨0, .data⟩ (by simp) rfl)
            have e0 : X 80 = .agg #[.int .i64 sg, .slice lo ll lc, .slice co cl cc, .slice no nl nc, .slice oo ol oc] := e0
            have q := cT u FW
            go_simp
            refine q.mono ?_
            rintro x u' ⟨t3, rfl, S3, f3, -⟩
            refine ⟨upd X (sg24 1) _, t3, s2, sk2, lo2, hi2, k2, ?_, (T.grow f3 (fun _ _ _ _ => trivial)).s1 hsg24 t3 (S3.mono (fun b q => q.2))⟩
            simp [mkD24, upd, sg24, e0]
          · simp only [List.getElem?_toArray, List.getElem?_cons_succ, List.getElem?_cons_zero, Option.some.injEq] at ho
            subst ho
            refine ⟨by simp [Region.wanted], ?_⟩
            simp only [mkD24]
            go_simp
            refine ⟨upd X (sg24 2) _, t2, s2, sk2, lo2, hi2, k2, ?_, T.s2 hsg24⟩
            rfl
          · simp only [List.getElem?_toArray, List.getElem?_cons_succ, List.getElem?_cons_zero, Option.some.injEq] at ho
            subst ho
            refine ⟨by simp [Region.wanted], ?_⟩
            simp only [mkD24]
            have e2 : X 82 = .agg #[.int .i64 k, .int .i64 gr, .int .i64 o, .int .i64 wi, .int .i64 l, .int .i64 sz, .int .i64 f, .int .i64 t] := T.f2 (hE ⟨2, .data⟩ (by simp) rfl)
            have q := cT2 u
            go_simp
            refine q.mono ?_
            rintro x u' ⟨rfl, f3⟩
            refine ⟨upd X (sg24 3) _, t2, s2, sk2, lo2, hi2, k2, ?_, (T.grow f3 (fun _ _ _ _ => trivial)).s3 hsg24⟩
            simp [mkD24, upd, sg24, e2]
          · simp only [List.getElem?_toArray, List.getElem?_cons_succ, List.getElem?_cons_zero, Option.some.injEq] at ho
            subst ho
            refine ⟨by simp [Region.wanted], ?_⟩
            simp only [mkD24]
            obtain ⟨e1, S1⟩ := T.f1 (hE ⟨1, .data⟩ (by simp) rfl)
            have e1 : X 81 = .agg #[.int .i64 t2.g, .slice t2.lo t2.ll t2.lc, .slice t2.co t2.cl t2.cc, .slice t2.no t2.nl t2.nc, .slice t2.oo t2.ol t2.oc] := e1
            have e3 : X 83 = .agg #[.int .i64 k, .int .i64 gr, .int .i64 o, .int .i64 wi, .int .i64 l, .int .i64 sz, .int .i64 f, .int .i64 t] := T.f3 (hE ⟨3, .data⟩ (by simp) rfl)
            have h9 : L 9 = false := by
              cases h : L 9
              · rfl
              · have := (T.f9 h).1.1
                rw [hL] at this
                cases this
            have q := cI u t2 _ (S1 h9) (fun x q => q) (fW.trans FW)
            have hz := T.fr.size
            have hk8 := fun h => (T.f8 h).2.2.lt
            go_simp
            refine q.mono ?_
            rintro x u' ⟨s3, rfl, S3, f3, -⟩
            refine ⟨upd X (sg24 4) _, t2, s3, sk2, u.heap.size, u'.heap.size, k2, ?_, (T.grow f3 (fun _ _ _ _ => trivial)).s4 hsg24 hL s3 u.heap.size u'.heap.size S3 hz (Nat.le_refl _) trivial (fun h => .inl (hk8 h))⟩
            simp [mkD24, upd, sg24, e1, e3]
          · simp only [List.getElem?_toArray, List.getElem?_cons_succ, List.getElem?_cons_zero, Option.some.injEq] at ho
            subst ho
            refine ⟨by simp [Region.wanted], ?_⟩
            simp only [mkD24]
            have h4 := hE ⟨4, .data⟩ (by simp) rfl
            have e4 : X 84 = .tuple #[.agg #[.int .i64 s2.g, .slice s2.lo s2.ll s2.lc, .slice s2.co s2.cl s2.cc, .slice s2.no s2.nl s2.nc, .slice s2.oo s2.ol s2.oc], .int .i64 (C)] := (T.f4 h4).1
            go_simp
            refine ⟨upd X (sg24 5) _, t2, s2, sk2, lo2, hi2, k2, ?_, T.s5 hsg24 h4⟩
            simp [mkD24, upd, sg24, e4]
          · simp only [List.getElem?_toArray, List.getElem?_cons_succ, List.getElem?_cons_zero, Option.some.injEq] at ho
            subst ho
            refine ⟨by simp [Region.wanted], ?_⟩
            simp only [mkD24]
            obtain ⟨h4, e5⟩ := T.f5 (hE ⟨5, .data⟩ (by simp) rfl)
            have e5 : X 79 = .tuple #[.agg #[.int .i64 s2.g, .slice s2.lo s2.ll s2.lc, .slice s2.co s2.cl s2.cc, .slice s2.no s2.nl s2.nc, .slice s2.oo s2.ol s2.oc], .int .i64 (C)] := e5
            go_simp
            refine ⟨upd X (sg24 6) _, t2, s2, sk2, lo2, hi2, k2, ?_, T.s6 hsg24 h4⟩
            simp [mkD24, upd, sg24, e5]
          · simp only [List.getElem?_toArray, List.getElem?_cons_succ, List.getElem?_cons_zero, Option.some.injEq] at ho
            subst ho
            refine ⟨by simp [Region.wanted], ?_⟩
            simp only [mkD24]
            obtain ⟨h4, e5⟩ := T.f5 (hE ⟨5, .data⟩ (by simp) rfl)
            have e5 : X 79 = .tuple #[.agg #[.int .i64 s2.g, .slice s2.lo s2.ll s2.lc, .slice s2.co s2.cl s2.cc, .slice s2.no s2.nl s2.nc, .slice s2.oo s2.ol s2.oc], .int .i64 (C)] := e5
            go_simp
            refine ⟨upd X (sg24 7) _, t2, s2, sk2, lo2, hi2, k2, ?_, T.s7 hsg24 h4⟩
            simp [mkD24, upd, sg24, e5]
          · simp only [List.getElem?_toArray, List.getElem?_cons_succ, List.getElem?_cons_zero, Option.some.injEq] at ho
            subst ho
            refine ⟨by simp [Region.wanted], ?_⟩
            simp only [mkD24]
            have hz := T.fr.size
            have hz4 := fun h => (T.f4 h).2.2.2.1
            have T2 := (T.grow (Fr.alloc u (.cells #[.int .i64 0, .slice none 0 0, .slice none 0 0, .slice none 0 0, .slice none 0 0] 29)) (fun _ _ _ _ => trivial)).s8 hsg24 hL u.heap.size ⟨0, none, 0, 0, none, 0, 0, none, 0, 0, none, 0, 0⟩ hz (ScK.new u ⟨0, none, 0, 0, none, 0, 0, none, 0, 0, none, 0, 0⟩) (fun h => .inr (hz4 h))
            have T2 : Hid _ := T2
            go_simp
            exact ⟨upd X (sg24 8) _, t2, s2, _, lo2, hi2, _, by simp [mkD24, upd, sg24], T2.out⟩
          · simp only [List.getElem?_toArray, List.getElem?_cons_succ, List.getElem?_cons_zero, Option.some.injEq] at ho
            subst ho
            refine ⟨by simp [Region.wanted], ?_⟩
            simp only [mkD24]
            have h8 := hE ⟨8, .data⟩ (by simp) rfl
            obtain ⟨e8, h8b, h8c⟩ := T.f8 h8
            have e8 : X 14 = .pointer (some ⟨k2, 0, none⟩) := e8
            obtain ⟨h4, e6⟩ := T.f6 (hE ⟨6, .data⟩ (by simp) rfl)
            have e6 : X 85 = .agg #[.int .i64 s2.g, .slice s2.lo s2.ll s2.lc, .slice s2.co s2.cl s2.cc, .slice s2.no s2.nl s2.nc, .slice s2.oo s2.ol s2.oc] := e6
            obtain ⟨j0, j1, j2, j3, j4⟩ := h8c.at
            have jf := fun i => h8c.free i
            have T2 := T.s9 h4 h8 (put5 u k2 (.int .i64 s2.g) (.slice s2.lo s2.ll s2.lc) (.slice s2.co s2.cl s2.cc) (.slice s2.no s2.nl s2.nc) (.slice s2.oo s2.ol s2.oc)) (h8c.put5T s2) (fun _ _ => trivial)
            have T2 : Hid _ := T2
            go_simp
            exact ⟨X, t2, s2, _, lo2, hi2, k2, by simp [mkD24, e8, e6], T2.out⟩
          · simp only [List.getElem?_toArray, List.getElem?_cons_succ, List.getElem?_cons_zero, Option.some.injEq] at ho
            subst ho
            refine ⟨by simp [Region.wanted], ?_⟩
            simp only [mkD24]
            have e7 : X 86 = .int .i64 (C) := (T.f7 (hE ⟨7, .data⟩ (by simp) rfl)).2
            go_simp
            refine ⟨upd X (sg24 10) _, t2, s2, sk2, lo2, hi2, k2, ?_, T.s10 hsg24⟩
            simp [mkD24, upd, sg24, e7]
          · simp only [List.getElem?_toArray, List.getElem?_cons_succ, List.getElem?_nil] at ho
            cases ho
        · intro L a u hI hall
          obtain ⟨X9, t9, s9, sH, lo9, hi9, kh, rfl, T⟩ := hI
          obtain ⟨e8, -, kH⟩ := T.f8 (hall 8 (by decide))
          have e8 : X9 14 = .pointer (some ⟨kh, 0, none⟩) := e8
          have e10 : X9 15 = .int .i64 C := T.f10 (hall 10 (by decide))
          obtain ⟨-, rfl⟩ := T.f9 (hall 9 (by decide))
          obtain ⟨-, S9, -⟩ := T.f4 (hall 4 (by decide))
          have f15 := (Fr.drew u14).trans T.fr
          have F15 := F14.trans f15
          have kG8 := kG7.fr f15
          have H15 := H14.fr f15
          clear T hall a0 a1 a2 a3 a4 c0 c1 c2 c3 c4 c5 c6 c7 F14 kG7 H14 f15
          simp only [mkD24, e8, e10]
          clear e8 e10
          obtain ⟨y0, y1, y2, y3, y4⟩ := kH.at
          obtain ⟨t0, t1, t2', t3, t4⟩ := KW.out u F15
          go_wp2_with fail
          refine (eqScene_same sH sW D u S9 (S2.fr F15)).mono ?_
          rintro x u16 ⟨rfl, f16⟩
          clear y0 y1 y2 y3 y4 t0 t1 t2' t3 t4
          have F16 := F15.trans f16
          have kG9 := kG8.fr f16
          have H16 := H15.fr f16
          obtain ⟨y0, y1, y2, y3, y4⟩ := kG9.at
          go_wp2_with fail
          refine (cH _ H16).mono ?_
          rintro x u17 ⟨rfl, f17⟩
          go_wp2_with fail
          go_ret
          exact ⟨rfl, (fW.trans (FU.trans (F16.trans f17))).below⟩

theorem own : ownKnob Tryz.prog.godebug = none := by kernel_rfl
theorem laidOut : laidOutB Tryz.prog = true := by kernel_rfl
theorem met (os : Os) (args : Array Value) : laidMetH Tryz.prog Rows.fnExactDoneRow.laid ((World.doorLaid Tryz.prog 400 os).forCall (fun _ _ => 0) ⟨#[], args, []⟩).memory :=
  laidMetH_of_parts3 (fuel := 8) (laidMet_of_run' 8 (by kernel_rfl) (by kernel_rfl)) (by kernel_rfl) (by kernel_rfl)
theorem tables {W : World} (h : laidMetH Tryz.prog Rows.fnExactDoneRow.laid W) : Shapes W := by
  rw [MakeChecks.laidMetH_plain _ _ _ (by kernel_rfl)] at h
  obtain ⟨ps, hl, -⟩ := h
  exact shapes_of hl

set_option maxRecDepth 100000 in
theorem lifted (os : Os) (started : os.Started) (H : Type) (enc : TypeId × Value → H) :
    ReturnsInHanded {} Tryz.checked os 7 .any (fun w args => (Rows.fnExactDoneSpec.pre enc Tryz.prog Tryz.f7 [] false w args ∧ laidMetH Tryz.prog Rows.fnExactDoneRow.laid w) ∧ sizedMet enc Tryz.prog Tryz.f7 (OpenSpec.ofChange Rows.fnExactDoneSpec) false w args)
      (Rows.fnExactDoneSpec.post enc Tryz.prog Tryz.f7 false true false false) := by
  refine returnsInHanded_of_change_and (C := Tryz.checked) (X := fun w _ => laidMetH Tryz.prog Rows.fnExactDoneRow.laid w) (fun _ _ _ hh h => h.of_heap hh) own started (by kernel_rfl) Tryz.func7
    (ChangeSpec.witness_shaped (enc := enc) (C := Tryz.checked) (os := os) (X := fun w _ => laidMetH Tryz.prog Rows.fnExactDoneRow.laid w) false (World.doorLaid Tryz.prog 400 os) #[.agg #[.int .i64 0, .slice none 0 0, .slice none 0 0, .slice none 0 0, .slice none 0 0], .agg #[.int .i64 0, .int .i64 0, .int .i64 0, .int .i64 0, .int .i64 0, .int .i64 0, .int .i64 0, .int .i64 0]] 8 rfl (World.shaped_of_RefB (by kernel_rfl) (by kernel_rfl)) (by kernel_rfl) (by kernel_rfl) (by kernel_rfl) (met os _)) ?_
  intro W base args ds gs before hval0 hW _ _ hL _
  have hval : ∀ (j : Nat) t v, Tryz.f7.params[j]? = some t → args[j]? = some v → Value.okWide Tryz.prog W .any base t v := hval0
  have hW' := hW
  obtain ⟨p, q, hA0, hV, rfl, hfz, hnd⟩ := hW
  have hA : DataW.TrodAll enc Tryz.prog W 0 (fun _ => true) true Tryz.f7.params.toList args.toList ds p := hA0
  rw [Tryz.params7] at hA hval
  obtain ⟨v0, vs0, d0, ds0, p0, q0, hargs, rfl, rfl, h0, r0⟩ := trodAll_cons hA
  obtain ⟨v1, vs1, d1, ds1, p1, q1, rfl, rfl, rfl, h1, r1⟩ := trodAll_cons r0
  obtain ⟨rfl, rfl, rfl⟩ := trodAll_nil r1
  obtain rfl : args = #[v0, v1] := by cases args; simp_all
  have k0 := h0
  have lt0 : ∀ x ∈ p0, x.block < W.heap.size := by obtain ⟨m, hm⟩ := k0; exact DataW.trod_lt m _ _ _ hm
  have k1 := h1
  have lt1 : ∀ x ∈ p1, x.block < W.heap.size := by obtain ⟨m, hm⟩ := k1; exact DataW.trod_lt m _ _ _ hm
  obtain ⟨s0, rfl, i0⟩ := sc_of_arg (hval 0 54 v0 rfl rfl) h0
  obtain ⟨e1, rfl, i1⟩ := ev_of_arg (hval 1 55 v1 rfl rfl) h1
  clear hA0 hval0
  refine (walk s0 e1 W i0 i1 (tables hL)).mono fun e W' ⟨he, bel⟩ => ?_
  subst he
  match gs, hV with
  | [g1], hV =>
    exact ⟨_, rfl, _, _, _, [], _, _, hW', trodAll_mk1 (shut_bool Tryz.underlying4 _), (trodAll_cons_mk (Below.trod laidOut (by kernel_rfl) (of_decide_eq_true (by kernel_rfl)) k0 bel lt0) (trodAll_cons_mk (Below.trod laidOut (by kernel_rfl) (of_decide_eq_true (by kernel_rfl)) k1 bel lt1) trodAll_mk0)), Below.trodVars laidOut bel (by kernel_rfl) hV, bel.frame _, fun h => by cases h⟩

theorem over : Rows.fnExactDoneRow.holds Tryz.pinned (OpenSpec.ofChange Rows.fnExactDoneSpec) :=
  OpenClaim.holds_of_wide 7 Tryz.f7 rfl rfl rfl rfl rfl rfl rfl ⟨rfl, rfl, rfl, rfl, rfl⟩ rfl rfl rfl rfl rfl (by kernel_rfl) Tryz.func7 (by kernel_rfl)
    (of_decide_eq_true (by kernel_rfl)) (by unfold Func.isWrapper; first | (rw [if_pos (by decide +kernel)]; kernel_rfl) | (rw [if_neg (by decide +kernel)]; exact ⟨rfl, rfl⟩))
    (fun os started H enc _ => lifted os started H enc)

theorem carded : Rows.FnExactDoneCardSaid :=
  Claim7.holds_tied_plain_at .later [] [.data] true (true, "c8c86fbfcb0ec0263521a6b49a723e48f4ddd29d4ec6979f56b84374441e9c3a") false
    over (fun _ h => by cases h) (by kernel_rfl) (fun _ h => by cases h) fnExactDone_row_tie rfl ⟨rfl, rfl⟩ (by kernel_rfl) rfl
    (fun f fn hf hfn => by
      obtain rfl : f = 7 := Option.some.inj ((show Tryz.prog.funcNamed "loop.example/g00720/laws.FnExactDone" = some 7 by kernel_rfl).symm.trans hf) |>.symm
      obtain rfl : fn = Tryz.f7 := (Option.some.inj (Tryz.func7.symm.trans hfn)).symm
      exact ⟨by kernel_rfl, fun j t ht => by
        rw [Tryz.params7] at ht
        have hm : t ∈ [54, 55] := by simpa using Array.mem_of_getElem? ht
        have hall : ([54, 55].all fun u => !Tryz.prog.wantsStandIn u) = true := by kernel_rfl
        exact (show Tryz.prog.wantsStandIn t = false by simpa using List.all_eq_true.1 hall t hm)⟩)
    (by kernel_rfl)
end Go.Proofs.YtplnijpolkflcaaGreatDoor.fnExactDone
namespace Go.Proofs.YtplnijpolkflcaaGreatDoor
theorem fnExactDone_holds : Rows.FnExactDoneCardSaid := fnExactDone.carded
end Go.Proofs.YtplnijpolkflcaaGreatDoor
