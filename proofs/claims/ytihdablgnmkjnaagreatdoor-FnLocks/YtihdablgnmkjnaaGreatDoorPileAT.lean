/-
  The program's Done.
-/
import Derived.Test.YtihdablgnmkjnaaGreatDoorPileAS
import Derived.Test.YtihdablgnmkjnaaGreatDoorPileAL
import Derived.Test.YtihdablgnmkjnaaGreatDoorPileAJ
import Derived.Test.YtihdablgnmkjnaaGreatDoorPileAP
import Derived.Test.YtihdablgnmkjnaaGreatDoorPileAB
import Derived.Test.YtihdablgnmkjnaaGreatDoorPileAA
import Derived.Maps.AppendAt
import Derived.Test.YtihdablgnmkjnaaGreatDoorPileAC
namespace Go.Proofs.YtihdablgnmkjnaaGreatDoor
open Go.RowKit

/-- What Done leaves of a scene. -/
def doneS (m : Scn) (e : Ev) : Scn := if scB m = true then stepS m e else ⟨0, [], [], [], []⟩

/-- The board of a right scene. -/
theorem boardW_any {B : Nat → Prop} (s : Sv) (m : Scn) (w : World) (h : ScR B w s m) (hB : ∀ x, B x → x < w.heap.size) (hm : scB m = true) :
    Calls Tryz.prog 40 #[.agg #[.int .i64 s.g, .slice s.lo s.ll s.lc, .slice s.co s.cl s.cc, .slice s.no s.nl s.nc, .slice s.oo s.ol s.oc]] w fun e w' => ∃ b b1 b2 b3 b4, e = .returned (.pointer (some ⟨b, 0, none⟩)) ∧ w.heap.size ≤ b1 ∧ BoardW (w.heap.size, b + 1) w' b b1 b2 b3 b4 1048576 m ∧ Fr w w' := by
  obtain ⟨lvs, r1, e1, l1⟩ := h.lks
  refine (boardOf_any s m lvs w h r1 e1 l1).mono ?_
  rintro e w' ⟨b, b1, b2, b3, b4, rfl, ⟨q0, q1, q2, q3, q4⟩, Bd, f⟩
  have M := boardM_of hm (l1.fr f) h.sl h.sc h.sn h.so Bd
  have hlt := (Array.getElem?_eq_some_iff.1 Bd.row).1
  obtain ⟨fl, p1, p2⟩ := M.m1
  exact ⟨b, b1, b2, b3, b4, rfl, q0, ⟨⟨q0, by simp only; omega, by simp only; omega⟩, Bd.row, ⟨q1, q2, q3, q4⟩, ⟨fl, p1, fun o => (p2 o).mono (fun x q => .inl (hB x q))⟩, M.m2, M.m3, M.m4⟩, f⟩

set_option maxRecDepth 20000 in
set_option maxHeartbeats 4000000 in
theorem implDone_any {B : Nat → Prop} (s : Sv) (m : Scn) (e : Ev) (w : World) (h : ScR B w s m) (hB : ∀ x, B x → x < w.heap.size) (hs : Shapes w) :
    Calls Tryz.prog 10 #[.agg #[.int .i64 s.g, .slice s.lo s.ll s.lc, .slice s.co s.cl s.cc, .slice s.no s.nl s.nc, .slice s.oo s.ol s.oc], .agg #[.int .i64 e.k, .int .i64 e.g, .int .i64 e.o, .int .i64 e.w, .int .i64 e.l, .int .i64 e.s, .int .i64 e.f, .int .i64 e.t]] w fun x w' => ∃ s' : Sv, x = .returned (.tuple #[.agg #[.int .i64 s'.g, .slice s'.lo s'.ll s'.lc, .slice s'.co s'.cl s'.cc, .slice s'.no s'.nl s'.nc, .slice s'.oo s'.ol s'.oc], .int .i64 (codeIn m e)]) ∧ ScR (fun x => w.heap.size ≤ x ∧ x < w'.heap.size) w' s' (doneS m e) ∧ Fr w w' ∧ Mky w.heap.size w'.heap.size w' s' (doneS m e) := by
  obtain ⟨k1, k2, fW, hz⟩ := box2 w s e
  have fR := Fr.alloc ((w.alloc (.cells #[.int .i64 s.g, .slice s.lo s.ll s.lc, .slice s.co s.cl s.cc, .slice s.no s.nl s.nc, .slice s.oo s.ol s.oc] 29)).alloc (.cells #[.int .i64 e.k, .int .i64 e.g, .int .i64 e.o, .int .i64 e.w, .int .i64 e.l, .int .i64 e.s, .int .i64 e.f, .int .i64 e.t] 31)) (.cells #[.int .i64 0, .slice none 0 0, .slice none 0 0, .slice none 0 0, .slice none 0 0] 29)
  have k3 := ScK.new ((w.alloc (.cells #[.int .i64 s.g, .slice s.lo s.ll s.lc, .slice s.co s.cl s.cc, .slice s.no s.nl s.nc, .slice s.oo s.ol s.oc] 29)).alloc (.cells #[.int .i64 e.k, .int .i64 e.g, .int .i64 e.o, .int .i64 e.w, .int .i64 e.l, .int .i64 e.s, .int .i64 e.f, .int .i64 e.t] 31)) ⟨0, none, 0, 0, none, 0, 0, none, 0, 0, none, 0, 0⟩
  rw [hz] at k3
  have k1 := k1.fr fR
  have k2 := k2.keep fR (by simp)
  have fW := fW.trans fR
  have cS := fun u (f : Fr w u) => implScene_any s m u (h.fr f)
  have cB := fun (q : scB m = true) u (f : Fr w u) => boardW_any s m u (h.fr f) (fun x hx => by have := hB x hx; have := f.size; omega) q
  have cT := fun (q : scB m = true) lo b b1 b2 b3 b4 u (f : Fr w u) (Bd : BoardW lo u b b1 b2 b3 b4 1048576 m) => try_any e u Bd q (hs.fr f) (by omega)
  have HZ : Hid (scB m = false → codeIn m e = 1 ∧ doneS m e = ⟨0, [], [], [], []⟩) := fun q => ⟨by simp [codeIn, q], by simp [doneS, q]⟩
  have HY : Hid (scB m = true → doneS m e = stepS m e ∧ scB (stepS m e) = true) := fun q => ⟨if_pos q, step_ok q e⟩
  have hs0 := hs
  clear h hB hs fR hz
  obtain ⟨C, hC⟩ : ∃ C, C = codeIn m e := ⟨_, rfl⟩
  obtain ⟨D, hD⟩ : ∃ C, C = doneS m e := ⟨_, rfl⟩
  obtain ⟨S, hS⟩ : ∃ C, C = stepS m e := ⟨_, rfl⟩
  obtain ⟨SO, hSO⟩ : ∃ S, S = scB m := ⟨_, rfl⟩
  simp only [← hC, ← hS] at cT
  rw [← hC, ← hD] at HZ ⊢
  rw [← hD, ← hS] at HY
  simp only [← hSO] at cS cB cT HZ HY
  clear hC hD hS hSO
  obtain ⟨k, gr, o, wi, l, sz, f, t⟩ := e
  obtain ⟨sg, lo, ll, lc, co, cl, cc, no, nl, nc, oo, ol, oc⟩ := s
  simp only at k1 k2 k3 fW cS cB cT ⊢
  go_enter Tryz.func10, Tryz.ntmps10
  go_wp2_with fail
  obtain ⟨W, hW⟩ : ∃ W, W = ((w.alloc (.cells #[.int .i64 sg, .slice lo ll lc, .slice co cl cc, .slice no nl nc, .slice oo ol oc] 29)).alloc (.cells #[.int .i64 k, .int .i64 gr, .int .i64 o, .int .i64 wi, .int .i64 l, .int .i64 sz, .int .i64 f, .int .i64 t] 31)).alloc (.cells #[.int .i64 0, .slice none 0 0, .slice none 0 0, .slice none 0 0, .slice none 0 0] 29) := ⟨_, rfl⟩
  rw [← hW] at k1 k2 k3 fW ⊢
  clear hW
  obtain ⟨A, hA⟩ : ∃ A, A = w.heap.size := ⟨_, rfl⟩
  rw [← hA] at k1 k2 k3 ⊢
  have HA : Hid (A = w.heap.size) := hA
  clear hA
  have HQ : Hid (∀ u, Fr W u → ScB u A ⟨sg, lo, ll, lc, co, cl, cc, no, nl, nc, oo, ol, oc⟩ ∧ EvAt u (A + 1) ⟨k, gr, o, wi, l, sz, f, t⟩ ∧ ScK u (A + 2) ⟨0, none, 0, 0, none, 0, 0, none, 0, 0, none, 0, 0⟩) := fun u f => ⟨(k1.fr f).at, (k2.keep f (by simp)).at, k3.fr f⟩
  clear k1 k2 k3
  refine (cS W fW).mono ?_
  rintro x u1 ⟨rfl, f1⟩
  clear cS
  obtain ⟨⟨s0, s1, s2, s3, s4⟩, -, kr⟩ := HQ.out u1 f1
  simp only at s0 s1 s2 s3 s4
  cases SO
  · obtain ⟨rfl, rfl⟩ := HZ.out rfl
    clear cB cT
    obtain ⟨j0, j1, j2, j3, j4⟩ := kr.at
    simp only at j0 j1 j2 j3 j4
    have jf := fun i => kr.free i
    go_wp2_with fail
    have k5 := put5 u1 (A + 2) (.int .i64 0) (.slice none 0 0) (.slice none 0 0) (.slice none 0 0) (.slice none 0 0)
    refine bodyPost_ret (v := .tuple #[.agg #[.int .i64 0, .slice none 0 0, .slice none 0 0, .slice none 0 0, .slice none 0 0], .int .i64 1]) (by simp [results, Tryz.results10, go_sem, j0, j1, j2, j3, j4]) rfl ⟨⟨0, none, 0, 0, none, 0, 0, none, 0, 0, none, 0, 0⟩, rfl, scR_zero _ _, (fW.trans f1).then k5 (fun j hj => by simp only [Option.some.injEq] at hj; have := HA.out; omega), .inr rfl⟩
  · obtain ⟨rfl, hok⟩ := HY.out rfl
    have cB2 := cB (by trivial)
    have cT2 := cT (by trivial)
    clear cB cT
    have HOK : Hid (scB D = true) := hok
    clear HZ HY hok kr
    go_wp2_with fail
    refine (cB2 u1 (fW.trans f1)).mono ?_
    rintro x u2 ⟨b, b1, b2, b3, b4, rfl, hb1, B2, f2⟩
    have G2 := f1.trans f2
    have hbl := B2.lt
    clear cB2 s0 s1 s2 s3 s4
    obtain ⟨-, ⟨c0, c1, c2, c3, c4, c5, c6, c7⟩, -⟩ := HQ.out u2 G2
    simp only at c0 c1 c2 c3 c4 c5 c6 c7
    go_wp2_with fail
    refine (cT2 _ b b1 b2 b3 b4 u2 (fW.trans G2) B2).mono ?_
    rintro x u3 ⟨rfl, B3, y, oy, g3⟩
    have hu1 := f1.size
    have hw1 := fW.size
    have hAl : A + 2 < W.heap.size := (HQ.out W (Fr.refl W)).2.2.lt
    have G3 : Fr W u3 := G2.then g3 (fun j hj => by simp only [Option.some.injEq] at hj; unfold On at oy; omega)
    clear cT2 c0 c1 c2 c3 c4 c5 c6 c7
    go_wp2_with fail
    refine (scene_any u3 B3 HOK.out (by omega)).mono ?_
    rintro x u4 ⟨⟨sg', lo1, ll1, lc1, co1, cl1, cc1, no1, nl1, nc1, oo1, ol1, oc1⟩, rfl, S4, f4, gl, gc, gn, go, ys, O4⟩
    have G4 := G3.trans f4
    obtain ⟨-, -, kr⟩ := HQ.out u4 G4
    obtain ⟨j0, j1, j2, j3, j4⟩ := kr.at
    simp only at j0 j1 j2 j3 j4
    have jf := fun i => kr.free i
    have hu3 := G3.size
    have HS4 : Hid _ := S4
    have HO4 : Hid _ := O4
    clear S4 O4
    go_wp2_with fail
    have k5 := put5 u4 (A + 2) (.int .i64 sg') (.slice lo1 ll1 lc1) (.slice co1 cl1 cc1) (.slice no1 nl1 nc1) (.slice oo1 ol1 oc1)
    have z5 := k5.size
    refine bodyPost_ret (v := .tuple #[.agg #[.int .i64 sg', .slice lo1 ll1 lc1, .slice co1 cl1 cc1, .slice no1 nl1 nc1, .slice oo1 ol1 oc1], .int .i64 C]) (by simp [results, Tryz.results10, go_sem, j0, j1, j2, j3, j4]) rfl ⟨⟨sg', lo1, ll1, lc1, co1, cl1, cc1, no1, nl1, nc1, oo1, ol1, oc1⟩, rfl, ?_, (fW.trans G4).then k5 (fun j hj => by simp only [Option.some.injEq] at hj; have := HA.out; omega), .inl ⟨gl, gc, gn, go, ys, (HO4.out.keep k5 (.inl (by omega))).lower (by have := HA.out; omega), fun x hx => Nat.lt_of_lt_of_le (HO4.out.lo x hx).2 z5⟩⟩
    exact (HS4.out.keep k5 (fun x hx => by cases hx; exact fun (q : u3.heap.size ≤ A + 2 ∧ A + 2 < u4.heap.size) => by omega)).mono (fun x (q : u3.heap.size ≤ x ∧ x < u4.heap.size) => ⟨by have h1 := HA.out; have h2 := q.1; omega, Nat.lt_of_lt_of_le q.2 z5⟩)
end Go.Proofs.YtihdablgnmkjnaaGreatDoor
/-
  The specification's Done.
-/
namespace Go.Proofs.YtihdablgnmkjnaaGreatDoor
open Go.RowKit

theorem done_no {m : Scn} {e : Ev} (h : scB m = true) (hc : codeIn m e ≠ 0) : doneS m e = m := by
  rw [doneS, if_pos h, stepS, if_neg hc]
theorem done_yes {m : Scn} {e : Ev} (h : scB m = true) (hc : codeIn m e = 0) : doneS m e = doS m e := by
  rw [doneS, if_pos h, stepS, if_pos hc]

set_option maxRecDepth 20000 in
set_option maxHeartbeats 4000000 in
theorem specDone_any {B : Nat → Prop} (s : Sv) (m : Scn) (e : Ev) (w : World) (h : ScR B w s m) :
    Calls Tryz.prog 25 #[.agg #[.int .i64 s.g, .slice s.lo s.ll s.lc, .slice s.co s.cl s.cc, .slice s.no s.nl s.nc, .slice s.oo s.ol s.oc], .agg #[.int .i64 e.k, .int .i64 e.g, .int .i64 e.o, .int .i64 e.w, .int .i64 e.l, .int .i64 e.s, .int .i64 e.f, .int .i64 e.t]] w fun x w' => ∃ s' : Sv, x = .returned (.tuple #[.agg #[.int .i64 s'.g, .slice s'.lo s'.ll s'.lc, .slice s'.co s'.cl s'.cc, .slice s'.no s'.nl s'.nc, .slice s'.oo s'.ol s'.oc], .int .i64 (codeIn m e)]) ∧ ScR (fun x => w.heap.size ≤ x ∧ x < w'.heap.size) w' s' (doneS m e) ∧ Fr w w' := by
  obtain ⟨k1, k2, fW, hz⟩ := box2 w s e
  have fR := Fr.alloc ((w.alloc (.cells #[.int .i64 s.g, .slice s.lo s.ll s.lc, .slice s.co s.cl s.cc, .slice s.no s.nl s.nc, .slice s.oo s.ol s.oc] 29)).alloc (.cells #[.int .i64 e.k, .int .i64 e.g, .int .i64 e.o, .int .i64 e.w, .int .i64 e.l, .int .i64 e.s, .int .i64 e.f, .int .i64 e.t] 31)) (.cells #[.int .i64 0, .slice none 0 0, .slice none 0 0, .slice none 0 0, .slice none 0 0] 29)
  have k3 := ScK.new ((w.alloc (.cells #[.int .i64 s.g, .slice s.lo s.ll s.lc, .slice s.co s.cl s.cc, .slice s.no s.nl s.nc, .slice s.oo s.ol s.oc] 29)).alloc (.cells #[.int .i64 e.k, .int .i64 e.g, .int .i64 e.o, .int .i64 e.w, .int .i64 e.l, .int .i64 e.s, .int .i64 e.f, .int .i64 e.t] 31)) ⟨0, none, 0, 0, none, 0, 0, none, 0, 0, none, 0, 0⟩
  rw [hz] at k3
  have k1 := k1.fr fR
  have k2 := k2.keep fR (by simp)
  have fW := fW.trans fR
  have cS := fun u (f : Fr w u) => sceneOk_any s m u (h.fr f)
  have cC := fun u (f : Fr w u) => codeIn_all s m e u (h.fr f)
  have cY := fun u (f : Fr w u) => l4Copy_any s m u (h.fr f)
  have cD := fun (q : codeIn m e = 0) (s' : Sv) (lo hi : Nat) u (hS : ScR (fun b => lo ≤ b ∧ b < hi) u s' m) (hh : hi ≤ u.heap.size) => l4Do_any s' m e u (code_parts q).2.1 (code_parts q).1 (fun b hb => Nat.lt_of_lt_of_le hb.2 hh) hS
  have HZ : Hid (scB m = false → codeIn m e = 1 ∧ doneS m e = ⟨0, [], [], [], []⟩) := fun q => ⟨by simp [codeIn, q], by simp [doneS, q]⟩
  have HN : Hid (scB m = true → codeIn m e ≠ 0 → doneS m e = m) := fun q q2 => done_no q q2
  have HY : Hid (scB m = true → codeIn m e = 0 → doneS m e = doS m e) := fun q q2 => done_yes q q2
  clear h fR hz
  obtain ⟨C, hC⟩ : ∃ C, C = codeIn m e := ⟨_, rfl⟩
  obtain ⟨D, hD⟩ : ∃ C, C = doneS m e := ⟨_, rfl⟩
  obtain ⟨S, hS⟩ : ∃ C, C = doS m e := ⟨_, rfl⟩
  obtain ⟨SO, hSO⟩ : ∃ S, S = scB m := ⟨_, rfl⟩
  simp only [← hC] at cC cD
  simp only [← hS] at cD
  rw [← hC, ← hD] at HZ ⊢
  rw [← hC, ← hD] at HN HY
  rw [← hS] at HY
  simp only [← hSO] at cS HZ HN HY
  clear hC hD hS hSO
  obtain ⟨k, gr, o, wi, l, sz, f, t⟩ := e
  obtain ⟨sg, lo, ll, lc, co, cl, cc, no, nl, nc, oo, ol, oc⟩ := s
  simp only at k1 k2 k3 fW cS cC cY cD ⊢
  go_enter Tryz.func25, Tryz.ntmps25
  go_wp2_with fail
  obtain ⟨W, hW⟩ : ∃ W, W = ((w.alloc (.cells #[.int .i64 sg, .slice lo ll lc, .slice co cl cc, .slice no nl nc, .slice oo ol oc] 29)).alloc (.cells #[.int .i64 k, .int .i64 gr, .int .i64 o, .int .i64 wi, .int .i64 l, .int .i64 sz, .int .i64 f, .int .i64 t] 31)).alloc (.cells #[.int .i64 0, .slice none 0 0, .slice none 0 0, .slice none 0 0, .slice none 0 0] 29) := ⟨_, rfl⟩
  rw [← hW] at k1 k2 k3 fW ⊢
  clear hW
  obtain ⟨A, hA⟩ : ∃ A, A = w.heap.size := ⟨_, rfl⟩
  rw [← hA] at k1 k2 k3 ⊢
  have HA : Hid (A = w.heap.size) := hA
  clear hA
  have HQ : Hid (∀ u, Fr W u → ScB u A ⟨sg, lo, ll, lc, co, cl, cc, no, nl, nc, oo, ol, oc⟩ ∧ EvAt u (A + 1) ⟨k, gr, o, wi, l, sz, f, t⟩ ∧ ScK u (A + 2) ⟨0, none, 0, 0, none, 0, 0, none, 0, 0, none, 0, 0⟩) := fun u f => ⟨(k1.fr f).at, (k2.keep f (by simp)).at, k3.fr f⟩
  clear k1 k2 k3
  have hAl : A + 2 < W.heap.size := (HQ.out W (Fr.refl W)).2.2.lt
  refine (cS W fW).mono ?_
  rintro x u1 ⟨rfl, f1⟩
  clear cS
  obtain ⟨⟨s0, s1, s2, s3, s4⟩, ⟨c0, c1, c2, c3, c4, c5, c6, c7⟩, kr⟩ := HQ.out u1 f1
  simp only at s0 s1 s2 s3 s4 c0 c1 c2 c3 c4 c5 c6 c7
  cases SO
  · obtain ⟨rfl, rfl⟩ := HZ.out rfl
    obtain ⟨j0, j1, j2, j3, j4⟩ := kr.at
    simp only at j0 j1 j2 j3 j4
    have jf := fun i => kr.free i
    clear cC cY cD HN HY
    go_wp2_with fail
    have k5 := put5 u1 (A + 2) (.int .i64 0) (.slice none 0 0) (.slice none 0 0) (.slice none 0 0) (.slice none 0 0)
    refine bodyPost_ret (v := .tuple #[.agg #[.int .i64 0, .slice none 0 0, .slice none 0 0, .slice none 0 0, .slice none 0 0], .int .i64 1]) (by simp [results, Tryz.results25, go_sem, j0, j1, j2, j3, j4]) rfl ⟨⟨0, none, 0, 0, none, 0, 0, none, 0, 0, none, 0, 0⟩, rfl, scR_zero _ _, (fW.trans f1).then k5 (fun j hj => by simp only [Option.some.injEq] at hj; have := HA.out; omega)⟩
  · have HN2 : C ≠ 0 → D = m := HN.out rfl
    have HY2 : C = 0 → D = S := HY.out rfl
    clear HN HY
    have HN : Hid (C ≠ 0 → D = m) := HN2
    have HY : Hid (C = 0 → D = S) := HY2
    clear HN2 HY2
    clear HZ kr
    go_wp2_with fail
    refine (cC u1 (fW.trans f1)).mono ?_
    rintro x u2 ⟨rfl, f2⟩
    have G2 := f1.trans f2
    clear cC s0 s1 s2 s3 s4 c0 c1 c2 c3 c4 c5 c6 c7
    obtain ⟨⟨s0, s1, s2, s3, s4⟩, ⟨c0, c1, c2, c3, c4, c5, c6, c7⟩, -⟩ := HQ.out u2 G2
    simp only at s0 s1 s2 s3 s4 c0 c1 c2 c3 c4 c5 c6 c7
    by_cases hC0 : C = 0
    · have hcb : (C != 0) = false := by simp [hC0]
      have HD : Hid (D = S) := HY.out hC0
      have cD := cD hC0
      have HC0 : Hid (C = 0) := hC0
      clear hC0 HN HY
      have gd := G2.trans (Fr.drew u2)
      have hn1 : ¬ A = A + 1 + 1 := by omega
      have hn2 : ¬ A + 1 + 1 = A := by omega
      have hn3 : ¬ A = A + 2 := by omega
      have hn4 : ¬ A + 2 = A := by omega
      go_wp2_with fail
      go_region_held3 (fun u => (u.cell? ⟨A, 0, none⟩ = some (.int .i64 sg) ∧ u.cell? ⟨A, 1, none⟩ = some (.slice lo ll lc) ∧ u.cell? ⟨A, 2, none⟩ = some (.slice co cl cc) ∧ u.cell? ⟨A, 3, none⟩ = some (.slice no nl nc) ∧ u.cell? ⟨A, 4, none⟩ = some (.slice oo ol oc)) ∧ u.cell? ⟨A + 1, 0, none⟩ = some (.int .i64 k) ∧ u.cell? ⟨A + 1, 1, none⟩ = some (.int .i64 gr) ∧ u.cell? ⟨A + 1, 2, none⟩ = some (.int .i64 o) ∧ u.cell? ⟨A + 1, 3, none⟩ = some (.int .i64 wi) ∧ u.cell? ⟨A + 1, 4, none⟩ = some (.int .i64 l) ∧ u.cell? ⟨A + 1, 5, none⟩ = some (.int .i64 sz) ∧ u.cell? ⟨A + 1, 6, none⟩ = some (.int .i64 f) ∧ u.cell? ⟨A + 1, 7, none⟩ = some (.int .i64 t)) (go_keep)
        (first | (go_at_call 72; refine (cY _ (fW.trans gd)).mono ?_; rintro x u3 ⟨⟨rg, rlo, rll, rlc, rco, rcl, rcc, rno, rnl, rnc, roo, rol, roc⟩, rfl, S3, f3⟩; have G3 := gd.trans f3; obtain ⟨⟨a0, a1, a2, a3, a4⟩, ⟨b0, b1, b2, b3, b4, b5, b6, b7⟩, -⟩ := HQ.out u3 G3; simp only at a0 a1 a2 a3 a4 b0 b1 b2 b3 b4 b5 b6 b7) | (go_at_call 73; refine (cD ⟨rg, rlo, rll, rlc, rco, rcl, rcc, rno, rnl, rnc, roo, rol, roc⟩ _ _ u3 S3 (Nat.le_refl _)).mono ?_; rintro x u4 ⟨⟨pg, plo, pll, plc, pco, pcl, pcc, pno, pnl, pnc, poo, pol, poc⟩, rfl, S4, f4⟩; have G4 := G3.trans f4; obtain ⟨⟨q0, q1, q2, q3, q4⟩, ⟨e0, e1, e2, e3, e4, e5, e6, e7⟩, kr⟩ := HQ.out u4 G4; obtain ⟨j0, j1, j2, j3, j4⟩ := kr.at; have jf := fun i => kr.free i; simp only at q0 q1 q2 q3 q4 e0 e1 e2 e3 e4 e5 e6 e7 j0 j1 j2 j3 j4))
      all_goals
        have HS4 : Hid _ := S4
        go_wp2_with fail
        have k5 := put5 u4 (A + 2) (.int .i64 pg) (.slice plo pll plc) (.slice pco pcl pcc) (.slice pno pnl pnc) (.slice poo pol poc)
        have z5 := k5.size
        have hd2 : u2.drew.heap.size = u2.heap.size := rfl
        have z2 := G2.size
        have z3 := f3.size
        refine bodyPost_ret (v := .tuple #[.agg #[.int .i64 pg, .slice plo pll plc, .slice pco pcl pcc, .slice pno pnl pnc, .slice poo pol poc], .int .i64 0]) (by simp [results, Tryz.results25, go_sem, j0, j1, j2, j3, j4]) rfl ⟨⟨pg, plo, pll, plc, pco, pcl, pcc, pno, pnl, pnc, poo, pol, poc⟩, by rw [HC0.out], ?_, (fW.trans G4).then k5 (fun j hj => by simp only [Option.some.injEq] at hj; have := HA.out; omega)⟩
        rw [HD.out]
        refine (HS4.out.keep k5 (fun x hx => ?_)).mono (fun x q => ?_)
        · cases hx
          rintro (q | q)
          · have := q.1; omega
          · omega
        · have h1 := HA.out
          have z4 := f4.size
          rcases q with q | q
          · have q1 := q.1; have q2 := q.2; exact ⟨by omega, Nat.lt_of_lt_of_le (show x < u4.heap.size by omega) z5⟩
          · exact ⟨by omega, Nat.lt_of_lt_of_le (show x < u4.heap.size by omega) z5⟩
    · have hcb : (C != 0) = true := by simpa using hC0
      have HD : Hid (D = m) := HN.out hC0
      clear hC0 HN HY cD
      go_wp2_with fail
      refine (cY u2 (fW.trans G2)).mono ?_
      rintro x u3 ⟨⟨pg, plo, pll, plc, pco, pcl, pcc, pno, pnl, pnc, poo, pol, poc⟩, rfl, S3, f3⟩
      have G3 := G2.trans f3
      obtain ⟨-, -, kr⟩ := HQ.out u3 G3
      obtain ⟨j0, j1, j2, j3, j4⟩ := kr.at
      simp only at j0 j1 j2 j3 j4
      have jf := fun i => kr.free i
      have HS3 : Hid _ := S3
      clear S3
      go_wp2_with fail
      have k5 := put5 u3 (A + 2) (.int .i64 pg) (.slice plo pll plc) (.slice pco pcl pcc) (.slice pno pnl pnc) (.slice poo pol poc)
      have z5 := k5.size
      have z2 := G2.size
      refine bodyPost_ret (v := .tuple #[.agg #[.int .i64 pg, .slice plo pll plc, .slice pco pcl pcc, .slice pno pnl pnc, .slice poo pol poc], .int .i64 C]) (by simp [results, Tryz.results25, go_sem, j0, j1, j2, j3, j4]) rfl ⟨⟨pg, plo, pll, plc, pco, pcl, pcc, pno, pnl, pnc, poo, pol, poc⟩, rfl, ?_, (fW.trans G3).then k5 (fun j hj => by simp only [Option.some.injEq] at hj; have := HA.out; omega)⟩
      rw [HD.out]
      refine (HS3.out.keep k5 (fun x hx => ?_)).mono (fun x q => ?_)
      · cases hx
        intro q
        have := q.1
        omega
      · have h1 := HA.out
        have q1 := q.1
        have q2 := q.2
        exact ⟨by omega, Nat.lt_of_lt_of_le q2 z5⟩
end Go.Proofs.YtihdablgnmkjnaaGreatDoor
/-
  The walks of the laws' toEventS, szEventS, eqEventS (of two like lists).
-/
namespace Go.Proofs.YtihdablgnmkjnaaGreatDoor
open Go.RowKit

theorem Tryz.info31 : (Tryz.prog.info? 31).map (fun i => (i.zero, i.size, i.bytes)) = some (some (.agg #[.int .i64 0, .int .i64 0, .int .i64 0, .int .i64 0, .int .i64 0, .int .i64 0, .int .i64 0, .int .i64 0]), 8, 64) := by kernel_rfl

theorem sz_any (ao : Option Addr) (n cap : Nat) (w : World) (hn : n ≤ 9223372036854775807) :
    Calls Tryz.prog 31 #[.slice ao n cap, .int .i64 1048576] w fun e w' => e = .returned (.int .i64 (if n ≤ 1048576 then 1048576 - (n : Int) else -1)) ∧ w' = w := by
  by_cases h : n ≤ 1048576
  · rw [if_pos h]
    go_enter Tryz.func31, Tryz.ntmps31
    go_wp2
    go_ret
    exact ⟨rfl, rfl⟩
  · rw [if_neg h]
    go_enter Tryz.func31, Tryz.ntmps31
    go_wp2
    go_ret
    exact ⟨rfl, rfl⟩

theorem set8 (A B : List Value) (m0 m1 m2 m3 m4 m5 m6 m7 a0 a1 a2 a3 a4 a5 a6 a7 : Value) (n : Nat) (hn : A.length = n) :
    ((((((((A ++ m0 :: m1 :: m2 :: m3 :: m4 :: m5 :: m6 :: m7 :: B).set n a0).set (n + 1) a1).set (n + 2) a2).set (n + 3) a3).set (n + 4) a4).set (n + 5) a5).set (n + 6) a6).set (n + 7) a7
      = A ++ a0 :: a1 :: a2 :: a3 :: a4 :: a5 :: a6 :: a7 :: B := by
  subst hn
  simp
theorem drop8 (L : List Value) (n : Nat) (h : n + 8 ≤ L.length) : ∃ m0 m1 m2 m3 m4 m5 m6 m7, L.drop n = m0 :: m1 :: m2 :: m3 :: m4 :: m5 :: m6 :: m7 :: L.drop (n + 8) := by
  refine ⟨L[n], L[n + 1], L[n + 2], L[n + 3], L[n + 4], L[n + 5], L[n + 6], L[n + 7], ?_⟩
  rw [List.drop_eq_getElem_cons (by omega : n < L.length), List.drop_eq_getElem_cons (by omega : n + 1 < L.length), List.drop_eq_getElem_cons (by omega : n + 1 + 1 < L.length), List.drop_eq_getElem_cons (by omega : n + 1 + 1 + 1 < L.length),
    List.drop_eq_getElem_cons (by omega : n + 1 + 1 + 1 + 1 < L.length), List.drop_eq_getElem_cons (by omega : n + 1 + 1 + 1 + 1 + 1 < L.length), List.drop_eq_getElem_cons (by omega : n + 1 + 1 + 1 + 1 + 1 + 1 < L.length), List.drop_eq_getElem_cons (by omega : n + 1 + 1 + 1 + 1 + 1 + 1 + 1 < L.length)]
theorem grown_tr {a b c : World} {row : Option Nat} (h : a.grownBy b row) (k : b.grownBy c row) : a.grownBy c row :=
  ⟨k.os.trans h.os, k.tape.trans h.tape, k.output.trans h.output, Nat.le_trans h.size k.size, fun i hi hne => (k.block i (Nat.lt_of_lt_of_le hi h.size) hne).trans (h.block i hi hne)⟩
theorem own8 {w : World} {base g n cap : Nat} {e : TypeId} {xs : List Value} (h : w.ownsRow base e 8 (.slice (some ⟨g, 0, none⟩) n cap) n xs) (j : Nat) (a0 a1 a2 a3 a4 a5 a6 a7 : Value) :
    ((((((((w.setCell ⟨g, j, none⟩ a0).setCell ⟨g, j + 1, none⟩ a1).setCell ⟨g, j + 2, none⟩ a2).setCell ⟨g, j + 3, none⟩ a3).setCell ⟨g, j + 4, none⟩ a4).setCell ⟨g, j + 5, none⟩ a5).setCell ⟨g, j + 6, none⟩ a6).setCell ⟨g, j + 7, none⟩ a7).ownsRow base e 8 (.slice (some ⟨g, 0, none⟩) n cap) n
      ((((((((xs.set j a0).set (j + 1) a1).set (j + 2) a2).set (j + 3) a3).set (j + 4) a4).set (j + 5) a5).set (j + 6) a6).set (j + 7) a7) ∧
    w.grownBy ((((((((w.setCell ⟨g, j, none⟩ a0).setCell ⟨g, j + 1, none⟩ a1).setCell ⟨g, j + 2, none⟩ a2).setCell ⟨g, j + 3, none⟩ a3).setCell ⟨g, j + 4, none⟩ a4).setCell ⟨g, j + 5, none⟩ a5).setCell ⟨g, j + 6, none⟩ a6).setCell ⟨g, j + 7, none⟩ a7) (some g) := by
  have h0 := h.stored j a0
  have h1 := h0.1.stored (j + 1) a1
  have h2 := h1.1.stored (j + 2) a2
  have h3 := h2.1.stored (j + 3) a3
  have h4 := h3.1.stored (j + 4) a4
  have h5 := h4.1.stored (j + 5) a5
  have h6 := h5.1.stored (j + 6) a6
  have h7 := h6.1.stored (j + 7) a7
  exact ⟨h7.1, grown_tr (grown_tr (grown_tr (grown_tr (grown_tr (grown_tr (grown_tr h0.2 h1.2) h2.2) h3.2) h4.2) h5.2) h6.2) h7.2⟩
/-- One event more is laid. -/
theorem laid_step (es : List Ev) (M : List Value) (k : Nat) (hk : k < es.length) (hM : M.length = es.length * 8) (e : Ev) :
    (((((((((es.take k).flatMap evCells ++ M.drop (k * 8)).set (k * 8) (.int .i64 e.k)).set (k * 8 + 1) (.int .i64 e.g)).set (k * 8 + 2) (.int .i64 e.o)).set (k * 8 + 3) (.int .i64 e.w)).set (k * 8 + 4) (.int .i64 e.l)).set (k * 8 + 5) (.int .i64 e.s)).set (k * 8 + 6) (.int .i64 e.f)).set (k * 8 + 7) (.int .i64 e.t)
      = (es.take k ++ [e]).flatMap evCells ++ M.drop ((k + 1) * 8) := by
  obtain ⟨m0, m1, m2, m3, m4, m5, m6, m7, hd⟩ := drop8 M (k * 8) (by omega)
  have hl : ((es.take k).flatMap evCells).length = k * 8 := by rw [cells_len, List.length_take]; congr 1; omega
  rw [hd, set8 _ _ _ _ _ _ _ _ _ _ _ _ _ _ _ _ _ _ _ hl, show (k + 1) * 8 = k * 8 + 8 by omega, List.flatMap_append]
  simp [evCells]

set_option maxHeartbeats 1000000 in
theorem toEs_any (ao : Option Addr) (n cap : Nat) (es : List Ev) (w : World) (hn : es.length = n) (h : ReadsE w ao es) :
    Calls Tryz.prog 32 #[.slice ao n cap] w fun e w' => ∃ v, e = .returned v ∧ OwnE w' w.heap.size v es ∧ Fr w w' := by
  subst hn
  have hl := h.len
  obtain ⟨i0, hi, hz0, hz1, hz2⟩ := info_parts Tryz.info31
  go_enter Tryz.func32, Tryz.ntmps32
  go_wp2_with (at_make; refine wpList_make_full _ rfl _ _ 39 rfl w.heap.size 31 i0 (.agg #[.int .i64 0, .int .i64 0, .int .i64 0, .int .i64 0, .int .i64 0, .int .i64 0, .int .i64 0, .int .i64 0]) 8 Tryz.underlying39 hi hz0 hz1 .i64 .i64 _ _ es.length rfl rfl rfl rfl (by rw [hz2]; omega) (by unfold maxLen; omega) (Nat.le_refl _) ?_; intro w1 hown hgrow)
  obtain ⟨M, hM⟩ : ∃ M, M = (madeCells (Value.agg #[.int .i64 0, .int .i64 0, .int .i64 0, .int .i64 0, .int .i64 0, .int .i64 0, .int .i64 0, .int .i64 0]).cells (es.length * 8)).toList := ⟨_, rfl⟩
  rw [← hM] at hown
  clear hM
  have hMl := hown.1
  clear hi hz0 hz1 hz2
  go_loopw [4] (fun i wr => ∃ k : Nat, k ≤ es.length ∧ i = .int .i64 k ∧ wr.ownsRow w.heap.size 31 8 (.slice (some ⟨w.heap.size, 0, none⟩) es.length es.length) es.length ((es.take k).flatMap evCells ++ M.drop (k * 8)) ∧ Fr w wr) (fun i _ => es.length - (intOf i).toNat)
  case atStart => exact ⟨0, Nat.zero_le _, rfl, by simpa using hown, hgrow⟩
  case round =>
    obtain ⟨k, hk, rfl, ho, hf⟩ := hrel
    clear hown hgrow
    by_cases hlt : k < es.length
    · obtain ⟨b, off, rfl, hc⟩ := (h.fr hf).at_ k hlt
      obtain ⟨c0, c1, c2, c3, c4, c5, c6, c7⟩ := hc k hlt
      have HE : Hid (es.take k ++ [es[k]] = es.take (k + 1)) := (List.take_succ_eq_append_getElem hlt).symm
      obtain ⟨e, he⟩ : ∃ e, e = es[k] := ⟨_, rfl⟩
      rw [← he] at c0 c1 c2 c3 c4 c5 c6 c7 HE
      clear hc he
      have cT := fun w => toEvent_any e w
      go_wp2_with fail
      refine (cT _).mono ?_
      rintro e w5 ⟨rfl, f5⟩
      have ho := ho.kept f5 (by simp [Value.ownBlock])
      have hll : ((es.take k).flatMap evCells ++ M.drop (k * 8)).length = es.length * 8 := ho.1
      have hat : ∀ i, i < 8 → ∃ u, w5.cell? ⟨w.heap.size, k * 8 + i, none⟩ = some u := fun i hi => by
        rw [ho.cellAt (k * 8 + i) (by omega)]
        exact ⟨_, List.getElem?_eq_getElem (by omega)⟩
      obtain ⟨q0, d0⟩ := hat 0 (by omega)
      obtain ⟨q1, d1⟩ := hat 1 (by omega)
      obtain ⟨q2, d2⟩ := hat 2 (by omega)
      obtain ⟨q3, d3⟩ := hat 3 (by omega)
      obtain ⟨q4, d4⟩ := hat 4 (by omega)
      obtain ⟨q5, d5⟩ := hat 5 (by omega)
      obtain ⟨q6, d6⟩ := hat 6 (by omega)
      obtain ⟨q7, d7⟩ := hat 7 (by omega)
      rw [Nat.add_zero] at d0
      have z0 := ho.frozenAt (k * 8)
      have z1 := ho.frozenAt (k * 8 + 1)
      have z2 := ho.frozenAt (k * 8 + 2)
      have z3 := ho.frozenAt (k * 8 + 3)
      have z4 := ho.frozenAt (k * 8 + 4)
      have z5 := ho.frozenAt (k * 8 + 5)
      have z6 := ho.frozenAt (k * 8 + 6)
      have z7 := ho.frozenAt (k * 8 + 7)
      have hst := own8 ho (k * 8) (.int .i64 e.k) (.int .i64 e.g) (.int .i64 e.o) (.int .i64 e.w) (.int .i64 e.l) (.int .i64 e.s) (.int .i64 e.f) (.int .i64 e.t)
      rw [laid_step es M k hlt hMl e, HE.out] at hst
      have hsz := hf.size
      clear hat hll ho
      go_wp2_with fail
      go_roundw
      case rel => exact ⟨k + 1, by omega, by go_num, hst.1, (hf.trans f5).then hst.2 (fun j hj => by simp only [Option.some.injEq] at hj; omega)⟩
      case measure => simp [intOf]; omega
    · have ek : k = es.length := by omega
      have hd : M.drop (k * 8) = [] := List.drop_eq_nil_of_le (by rw [hMl, ek]; omega)
      rw [hd, List.append_nil, List.take_of_length_le (by omega)] at ho
      clear ek hd
      go_wp2_with fail
      go_ret
      exact ⟨_, rfl, ⟨w.heap.size, es.length, rfl, ho, hl⟩, hf⟩
end Go.Proofs.YtihdablgnmkjnaaGreatDoor
/-
  'append' of one event to a slice of events that the call owns.
-/
namespace Go.Proofs.YtihdablgnmkjnaaGreatDoor
open Go.RowKit

theorem ownE_new (w : World) : OwnE (w.alloc (.cells #[] 31)) w.heap.size (.slice (some ⟨w.heap.size, 0, none⟩) 0 0) [] :=
  ⟨w.heap.size, 0, rfl, World.ownsRow_made w #[] 0 (Nat.le_refl _) (by unfold maxLen; omega) rfl, by simp⟩

theorem appE (w : World) {ops : Array Oper} {rest : List Oper} {o : Oper} {a : Act} {Q : Exit → Act → World → Prop} (hgd : o.guard = none) (s x : Operand)
    (ho : o.op = .call { callee := .builtin .append, args := #[s, x], argTypes := #[39, 39] })
    (base : Nat) (v : Value) (es : List Ev) (e : Ev) (hs : a.eval s = v) (hown : OwnE w base v es)
    (b : Nat) (c : Nat) (hx : a.eval x = .slice (some ⟨b, 0, none⟩) 1 c) (hnew : EvC w b 0 e)
    (hlen : es.length ≤ 16777215) (hbase : base ≤ w.heap.size)
    (h : ∀ v' w', OwnE w' base v' (es ++ [e]) → w.grownBy w' v.ownBlock → (v'.ownBlock = v.ownBlock ∨ v'.ownBlock = some w.heap.size) → wpList Tryz.prog ops Q rest (a.put o.dst v') w') : wpList Tryz.prog ops Q (o :: rest) a w := by
  obtain ⟨i0, hi, hz0, hz1, hz2⟩ := info_parts Tryz.info31
  obtain ⟨g, cap, rfl, ho', hl⟩ := hown
  refine wpList_append_own_at w hgd s x 39 ho base 31 i0 _ 8 64 Tryz.underlying39 hi hz0 hz1 hz2 rfl (by decide) _ _ _ hs ho' ⟨b, 0, none⟩ 1 c (evCells e) hx (by simp [evCells]) ?_ ?_ (by unfold maxLen; omega) (by omega) hbase ?_
  · intro j u hu
    rw [Addr.add_lit]
    obtain ⟨c0, c1, c2, c3, c4, c5, c6, c7⟩ := hnew
    match j, hu with
    | 0, hu => simp [evCells] at hu; subst hu; exact c0
    | 1, hu => simp [evCells] at hu; subst hu; exact c1
    | 2, hu => simp [evCells] at hu; subst hu; exact c2
    | 3, hu => simp [evCells] at hu; subst hu; exact c3
    | 4, hu => simp [evCells] at hu; subst hu; exact c4
    | 5, hu => simp [evCells] at hu; subst hu; exact c5
    | 6, hu => simp [evCells] at hu; subst hu; exact c6
    | 7, hu => simp [evCells] at hu; subst hu; exact c7
    | n + 8, hu => simp [evCells] at hu
  · intro u hu
    simp only [evCells, List.mem_cons, List.not_mem_nil, or_false] at hu
    rcases hu with rfl | rfl | rfl | rfl | rfl | rfl | rfl | rfl <;> rfl
  · intro v' w' hv hg hnz hat
    refine h v' w' ?_ hg hat
    rcases hv.2 with ⟨e', _⟩ | ⟨g', cap', cur, e', r⟩
    · have := (hnz.1 e').1
      simp at this
    · subst e'
      exact ⟨g', cap', by simp, by simpa [List.flatMap_append] using hv, by simp; omega⟩
theorem evC_new (w : World) (e : Ev) : EvC (w.alloc (.cells #[.int .i64 e.k, .int .i64 e.g, .int .i64 e.o, .int .i64 e.w, .int .i64 e.l, .int .i64 e.s, .int .i64 e.f, .int .i64 e.t] 31)) w.heap.size 0 e := by
  obtain ⟨c0, c1, c2, c3, c4, c5, c6, c7⟩ := (EvB.new w e).at
  exact ⟨c0, c1, c2, c3, c4, c5, c6, c7⟩
end Go.Proofs.YtihdablgnmkjnaaGreatDoor
/-
  The laws' trace: a legal one by dice.
-/
namespace Go.Proofs.YtihdablgnmkjnaaGreatDoor
open Go.RowKit

set_option maxHeartbeats 1000000 in
theorem specAfterB_any (ao : Option Addr) (n c : Nat) (es : List Ev) (w : World) (hn : es.length = n) (h : ReadsE w ao es) :
    Calls Tryz.prog 60 #[.slice ao n c] w fun x w' => ∃ (s : Sv) (B : Nat → Prop), x = .returned (.tuple #[.agg #[.int .i64 s.g, .slice s.lo s.ll s.lc, .slice s.co s.cl s.cc, .slice s.no s.nl s.nc, .slice s.oo s.ol s.oc], .bool (aftB es)]) ∧ ScR B w' s (aftS es) ∧ Fr w w' ∧ ∀ b, B b → w.heap.size ≤ b ∧ b < w'.heap.size := by
  have f0 := Fr.alloc w (.cells #[.int .i64 0, .slice none 0 0, .slice none 0 0, .slice none 0 0, .slice none 0 0] 29)
  have k0 := ScK.new w ⟨0, none, 0, 0, none, 0, 0, none, 0, 0, none, 0, 0⟩
  simp only at k0
  subst hn
  by_cases hb : es.length ≤ 300
  · have cP := l5Scene_any ao es.length c es _ rfl (h.fr f0)
    have e1 : aftS es = (legS scn0 es).1 := if_neg (by omega)
    have e3 : aftB es = decide ((legS scn0 es).2.2 = 0) := if_neg (by omega)
    have hlc := leg_code es scn0
    have e2 : (es.length : Int) ≤ 300 := by omega
    rw [e1, e3]
    clear e1 e3 h
    obtain ⟨L, hL⟩ : ∃ L : Nat, L = (legS scn0 es).2.1 := ⟨_, rfl⟩
    obtain ⟨q, hq⟩ : ∃ z : Int, z = (legS scn0 es).2.2 := ⟨_, rfl⟩
    obtain ⟨M, hM⟩ : ∃ z, z = (legS scn0 es).1 := ⟨_, rfl⟩
    simp only [← hL, ← hq, ← hM] at cP hlc
    rw [← hq, ← hM]
    clear hL hq hM hb
    have hbb : ((L : Int) == (es.length : Int)) = decide (q = 0) := by
      by_cases q0 : q = 0
      · have := hlc.1 q0
        simp [q0, this]
      · have : ¬ ((L : Int) = (es.length : Int)) := fun e => q0 (hlc.2 (by omega))
        simp [q0, this]
    clear hlc
    go_enter Tryz.func60, Tryz.ntmps60
    go_wp2_with fail
    refine (cP).mono ?_
    rintro e u1 ⟨⟨sg, lo, ll, lc, co, cl, cc, no, nl, nc, oo, ol, oc⟩, B, rfl, S1, hB, f1⟩
    have fA := Fr.alloc u1 (.cells #[.int .i64 sg, .slice lo ll lc, .slice co cl cc, .slice no nl nc, .slice oo ol oc] 29)
    have kr := k0.fr (f1.trans fA)
    have F1 := f0.trans (f1.trans fA)
    have S2 := S1.fr fA
    have hsz := f0.size
    have hkl := k0.lt
    obtain ⟨j0, j1, j2, j3, j4⟩ := kr.at
    simp only at j0 j1 j2 j3 j4
    have jf := fun i => kr.free i
    have HS2 : Hid _ := S2
    have HB : Hid (∀ b, B b → w.heap.size < b ∧ b < u1.heap.size) := fun b q => by have := hB b q; exact ⟨by omega, this.2⟩
    clear S1 S2 hB cP k0 kr fA f1 f0
    go_wp2_with fail
    have k5 := put5 (u1.alloc (.cells #[.int .i64 sg, .slice lo ll lc, .slice co cl cc, .slice no nl nc, .slice oo ol oc] 29)) w.heap.size (.int .i64 sg) (.slice lo ll lc) (.slice co cl cc) (.slice no nl nc) (.slice oo ol oc)
    refine bodyPost_ret (v := .tuple #[.agg #[.int .i64 sg, .slice lo ll lc, .slice co cl cc, .slice no nl nc, .slice oo ol oc], .bool (decide (q = 0))]) (by simp [results, Tryz.results60, go_sem, j0, j1, j2, j3, j4]) rfl ⟨⟨sg, lo, ll, lc, co, cl, cc, no, nl, nc, oo, ol, oc⟩, B, rfl, ?_, ?_, fun b q => ⟨Nat.le_of_lt (HB.out b q).1, ?_⟩⟩
    · exact HS2.out.keep k5 (fun x hx => by cases hx; exact fun q => by have := (HB.out _ q).1; omega)
    · exact F1.then k5 (fun j hj => by simp only [Option.some.injEq] at hj; omega)
    · have q2 := (HB.out b q).2
      have z5 := k5.size
      have zA := (Fr.alloc u1 (.cells #[.int .i64 sg, .slice lo ll lc, .slice co cl cc, .slice no nl nc, .slice oo ol oc] 29)).size
      exact Nat.lt_of_lt_of_le q2 (Nat.le_trans zA z5)
  · have e1 : aftS es = ⟨0, [], [], [], []⟩ := if_pos (by omega)
    have e3 : aftB es = false := if_pos (by omega)
    have e2 : 300 < (es.length : Int) := by omega
    rw [e1, e3]
    clear e1 e3 h hb
    go_enter Tryz.func60, Tryz.ntmps60
    go_wp2_with fail
    refine bodyPost_ret (v := .tuple #[.agg #[.int .i64 0, .slice none 0 0, .slice none 0 0, .slice none 0 0, .slice none 0 0], .bool false]) (by simp [results, Tryz.results60, go_sem]) rfl ⟨⟨0, none, 0, 0, none, 0, 0, none, 0, 0, none, 0, 0⟩, (fun _ => False), rfl, scR_zero _ _, f0, fun b q => q.elim⟩
theorem DX.self {w u : World} {d n cap : Nat} {ao : Option Addr} (h : DX w u d ao n cap) : DX u u d ao n cap := ⟨grown_refl u _, h.dice, h.row, h.ap⟩
theorem DX.on {w u u' : World} {d n cap : Nat} {ao : Option Addr} (h : DX w u d ao n cap) (k : DX u u' d ao n cap) : DX w u' d ao n cap := ⟨grown_trans h.g k.g, k.dice, k.row, k.ap⟩
theorem leg_snoc {e : Ev} : ∀ (es : List Ev) (m0 m : Scn), legS m0 es = (m, es.length, 0) → codeIn m e = 0 → legS m0 (es ++ [e]) = (doS m e, es.length + 1, 0)
  | [], m0, m, h, hc => by
    simp only [legS, Prod.mk.injEq] at h
    obtain ⟨rfl, -⟩ := h
    simp [legS, hc]
  | x :: es, m0, m, h, hc => by
    by_cases q : codeIn m0 x = 0
    · rw [leg_go q] at h
      simp only [Prod.mk.injEq, List.length_cons] at h
      have h2 : legS (doS m0 x) es = (m, es.length, 0) := by
        refine Prod.ext h.1 (Prod.ext ?_ h.2.2)
        have := h.2.1
        simp only
        omega
      rw [List.cons_append, leg_go q, leg_snoc es _ m h2 hc]
      simp
    · rw [leg_no q] at h
      simp at h
theorem do_g (m : Scn) (e : Ev) : m.g ≤ (doS m e).g := by
  unfold doS
  split
  · simp only; omega
  · split
    · exact Int.le_refl _
    · split
      · exact Int.le_refl _
      · split
        · exact Int.le_refl _
        · split
          · exact Int.le_refl _
          · split
            · exact Int.le_refl _
            · exact Int.le_refl _
/-- The two starts. -/
def es0 : List Ev := [⟨1, 0, 1, 0, 0, 0, 0, 0⟩, ⟨1, 0, 2, 0, 0, 0, 0, 0⟩]
theorem leg_es0 : legS scn0 es0 = (⟨3, [], [], [], []⟩, 2, 0) := by rfl

/-- The state in the midst of trace. -/
structure TX (w : World) (d : Nat) (ao : Option Addr) (n cap : Nat) (sb g lo hi : Nat) (c : Nat) (es : List Ev) (s : Sv) (m : Scn) (wr : World) : Prop where
  dx : DX w wr d ao n cap
  own : wr.ownsRow w.heap.size 31 8 (.slice (some ⟨g, 0, none⟩) es.length c) es.length (es.flatMap evCells)
  sc : ScK wr sb s
  scr : ScR (fun b => lo ≤ b ∧ b < hi) wr s m
  leg : legS scn0 es = (m, es.length, 0)
  three : 3 ≤ m.g
  bs : w.heap.size ≤ lo ∧ hi ≤ wr.heap.size ∧ (g < lo ∨ hi ≤ g) ∧ (sb < lo ∨ hi ≤ sb) ∧ w.heap.size ≤ sb ∧ g ≠ sb
theorem TX.fr {w wr w' : World} {d n cap sb g lo hi c : Nat} {ao : Option Addr} {es : List Ev} {s : Sv} {m : Scn} (h : TX w d ao n cap sb g lo hi c es s m wr) (k : Fr wr w') : TX w d ao n cap sb g lo hi c es s m w' :=
  { h with dx := h.dx.fr k, own := h.own.kept k (by simp [Value.ownBlock]), sc := h.sc.fr k, scr := h.scr.fr k, bs := by have := h.bs; have := k.size; omega }
theorem TX.dice {w wr w' : World} {d n cap sb g lo hi c : Nat} {ao : Option Addr} {es : List Ev} {s : Sv} {m : Scn} (h : TX w d ao n cap sb g lo hi c es s m wr) (hd : d < w.heap.size) (k : DX wr w' d ao n cap) : TX w d ao n cap sb g lo hi c es s m w' := by
  have hb := h.bs
  have ho := (h.own.lt g rfl).1
  have hs := k.g.size
  exact { h with dx := h.dx.on k, own := h.own.kept k.g (.inr (by simp only [Value.ownBlock, ne_eq, Option.some.injEq]; omega)), sc := h.sc.keep k.g (by simp only [ne_eq, Option.some.injEq]; omega), scr := h.scr.keep k.g (fun j hj q => by simp only [Option.some.injEq] at hj; omega), bs := by omega }
end Go.Proofs.YtihdablgnmkjnaaGreatDoor
