/-
  The program's CodeIn answers as the specification's.
-/
import Derived.Test.YtikjodbboljhjaaGreatDoorScSame
import Derived.Deep.RegionHeld3
namespace Go.Proofs.YtikjodbboljhjaaGreatDoor
open Go.RowKit

set_option maxRecDepth 20000 in
set_option maxHeartbeats 4000000 in
theorem implCode_any {B : Nat → Prop} (s : Sv) (m : Scn) (e : Ev) (w : World) (h : ScR B w s m) (hs : Shapes w) (ho : I64 e.o) :
    Calls Tryz.prog 12 #[.agg #[.int .i64 s.g, .slice s.lo s.ll s.lc, .slice s.co s.cl s.cc, .slice s.no s.nl s.nc, .slice s.oo s.ol s.oc], .agg #[.int .i64 e.k, .int .i64 e.g, .int .i64 e.o, .int .i64 e.w, .int .i64 e.l, .int .i64 e.s, .int .i64 e.f, .int .i64 e.t]] w fun x w' => x = .returned (.int .i64 (codeIn m e)) ∧ Fr w w' := by
  obtain ⟨k1, k2, fW, hz⟩ := box2 w s e
  obtain ⟨lvs, r1, e1, l1⟩ := h.lks
  have cS := fun u (f : Fr w u) => implScene_any s m u (h.fr f)
  have cB := fun u (f : Fr w u) => boardOf_any s m lvs u (h.fr f) (r1.fr f) e1 (l1.fr f)
  have cC := fun (hm : scB m = true) u (f : Fr w u) b b1 b2 b3 b4 (Bd : Board u b m.g b1 b2 b3 b4 lvs.length m.cs.length m.gs.length m.os.length (numF Lv.o valL lvs) (numF Ch.o valC m.cs) (numF Ct.o valN m.gs) (numF id valI m.os)) => codeM_any e u (boardM_of hm (l1.fr f) h.sl h.sc h.sn h.so Bd) hm (hs.fr f) ho
  obtain ⟨FL, hFL⟩ : ∃ F, F = numF Lv.o valL lvs := ⟨_, rfl⟩
  obtain ⟨FC, hFC⟩ : ∃ F, F = numF Ch.o valC m.cs := ⟨_, rfl⟩
  obtain ⟨FN, hFN⟩ : ∃ F, F = numF Ct.o valN m.gs := ⟨_, rfl⟩
  obtain ⟨FO, hFO⟩ : ∃ F, F = numF id valI m.os := ⟨_, rfl⟩
  simp only [← hFL, ← hFC, ← hFN, ← hFO] at cB cC
  have h1 : scB m = false → codeIn m e = 1 := fun q => by simp [codeIn, q]
  clear hFL hFC hFN hFO h r1 e1 l1 hs ho
  obtain ⟨R, hR⟩ : ∃ R, R = codeIn m e := ⟨_, rfl⟩
  rw [← hR] at h1 ⊢
  simp only [← hR] at cC
  clear hR
  obtain ⟨SO, hSO⟩ : ∃ S, S = scB m := ⟨_, rfl⟩
  simp only [← hSO] at cS h1 cC
  clear hSO
  obtain ⟨k, gr, o, wi, l, sz, f, t⟩ := e
  obtain ⟨sg, lo, ll, lc, co, cl, cc, no, nl, nc, oo, ol, oc⟩ := s
  simp only at k1 k2 fW hz cS cB cC ⊢
  go_enter Tryz.func12, Tryz.ntmps12
  go_wp2_with fail
  obtain ⟨W, hW⟩ : ∃ W, W = (w.alloc (.cells #[.int .i64 sg, .slice lo ll lc, .slice co cl cc, .slice no nl nc, .slice oo ol oc] 29)).alloc (.cells #[.int .i64 k, .int .i64 gr, .int .i64 o, .int .i64 wi, .int .i64 l, .int .i64 sz, .int .i64 f, .int .i64 t] 31) := ⟨_, rfl⟩
  rw [← hW] at k1 k2 fW hz ⊢
  clear hW
  obtain ⟨A, hA⟩ : ∃ A, A = w.heap.size := ⟨_, rfl⟩
  rw [← hA] at k1 k2 ⊢
  clear hA hz
  have HQ : Hid (∀ u, Fr W u → ScB u A ⟨sg, lo, ll, lc, co, cl, cc, no, nl, nc, oo, ol, oc⟩ ∧ EvAt u (A + 1) ⟨k, gr, o, wi, l, sz, f, t⟩) := fun u f => ⟨(k1.fr f).at, (k2.keep f (by simp)).at⟩
  clear k1 k2
  refine (cS W fW).mono ?_
  rintro x u1 ⟨rfl, f1⟩
  clear cS
  cases SO
  · have e1 := h1 rfl
    clear h1 cC cB
    subst e1
    go_wp2_with fail
    go_ret
    exact ⟨rfl, fW.trans f1⟩
  have cD := cC (by trivial)
  clear cC
  clear h1
  obtain ⟨⟨s0, s1, s2, s3, s4⟩, c0, c1, c2, c3, c4, c5, c6, c7⟩ := HQ.out u1 f1
  simp only at s0 s1 s2 s3 s4 c0 c1 c2 c3 c4 c5 c6 c7
  have fD : Fr w u1.drew := (fW.trans f1).trans (Fr.drew u1)
  have gD : Fr W u1.drew := f1.trans (Fr.drew u1)
  clear f1
  go_wp2_with fail
  go_region_held3 (fun u => u.cell? ⟨A, 0, none⟩ = some (.int .i64 sg) ∧ u.cell? ⟨A, 1, none⟩ = some (.slice lo ll lc) ∧ u.cell? ⟨A, 2, none⟩ = some (.slice co cl cc) ∧ u.cell? ⟨A, 3, none⟩ = some (.slice no nl nc) ∧ u.cell? ⟨A, 4, none⟩ = some (.slice oo ol oc) ∧ u.cell? ⟨A + 1, 0, none⟩ = some (.int .i64 k) ∧ u.cell? ⟨A + 1, 1, none⟩ = some (.int .i64 gr) ∧ u.cell? ⟨A + 1, 2, none⟩ = some (.int .i64 o) ∧ u.cell? ⟨A + 1, 3, none⟩ = some (.int .i64 wi) ∧ u.cell? ⟨A + 1, 4, none⟩ = some (.int .i64 l) ∧ u.cell? ⟨A + 1, 5, none⟩ = some (.int .i64 sz) ∧ u.cell? ⟨A + 1, 6, none⟩ = some (.int .i64 f) ∧ u.cell? ⟨A + 1, 7, none⟩ = some (.int .i64 t)) (go_keep)
    (first | (go_at_call 39; refine (cB _ fD).mono ?_; rintro x u2 ⟨b, b1, b2, b3, b4, rfl, -, Bd, f2⟩; have g2 := gD.trans f2; obtain ⟨⟨p0, p1, p2, p3, p4⟩, q0, q1, q2, q3, q4, q5, q6, q7⟩ := HQ.out _ g2; simp only at p0 p1 p2 p3 p4 q0 q1 q2 q3 q4 q5 q6 q7) | (go_at_call 47; refine (cD _ (fW.trans g2) b b1 b2 b3 b4 Bd).mono ?_; rintro x u3 ⟨rfl, f3⟩; have g3 := g2.trans f3; obtain ⟨⟨v0, v1, v2, v3, v4⟩, y0, y1, y2, y3, y4, y5, y6, y7⟩ := HQ.out _ g3; simp only at v0 v1 v2 v3 v4 y0 y1 y2 y3 y4 y5 y6 y7))
  go_wp2_with fail
  go_ret
  exact ⟨rfl, fW.trans g3⟩
end Go.Proofs.YtikjodbboljhjaaGreatDoor
