/-
  boardOf: a scene's board.
-/
import Derived.Test.YtikjodbboljhjaaGreatDoorScBy
import Derived.Test.YtikjodbboljhjaaGreatDoorScRise
namespace Go.Proofs.YtikjodbboljhjaaGreatDoor
open Go.RowKit

def valL (x : Lv) : Value := .agg #[.int .i64 x.o, .int .i64 x.wr, .slice x.ro x.rn x.rc]
def valC (x : Ch) : Value := .agg #[.int .i64 x.o, .int .i64 x.cap, .int .i64 x.sent, .int .i64 x.got, .bool x.cl]
def valN (x : Ct) : Value := .agg #[.int .i64 x.o, .int .i64 x.n]
def valI (x : Int) : Value := .int .i64 x

/-- Block b is a board: the goroutines' number, four maps. -/
structure Board (w : World) (b : Nat) (g : Int) (b1 b2 b3 b4 n1 n2 n3 n4 : Nat) (fl fc fn fo : Int → Option Value) : Prop where
  row : w.heap[b]? = some (.cells #[.int .i64 g, .map (some b1), .map (some b2), .map (some b3), .map (some b4)] 137 (0, 0))
  c0 : w.cell? ⟨b, 0, none⟩ = some (.int .i64 g)
  c1 : w.cell? ⟨b, 1, none⟩ = some (.map (some b1))
  c2 : w.cell? ⟨b, 2, none⟩ = some (.map (some b2))
  c3 : w.cell? ⟨b, 3, none⟩ = some (.map (some b3))
  c4 : w.cell? ⟨b, 4, none⟩ = some (.map (some b4))
  m1 : MapF w b1 n1 fl
  m2 : MapF w b2 n2 fc
  m3 : MapF w b3 n3 fn
  m4 : MapF w b4 n4 fo
theorem Board.fr {w w' : World} {b : Nat} {g : Int} {b1 b2 b3 b4 n1 n2 n3 n4 : Nat} {fl fc fn fo : Int → Option Value} (h : Board w b g b1 b2 b3 b4 n1 n2 n3 n4 fl fc fn fo) (k : Fr w w') : Board w' b g b1 b2 b3 b4 n1 n2 n3 n4 fl fc fn fo :=
  ⟨(k.block b (Array.getElem?_eq_some_iff.1 h.row).1 (by simp)).trans h.row, k.cell h.c0, k.cell h.c1, k.cell h.c2, k.cell h.c3, k.cell h.c4, h.m1.fr k, h.m2.fr k, h.m3.fr k, h.m4.fr k⟩

set_option maxHeartbeats 2000000 in
theorem boardOf_any {B : Nat → Prop} (s : Sv) (m : Scn) (lvs : List Lv) (w : World) (h : ScR B w s m) (r1 : ReadsG layL w s.lo lvs) (e1 : s.ll = lvs.length) (l1 : LksR B w lvs m.ls) :
    Calls Tryz.prog 39 #[.agg #[.int .i64 s.g, .slice s.lo s.ll s.lc, .slice s.co s.cl s.cc, .slice s.no s.nl s.nc, .slice s.oo s.ol s.oc]] w fun e w' => ∃ b b1 b2 b3 b4, e = .returned (.pointer (some ⟨b, 0, none⟩)) ∧ (w.heap.size ≤ b1 ∧ b1 < b2 ∧ b2 < b3 ∧ b3 < b4 ∧ b4 < b) ∧ Board w' b m.g b1 b2 b3 b4 lvs.length m.cs.length m.gs.length m.os.length (numF Lv.o valL lvs) (numF Ch.o valC m.cs) (numF Ct.o valN m.gs) (numF id valI m.os) ∧ Fr w w' := by
  have fW := Fr.alloc w (.cells #[.int .i64 s.g, .slice s.lo s.ll s.lc, .slice s.co s.cl s.cc, .slice s.no s.nl s.nc, .slice s.oo s.ol s.oc] 29)
  have k1 := ScK.new w s
  have hl1 : lvs.length ≤ 1048576 := by rw [l1.len]; exact h.sl
  have cL := fun u (f : Fr w u) => byL_any s.lo s.ll s.lc lvs u e1.symm hl1 (r1.fr f) (fun x hx => by
    obtain ⟨j, hj, rfl⟩ := List.mem_iff_getElem.1 hx
    have q := l1.at_ j hj (by rw [← l1.len]; exact hj)
    rw [q.o]; exact q.io)
  have cC := fun u (f : Fr w u) => byC_any s.co s.cl s.cc m.cs u h.cl.symm h.sc (h.chs.fr f) (fun x hx => (h.ic x hx).1)
  have cN := fun u (f : Fr w u) => byN_any s.no s.nl s.nc m.gs u h.nl.symm h.sn (h.cts.fr f) (fun x hx => (h.inn x hx).1)
  have cO := fun u (f : Fr w u) => byI_any s.oo s.ol s.oc m.os u h.ol.symm h.so (h.ons.fr f)
  have HG : Hid (s.g = m.g) := h.g
  have eL : numF Lv.o (fun x => .agg #[.int .i64 x.o, .int .i64 x.wr, .slice x.ro x.rn x.rc]) lvs = numF Lv.o valL lvs := rfl
  have eC : numF Ch.o (fun x => .agg #[.int .i64 x.o, .int .i64 x.cap, .int .i64 x.sent, .int .i64 x.got, .bool x.cl]) m.cs = numF Ch.o valC m.cs := rfl
  have eN : numF Ct.o (fun x => .agg #[.int .i64 x.o, .int .i64 x.n]) m.gs = numF Ct.o valN m.gs := rfl
  have eO : numF id (fun x => .int .i64 x) m.os = numF id valI m.os := rfl
  simp only [eL] at cL
  simp only [eC] at cC
  simp only [eN] at cN
  simp only [eO] at cO
  clear eL eC eN eO
  obtain ⟨FL, hFL⟩ : ∃ F, F = numF Lv.o valL lvs := ⟨_, rfl⟩
  obtain ⟨FC, hFC⟩ : ∃ F, F = numF Ch.o valC m.cs := ⟨_, rfl⟩
  obtain ⟨FN, hFN⟩ : ∃ F, F = numF Ct.o valN m.gs := ⟨_, rfl⟩
  obtain ⟨FO, hFO⟩ : ∃ F, F = numF id valI m.os := ⟨_, rfl⟩
  obtain ⟨N1, hN1⟩ : ∃ F, F = lvs.length := ⟨_, rfl⟩
  obtain ⟨N2, hN2⟩ : ∃ F, F = m.cs.length := ⟨_, rfl⟩
  obtain ⟨N3, hN3⟩ : ∃ F, F = m.gs.length := ⟨_, rfl⟩
  obtain ⟨N4, hN4⟩ : ∃ F, F = m.os.length := ⟨_, rfl⟩
  simp only [← hFL, ← hN1] at cL ⊢
  simp only [← hFC, ← hN2] at cC ⊢
  simp only [← hFN, ← hN3] at cN ⊢
  simp only [← hFO, ← hN4] at cO ⊢
  rw [← HG.out]
  clear hFL hFC hFN hFO hN1 hN2 hN3 hN4 h r1 e1 l1 hl1 HG
  obtain ⟨sg, lo, ll, lc, co, cl, cc, no, nl, nc, oo, ol, oc⟩ := s
  simp only at fW k1 cL cC cN cO ⊢
  go_enter Tryz.func39, Tryz.ntmps39
  go_wp2_with fail
  obtain ⟨W, hW⟩ : ∃ W, W = w.alloc (.cells #[.int .i64 sg, .slice lo ll lc, .slice co cl cc, .slice no nl nc, .slice oo ol oc] 29) := ⟨_, rfl⟩
  rw [← hW] at fW k1 ⊢
  clear hW
  have HQ : Hid (∀ u, Fr W u → ScB u w.heap.size ⟨sg, lo, ll, lc, co, cl, cc, no, nl, nc, oo, ol, oc⟩) := fun u f => (k1.fr f).at
  have fD : Fr w W.drew := fW.trans (Fr.drew W)
  obtain ⟨s0, s1, s2, s3, s4⟩ := k1.at
  simp only at s0 s1 s2 s3 s4
  clear k1
  go_region_held3 (fun u => u.cell? ⟨w.heap.size, 0, none⟩ = some (.int .i64 sg) ∧ u.cell? ⟨w.heap.size, 1, none⟩ = some (.slice lo ll lc) ∧ u.cell? ⟨w.heap.size, 2, none⟩ = some (.slice co cl cc) ∧ u.cell? ⟨w.heap.size, 3, none⟩ = some (.slice no nl nc) ∧ u.cell? ⟨w.heap.size, 4, none⟩ = some (.slice oo ol oc)) (go_keep)
    (first | (go_at_call 92; refine (cL _ fD).mono ?_; rintro x u1 ⟨b1, rfl, z1, M1, f1⟩; have g1 := (Fr.drew W).trans f1; obtain ⟨p0, p1, p2, p3, p4⟩ := HQ.out _ g1; simp only at p0 p1 p2 p3 p4) | (go_at_call 94; refine (cC _ (fW.trans g1)).mono ?_; rintro x u2 ⟨b2, rfl, z2, M2, f2⟩; have g2 := g1.trans f2; obtain ⟨q0, q1, q2, q3, q4⟩ := HQ.out _ g2; simp only at q0 q1 q2 q3 q4) | (go_at_call 96; refine (cN _ (fW.trans g2)).mono ?_; rintro x u3 ⟨b3, rfl, z3, M3, f3⟩; have g3 := g2.trans f3; obtain ⟨t0, t1, t2, t3, t4⟩ := HQ.out _ g3; simp only at t0 t1 t2 t3 t4) | (go_at_call 98; refine (cO _ (fW.trans g3)).mono ?_; rintro x u4 ⟨b4, rfl, z4, M4, f4⟩; have g4 := g3.trans f4; obtain ⟨v0, v1, v2, v3, v4⟩ := HQ.out _ g4; simp only at v0 v1 v2 v3 v4))
  go_wp2_with fail
  go_ret
  have fE := Fr.alloc u4 (.cells #[.int .i64 sg, .map (some b1), .map (some b2), .map (some b3), .map (some b4)] 137)
  have y1 := fD.size
  have y2 := f1.size
  have y3 := f2.size
  have y4 := f3.size
  have y5 := f4.size
  have y6 := M1.lt
  have y7 := M2.lt
  have y8 := M3.lt
  have y9 := M4.lt
  exact ⟨u4.heap.size, b1, b2, b3, b4, rfl, ⟨by omega, by omega, by omega, by omega, by omega⟩, { row := heap_alloc_new u4 _, c0 := by simp [go_sem], c1 := by simp [go_sem], c2 := by simp [go_sem], c3 := by simp [go_sem], c4 := by simp [go_sem], m1 := M1.fr (f2.trans (f3.trans (f4.trans fE))), m2 := M2.fr (f3.trans (f4.trans fE)), m3 := M3.fr (f4.trans fE), m4 := M4.fr fE }, (fW.trans g4).trans fE⟩
end Go.Proofs.YtikjodbboljhjaaGreatDoor
