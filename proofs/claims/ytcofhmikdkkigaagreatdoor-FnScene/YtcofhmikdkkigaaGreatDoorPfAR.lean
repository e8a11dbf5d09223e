/-
  Pack AR: ScImpl3, ScAsk4, ScAsk6, OwR.
-/
import Derived.Test.YtcofhmikdkkigaaGreatDoorPfAP
import Derived.Test.YtcofhmikdkkigaaGreatDoorPfAG
import Derived.Test.YtcofhmikdkkigaaGreatDoorPfAK
import Derived.Test.YtcofhmikdkkigaaGreatDoorPfAQ
namespace Go.Proofs.YtcofhmikdkkigaaGreatDoor
open Go.RowKit

set_option maxHeartbeats 2000000 in
theorem implScene_any {B : Nat → Prop} (s : Sv) (m : Scn) (w : World) (h : ScR B w s m) :
    Calls Tryz.prog 18 #[.agg #[.int .i64 s.g, .slice s.lo s.ll s.lc, .slice s.co s.cl s.cc, .slice s.no s.nl s.nc, .slice s.oo s.ol s.oc]] w fun e w' => e = .returned (.bool (scB m)) ∧ Fr w w' := by
  rw [← scB_same m]
  unfold scB2
  have fW := Fr.alloc w (.cells #[.int .i64 s.g, .slice s.lo s.ll s.lc, .slice s.co s.cl s.cc, .slice s.no s.nl s.nc, .slice s.oo s.ol s.oc] 29)
  have k1 := ScK.new w s
  obtain ⟨lvs, r1, n1, L1⟩ := h.lks
  have HG : Hid (s.g = m.g) := h.g
  have hg := h.g
  have cL := fun u (f : Fr w u) (g0 : 1 ≤ m.g) (g1 : m.g ≤ 16) => locksOk_any s.lo s.ll s.lc m.g lvs m.ls u n1.symm (by rw [L1.len]; exact h.sl) g0 g1 (r1.fr f) (L1.fr f)
  have cC := fun u (f : Fr w u) => chansOk_any s.co s.cl s.cc m.cs u h.cl.symm h.sc (h.chs.fr f)
  have cN := fun u (f : Fr w u) => groupsOk_any s.no s.nl s.nc m.gs u h.nl.symm h.sn (h.cts.fr f)
  have cO := fun u (f : Fr w u) => risesI_any s.oo s.ol s.oc m.os 15 u h.ol.symm h.so (h.ons.fr f)
  rw [← hg]
  simp only [← hg] at cL
  clear h hg r1 n1 L1
  obtain ⟨XL, hXL⟩ : ∃ X, X = (m.ls.all (lk2 s.g) && upFrom 15 (-1) (m.ls.map Lk.o)) := ⟨_, rfl⟩
  obtain ⟨XC, hXC⟩ : ∃ X, X = (m.cs.all ch2 && upFrom 15 (-1) (m.cs.map Ch.o)) := ⟨_, rfl⟩
  obtain ⟨XN, hXN⟩ : ∃ X, X = (m.gs.all (fun c => inB 1 1000000 c.n) && upFrom 15 (-1) (m.gs.map Ct.o)) := ⟨_, rfl⟩
  obtain ⟨XO, hXO⟩ : ∃ X, X = upFrom 15 (-1) m.os := ⟨_, rfl⟩
  simp only [← hXL] at cL ⊢
  simp only [← hXC] at cC ⊢
  simp only [← hXN] at cN ⊢
  simp only [← hXO] at cO ⊢
  clear hXL hXC hXN hXO
  obtain ⟨sg, lo, ll, lc, co, cl, cc, no, nl, nc, oo, ol, oc⟩ := s
  simp only at fW k1 cL cC cN cO HG ⊢
  cases hin : inB 1 16 sg
  · go_enter Tryz.func18, Tryz.ntmps18
    go_wp2_with fail
    refine (within_any _ _ _ _).mono ?_
    rintro e y ⟨rfl, rfl⟩
    go_wp2_with fail
    go_ret
    exact ⟨rfl, fW⟩
  have hb := inB_true hin
  obtain ⟨W, hW⟩ : ∃ W, W = w.alloc (.cells #[.int .i64 sg, .slice lo ll lc, .slice co cl cc, .slice no nl nc, .slice oo ol oc] 29) := ⟨_, rfl⟩
  have HQ : Hid (∀ u, Fr W u → ScB u w.heap.size ⟨sg, lo, ll, lc, co, cl, cc, no, nl, nc, oo, ol, oc⟩) := fun u f => by rw [hW] at f; exact (k1.fr f).at
  clear k1
  go_enter Tryz.func18, Tryz.ntmps18
  go_wp2_with fail
  refine (within_any _ _ _ _).mono ?_
  rintro e y ⟨rfl, rfl⟩
  rw [← hW] at fW ⊢
  clear hW
  obtain ⟨s0, s1, s2, s3, s4⟩ := HQ.out _ (Fr.refl _)
  simp only at s0 s1 s2 s3 s4
  simp only [hin]
  go_wp2_with fail
  refine (cL _ fW hb.1 hb.2).mono ?_
  rintro e u1 ⟨rfl, f1⟩
  clear s0 s1 s2 s3 s4 cL
  obtain ⟨s0, s1, s2, s3, s4⟩ := HQ.out _ f1
  simp only at s0 s1 s2 s3 s4
  cases XL
  · go_wp2_with fail
    go_ret
    exact ⟨rfl, fW.trans f1⟩
  go_wp2_with fail
  refine (cC _ (fW.trans f1)).mono ?_
  rintro e u2 ⟨rfl, f2⟩
  have f2 := f1.trans f2
  clear s0 s1 s2 s3 s4 cC
  obtain ⟨s0, s1, s2, s3, s4⟩ := HQ.out _ f2
  simp only at s0 s1 s2 s3 s4
  cases XC
  · go_wp2_with fail
    go_ret
    exact ⟨rfl, fW.trans f2⟩
  go_wp2_with fail
  refine (cN _ (fW.trans f2)).mono ?_
  rintro e u3 ⟨rfl, f3⟩
  have f3 := f2.trans f3
  clear s0 s1 s2 s3 s4 cN
  obtain ⟨s0, s1, s2, s3, s4⟩ := HQ.out _ f3
  simp only at s0 s1 s2 s3 s4
  cases XN
  · go_wp2_with fail
    go_ret
    exact ⟨rfl, fW.trans f3⟩
  go_wp2_with fail
  refine (cO _ (fW.trans f3)).mono ?_
  rintro e u4 ⟨rfl, rfl⟩
  go_wp2_with fail
  go_ret
  exact ⟨by simp, fW.trans f3⟩
end Go.Proofs.YtcofhmikdkkigaaGreatDoor
namespace Go.Proofs.YtcofhmikdkkigaaGreatDoor
open Go.RowKit

def wchanB (had : Bool) (c : Ch) (e : Ev) : Bool := if e.k = 6 then had else if e.k = 7 ∨ e.k = 8 then !had || decide (c.cap = 0) else if e.k = 9 then !had || decide (c.cap ≠ 0) else if e.k = 10 ∨ e.k = 11 then !had else false
def onceB (had : Bool) (e : Ev) : Bool := if e.k = 15 then had else if e.k = 16 then !had else false

set_option maxRecDepth 20000 in
set_option maxHeartbeats 1000000 in
theorem isWrongChan_any (b b2 : Nat) (had : Bool) (c : Ch) (e : Ev) (w : World) (hb : w.cell? ⟨b, 2, none⟩ = some (.map (some b2)))
    (hL : ∀ u, Fr w u → (Instr.lookup 132 (.map (some b2)) (.int .i64 e.o) true).run Tryz.prog u = .ok (.tuple #[.agg #[.int .i64 c.o, .int .i64 c.cap, .int .i64 c.sent, .int .i64 c.got, .bool c.cl], .bool had]) u) :
    Calls Tryz.prog 118 #[.pointer (some ⟨b, 0, none⟩), .agg #[.int .i64 e.k, .int .i64 e.g, .int .i64 e.o, .int .i64 e.w, .int .i64 e.l, .int .i64 e.s, .int .i64 e.f, .int .i64 e.t]] w fun x w' => x = .returned (.bool (wchanB had c e)) ∧ Fr w w' := by
  have fW := Fr.alloc w (.cells #[.int .i64 e.k, .int .i64 e.g, .int .i64 e.o, .int .i64 e.w, .int .i64 e.l, .int .i64 e.s, .int .i64 e.f, .int .i64 e.t] 31)
  have kE := EvAt.new w e 31
  have hb := fW.cell hb
  obtain ⟨R, hR⟩ : ∃ R, R = wchanB had c e := ⟨_, rfl⟩
  rw [← hR]
  have HR : Hid (R = wchanB had c e) := hR
  clear hR
  obtain ⟨k, gr, o, wi, l, sz, f, t⟩ := e
  obtain ⟨co, cap, sent, got, cl⟩ := c
  simp only at fW kE hb hL ⊢
  go_enter Tryz.func118, Tryz.ntmps118
  go_wp2_with fail
  obtain ⟨W, hW⟩ : ∃ W, W = w.alloc (.cells #[.int .i64 k, .int .i64 gr, .int .i64 o, .int .i64 wi, .int .i64 l, .int .i64 sz, .int .i64 f, .int .i64 t] 31) := ⟨_, rfl⟩
  rw [← hW] at fW kE hb ⊢
  clear hW
  obtain ⟨c0, c1, c2, c3, c4, c5, c6, c7⟩ := kE
  simp only at c0 c2
  clear c1 c3 c4 c5 c6 c7
  have HL : Hid (∀ u, Fr w u → (Instr.lookup 132 (.map (some b2)) (.int .i64 o) true).run Tryz.prog u = .ok (.tuple #[.agg #[.int .i64 co, .int .i64 cap, .int .i64 sent, .int .i64 got, .bool cl], .bool had]) u) := hL
  clear hL
  have l1 := HL.out _ (fW.trans (Fr.drew W))
  have l2 := HL.out _ ((fW.trans (Fr.alloc W (.cells #[.int .i64 0, .int .i64 0, .int .i64 0, .int .i64 0, .bool false] 89))).trans (Fr.drew _))
  go_region_held3 (fun u => u.cell? ⟨b, 2, none⟩ = some (.map (some b2)) ∧ u.cell? ⟨w.heap.size, 2, none⟩ = some (.int .i64 o)) (go_keep) (fail)
  all_goals (
    clear l1 l2 HL
    obtain ⟨V, hV⟩ : ∃ V, V = (W.alloc (.cells #[.int .i64 co, .int .i64 cap, .int .i64 sent, .int .i64 got, .bool cl] 89)).drew := ⟨_, rfl⟩
    have fA : Fr W V := by rw [hV]; exact (Fr.alloc _ _).trans (Fr.drew _)
    have fV : Fr w V := fW.trans fA
    have x0 := fA.cell c0
    have y1 : V.cell? ⟨W.heap.size, 1, none⟩ = some (.int .i64 cap) := by rw [hV]; simp [go_sem]
    have y2 : V.cell? ⟨W.heap.size, 2, none⟩ = some (.int .i64 sent) := by rw [hV]; simp [go_sem]
    have y3 : V.cell? ⟨W.heap.size, 3, none⟩ = some (.int .i64 got) := by rw [hV]; simp [go_sem]
    have y4 : V.cell? ⟨W.heap.size, 4, none⟩ = some (.bool cl) := by rw [hV]; simp [go_sem]
    rw [← hV]
    clear hV fA c0 c2 hb
    rcases (show k = 6 ∨ k = 7 ∨ k = 8 ∨ k = 9 ∨ k = 10 ∨ k = 11 ∨ (k ≠ 6 ∧ k ≠ 7 ∧ k ≠ 8 ∧ k ≠ 9 ∧ k ≠ 10 ∧ k ≠ 11) by omega) with rfl | rfl | rfl | rfl | rfl | rfl | hk
    · have HN : Hid (R = had) := by show R = had; rw [HR.out]; simp [wchanB]
      go_wp2_with fail
      go_ret
      exact ⟨ret_bool HN.out.symm, fV⟩
    · cases had
      · have HN : Hid (R = true) := by show R = true; rw [HR.out]; simp [wchanB]
        go_wp2_with fail
        go_ret
        exact ⟨ret_bool HN.out.symm, fV⟩
      · by_cases h2 : cap = 0
        · have HN : Hid (R = true) := by show R = true; rw [HR.out]; simp [wchanB, h2]
          subst h2
          go_wp2_with fail
          go_ret
          exact ⟨ret_bool HN.out.symm, fV⟩
        · have HN : Hid (R = false) := by show R = false; rw [HR.out]; simp [wchanB, h2]
          go_wp2_with fail
          go_ret
          first | exact ⟨ret_bool HN.out.symm, fV⟩ | exact ⟨ret_bool ((show (cap == 0) = false by simpa using h2).trans HN.out.symm), fV⟩
    · cases had
      · have HN : Hid (R = true) := by show R = true; rw [HR.out]; simp [wchanB]
        go_wp2_with fail
        go_ret
        exact ⟨ret_bool HN.out.symm, fV⟩
      · by_cases h2 : cap = 0
        · have HN : Hid (R = true) := by show R = true; rw [HR.out]; simp [wchanB, h2]
          subst h2
          go_wp2_with fail
          go_ret
          exact ⟨ret_bool HN.out.symm, fV⟩
        · have HN : Hid (R = false) := by show R = false; rw [HR.out]; simp [wchanB, h2]
          go_wp2_with fail
          go_ret
          first | exact ⟨ret_bool HN.out.symm, fV⟩ | exact ⟨ret_bool ((show (cap == 0) = false by simpa using h2).trans HN.out.symm), fV⟩
    · cases had
      · have HN : Hid (R = true) := by show R = true; rw [HR.out]; simp [wchanB]
        go_wp2_with fail
        go_ret
        exact ⟨ret_bool HN.out.symm, fV⟩
      · by_cases h2 : cap = 0
        · have HN : Hid (R = false) := by show R = false; rw [HR.out]; simp [wchanB, h2]
          subst h2
          go_wp2_with fail
          go_ret
          exact ⟨ret_bool HN.out.symm, fV⟩
        · have HN : Hid (R = true) := by show R = true; rw [HR.out]; simp [wchanB, h2]
          go_wp2_with fail
          go_ret
          first | exact ⟨ret_bool HN.out.symm, fV⟩ | exact ⟨ret_bool ((show (cap != 0) = true by simpa using h2).trans HN.out.symm), fV⟩
    · have HN : Hid (R = !had) := by show R = !had; rw [HR.out]; simp [wchanB]
      go_wp2_with fail
      go_ret
      exact ⟨ret_bool HN.out.symm, fV⟩
    · have HN : Hid (R = !had) := by show R = !had; rw [HR.out]; simp [wchanB]
      go_wp2_with fail
      go_ret
      exact ⟨ret_bool HN.out.symm, fV⟩
    · obtain ⟨h6, h7, h8, h9, h10, h11⟩ := hk
      have HN : Hid (R = false) := by show R = false; rw [HR.out]; simp [wchanB, h6, h7, h8, h9, h10, h11]
      go_wp2_with fail
      go_ret
      exact ⟨ret_bool HN.out.symm, fV⟩)

set_option maxRecDepth 20000 in
set_option maxHeartbeats 1000000 in
theorem isWrongOnce_any (b b4 : Nat) (had : Bool) (z : Int) (e : Ev) (w : World) (hb : w.cell? ⟨b, 4, none⟩ = some (.map (some b4)))
    (hL : ∀ u, Fr w u → (Instr.lookup 138 (.map (some b4)) (.int .i64 e.o) true).run Tryz.prog u = .ok (.tuple #[.int .i64 z, .bool had]) u) :
    Calls Tryz.prog 123 #[.pointer (some ⟨b, 0, none⟩), .agg #[.int .i64 e.k, .int .i64 e.g, .int .i64 e.o, .int .i64 e.w, .int .i64 e.l, .int .i64 e.s, .int .i64 e.f, .int .i64 e.t]] w fun x w' => x = .returned (.bool (onceB had e)) ∧ Fr w w' := by
  have fW := Fr.alloc w (.cells #[.int .i64 e.k, .int .i64 e.g, .int .i64 e.o, .int .i64 e.w, .int .i64 e.l, .int .i64 e.s, .int .i64 e.f, .int .i64 e.t] 31)
  have kE := EvAt.new w e 31
  have hb := fW.cell hb
  obtain ⟨R, hR⟩ : ∃ R, R = onceB had e := ⟨_, rfl⟩
  rw [← hR]
  have HR : Hid (R = onceB had e) := hR
  clear hR
  obtain ⟨k, gr, o, wi, l, sz, f, t⟩ := e
  simp only at fW kE hb hL ⊢
  go_enter Tryz.func123, Tryz.ntmps123
  go_wp2_with fail
  obtain ⟨W, hW⟩ : ∃ W, W = w.alloc (.cells #[.int .i64 k, .int .i64 gr, .int .i64 o, .int .i64 wi, .int .i64 l, .int .i64 sz, .int .i64 f, .int .i64 t] 31) := ⟨_, rfl⟩
  rw [← hW] at fW kE hb ⊢
  clear hW
  obtain ⟨c0, c1, c2, c3, c4, c5, c6, c7⟩ := kE
  simp only at c0 c2
  clear c1 c3 c4 c5 c6 c7
  have l1 := hL _ (fW.trans (Fr.drew W))
  clear hL
  go_region_held3 (fun u => u.cell? ⟨b, 4, none⟩ = some (.map (some b4)) ∧ u.cell? ⟨w.heap.size, 2, none⟩ = some (.int .i64 o)) (go_keep) (fail)
  all_goals (
    clear l1
    obtain ⟨V, hV⟩ : ∃ V, V = W.drew := ⟨_, rfl⟩
    have fA : Fr W V := by rw [hV]; exact Fr.drew _
    have fV : Fr w V := fW.trans fA
    have x0 := fA.cell c0
    rw [← hV]
    clear hV fA c0 c2 hb
    rcases (show k = 15 ∨ k = 16 ∨ (k ≠ 15 ∧ k ≠ 16) by omega) with rfl | rfl | hk
    · have HN : Hid (R = had) := by show R = had; rw [HR.out]; simp [onceB]
      go_wp2_with fail
      go_ret
      exact ⟨ret_bool HN.out.symm, fV⟩
    · have HN : Hid (R = !had) := by show R = !had; rw [HR.out]; simp [onceB]
      go_wp2_with fail
      go_ret
      exact ⟨ret_bool HN.out.symm, fV⟩
    · obtain ⟨h1, h2⟩ := hk
      have HN : Hid (R = false) := by show R = false; rw [HR.out]; simp [onceB, h1, h2]
      go_wp2_with fail
      go_ret
      exact ⟨ret_bool HN.out.symm, fV⟩)
end Go.Proofs.YtcofhmikdkkigaaGreatDoor
namespace Go.Proofs.YtcofhmikdkkigaaGreatDoor
open Go.RowKit

def heldB (had : Bool) (wr : Int) (rd : List Int) (e : Ev) : Bool := if e.k = 2 then had else if e.k = 4 then had && (decide (wr ≠ -1) || memB rd e.g) else false
def notHadB (had : Bool) (wr : Int) (rd : List Int) (e : Ev) : Bool := if e.k = 3 then !had || decide (wr ≠ e.g) else if e.k = 5 then !memB rd e.g else false

set_option maxRecDepth 20000 in
set_option maxHeartbeats 1000000 in
theorem isHeld_any (b b1 : Nat) (had : Bool) (lo wr : Int) (ro : Option Addr) (rn rc : Nat) (rd : List Int) (e : Ev) (w : World) (hb : w.cell? ⟨b, 1, none⟩ = some (.map (some b1))) (hn : rd.length = rn) (hl : rd.length ≤ 1048576) (hr : Reads w ro rd)
    (hL : ∀ u, Fr w u → (Instr.lookup 129 (.map (some b1)) (.int .i64 e.o) true).run Tryz.prog u = .ok (.tuple #[.agg #[.int .i64 lo, .int .i64 wr, .slice ro rn rc], .bool had]) u) :
    Calls Tryz.prog 116 #[.pointer (some ⟨b, 0, none⟩), .agg #[.int .i64 e.k, .int .i64 e.g, .int .i64 e.o, .int .i64 e.w, .int .i64 e.l, .int .i64 e.s, .int .i64 e.f, .int .i64 e.t]] w fun x w' => x = .returned (.bool (heldB had wr rd e)) ∧ Fr w w' := by
  have fW := Fr.alloc w (.cells #[.int .i64 e.k, .int .i64 e.g, .int .i64 e.o, .int .i64 e.w, .int .i64 e.l, .int .i64 e.s, .int .i64 e.f, .int .i64 e.t] 31)
  have kE := EvAt.new w e 31
  have hb := fW.cell hb
  obtain ⟨R, hR⟩ : ∃ R, R = heldB had wr rd e := ⟨_, rfl⟩
  rw [← hR]
  have HR : Hid (R = heldB had wr rd e) := hR
  clear hR
  obtain ⟨k, gr, o, wi, l, sz, f, t⟩ := e
  simp only at fW kE hb hL HR ⊢
  have cI := fun u (f : Fr w u) => contains_any ro rn rc rd gr u hn hl (hr.fr f)
  obtain ⟨Q, hQ⟩ : ∃ Q, Q = memB rd gr := ⟨_, rfl⟩
  simp only [← hQ] at cI
  have HQ : Hid (memB rd gr = Q) := hQ.symm
  clear hQ hn hl hr
  go_enter Tryz.func116, Tryz.ntmps116
  go_wp2_with fail
  obtain ⟨W, hW⟩ : ∃ W, W = w.alloc (.cells #[.int .i64 k, .int .i64 gr, .int .i64 o, .int .i64 wi, .int .i64 l, .int .i64 sz, .int .i64 f, .int .i64 t] 31) := ⟨_, rfl⟩
  rw [← hW] at fW kE hb ⊢
  clear hW
  obtain ⟨c0, c1, c2, c3, c4, c5, c6, c7⟩ := kE
  simp only at c0 c1 c2
  clear c3 c4 c5 c6 c7
  have l1 := hL _ (fW.trans (Fr.drew W))
  have l2 := hL _ ((fW.trans (Fr.alloc W (.cells #[.int .i64 0, .int .i64 0, .slice none 0 0] 86))).trans (Fr.drew _))
  clear hL
  go_region_held3 (fun u => u.cell? ⟨b, 1, none⟩ = some (.map (some b1)) ∧ u.cell? ⟨w.heap.size, 2, none⟩ = some (.int .i64 o)) (go_keep) (fail)
  all_goals (
    clear l1 l2
    obtain ⟨V, hV⟩ : ∃ V, V = (W.alloc (.cells #[.int .i64 lo, .int .i64 wr, .slice ro rn rc] 86)).drew := ⟨_, rfl⟩
    have fA : Fr W V := by rw [hV]; exact (Fr.alloc _ _).trans (Fr.drew _)
    have fV : Fr w V := fW.trans fA
    have x0 := fA.cell c0
    have x1 := fA.cell c1
    have y1 : V.cell? ⟨W.heap.size, 1, none⟩ = some (.int .i64 wr) := by rw [hV]; simp [go_sem]
    have y2 : V.cell? ⟨W.heap.size, 2, none⟩ = some (.slice ro rn rc) := by rw [hV]; simp [go_sem]
    rw [← hV]
    clear hV fA c0 c1 c2 hb
    rcases (show k = 2 ∨ k = 4 ∨ (k ≠ 2 ∧ k ≠ 4) by omega) with rfl | rfl | hk
    · have HN : Hid (R = had) := by show R = had; rw [HR.out]; simp [heldB]
      go_wp2_with fail
      go_ret
      exact ⟨ret_bool HN.out.symm, fV⟩
    · cases had
      · have HN : Hid (R = false) := by show R = false; rw [HR.out]; simp [heldB]
        go_wp2_with fail
        go_ret
        exact ⟨ret_bool HN.out.symm, fV⟩
      · by_cases h2 : wr = -1
        · have HN : Hid (R = Q) := by show R = Q; rw [HR.out]; simp only [heldB, HQ.out]; simp [h2]
          subst h2
          go_wp2_with fail
          refine (cI V fV).mono ?_
          rintro e u ⟨rfl, rfl⟩
          go_wp2_with fail
          go_ret
          exact ⟨ret_bool HN.out.symm, fV⟩
        · have HN : Hid (R = true) := by show R = true; rw [HR.out]; simp [heldB, h2]
          have hq : (wr != -1) = true := by simpa using h2
          go_wp2_with fail
          go_ret
          exact ⟨ret_bool HN.out.symm, fV⟩
    · obtain ⟨h1, h2⟩ := hk
      have HN : Hid (R = false) := by show R = false; rw [HR.out]; simp [heldB, h1, h2]
      go_wp2_with fail
      go_ret
      exact ⟨ret_bool HN.out.symm, fV⟩)

set_option maxRecDepth 20000 in
set_option maxHeartbeats 1000000 in
theorem isNotHad_any (b b1 : Nat) (had : Bool) (lo wr : Int) (ro : Option Addr) (rn rc : Nat) (rd : List Int) (e : Ev) (w : World) (hb : w.cell? ⟨b, 1, none⟩ = some (.map (some b1))) (hn : rd.length = rn) (hl : rd.length ≤ 1048576) (hr : Reads w ro rd)
    (hL : ∀ u, Fr w u → (Instr.lookup 129 (.map (some b1)) (.int .i64 e.o) true).run Tryz.prog u = .ok (.tuple #[.agg #[.int .i64 lo, .int .i64 wr, .slice ro rn rc], .bool had]) u) :
    Calls Tryz.prog 117 #[.pointer (some ⟨b, 0, none⟩), .agg #[.int .i64 e.k, .int .i64 e.g, .int .i64 e.o, .int .i64 e.w, .int .i64 e.l, .int .i64 e.s, .int .i64 e.f, .int .i64 e.t]] w fun x w' => x = .returned (.bool (notHadB had wr rd e)) ∧ Fr w w' := by
  have fW := Fr.alloc w (.cells #[.int .i64 e.k, .int .i64 e.g, .int .i64 e.o, .int .i64 e.w, .int .i64 e.l, .int .i64 e.s, .int .i64 e.f, .int .i64 e.t] 31)
  have kE := EvAt.new w e 31
  have hb := fW.cell hb
  obtain ⟨R, hR⟩ : ∃ R, R = notHadB had wr rd e := ⟨_, rfl⟩
  rw [← hR]
  have HR : Hid (R = notHadB had wr rd e) := hR
  clear hR
  obtain ⟨k, gr, o, wi, l, sz, f, t⟩ := e
  simp only at fW kE hb hL HR ⊢
  have cI := fun u (f : Fr w u) => contains_any ro rn rc rd gr u hn hl (hr.fr f)
  obtain ⟨Q, hQ⟩ : ∃ Q, Q = memB rd gr := ⟨_, rfl⟩
  simp only [← hQ] at cI
  have HQ : Hid (memB rd gr = Q) := hQ.symm
  clear hQ hn hl hr
  go_enter Tryz.func117, Tryz.ntmps117
  go_wp2_with fail
  obtain ⟨W, hW⟩ : ∃ W, W = w.alloc (.cells #[.int .i64 k, .int .i64 gr, .int .i64 o, .int .i64 wi, .int .i64 l, .int .i64 sz, .int .i64 f, .int .i64 t] 31) := ⟨_, rfl⟩
  rw [← hW] at fW kE hb ⊢
  clear hW
  obtain ⟨c0, c1, c2, c3, c4, c5, c6, c7⟩ := kE
  simp only at c0 c1 c2
  clear c3 c4 c5 c6 c7
  have l1 := hL _ (fW.trans (Fr.drew W))
  have l2 := hL _ ((fW.trans (Fr.alloc W (.cells #[.int .i64 0, .int .i64 0, .slice none 0 0] 86))).trans (Fr.drew _))
  clear hL
  go_region_held3 (fun u => u.cell? ⟨b, 1, none⟩ = some (.map (some b1)) ∧ u.cell? ⟨w.heap.size, 2, none⟩ = some (.int .i64 o)) (go_keep) (fail)
  all_goals (
    clear l1 l2
    obtain ⟨V, hV⟩ : ∃ V, V = (W.alloc (.cells #[.int .i64 lo, .int .i64 wr, .slice ro rn rc] 86)).drew := ⟨_, rfl⟩
    have fA : Fr W V := by rw [hV]; exact (Fr.alloc _ _).trans (Fr.drew _)
    have fV : Fr w V := fW.trans fA
    have x0 := fA.cell c0
    have x1 := fA.cell c1
    have y1 : V.cell? ⟨W.heap.size, 1, none⟩ = some (.int .i64 wr) := by rw [hV]; simp [go_sem]
    have y2 : V.cell? ⟨W.heap.size, 2, none⟩ = some (.slice ro rn rc) := by rw [hV]; simp [go_sem]
    rw [← hV]
    clear hV fA c0 c1 c2 hb
    rcases (show k = 3 ∨ k = 5 ∨ (k ≠ 3 ∧ k ≠ 5) by omega) with rfl | rfl | hk
    · cases had
      · have HN : Hid (R = true) := by show R = true; rw [HR.out]; simp [notHadB]
        go_wp2_with fail
        go_ret
        exact ⟨ret_bool HN.out.symm, fV⟩
      · by_cases h2 : wr = gr
        · have HN : Hid (R = false) := by show R = false; rw [HR.out]; simp [notHadB, h2]
          subst h2
          go_wp2_with fail
          go_ret
          exact ⟨ret_bool HN.out.symm, fV⟩
        · have HN : Hid (R = true) := by show R = true; rw [HR.out]; simp [notHadB, h2]
          go_wp2_with fail
          go_ret
          first | exact ⟨ret_bool HN.out.symm, fV⟩ | exact ⟨ret_bool ((show (wr != gr) = true by simpa using h2).trans HN.out.symm), fV⟩
    · have HN : Hid (R = !Q) := by show R = !Q; rw [HR.out]; simp [notHadB, HQ.out]
      go_wp2_with fail
      refine (cI V fV).mono ?_
      rintro e u ⟨rfl, rfl⟩
      go_wp2_with fail
      go_ret
      exact ⟨ret_bool HN.out.symm, fV⟩
    · obtain ⟨h1, h2⟩ := hk
      have HN : Hid (R = false) := by show R = false; rw [HR.out]; simp [notHadB, h1, h2]
      go_wp2_with fail
      go_ret
      exact ⟨ret_bool HN.out.symm, fV⟩)
end Go.Proofs.YtcofhmikdkkigaaGreatDoor
namespace Go.Proofs.YtcofhmikdkkigaaGreatDoor
open Go.RowKit

def RowOf (T : Nat) (w : World) (b : Nat) : Prop := ∃ cs : Array Value, w.heap[b]? = some (.cells cs T (0, 0))
theorem RowOf.lt {T : Nat} {w : World} {b : Nat} (h : RowOf T w b) : b < w.heap.size := by
  obtain ⟨cs, h⟩ := h
  exact (Array.getElem?_eq_some_iff.1 h).1
theorem RowOf.keep {T : Nat} {w w' : World} {b : Nat} {row : Option Nat} (h : RowOf T w b) (k : w.grownBy w' row) (hr : some b ≠ row) : RowOf T w' b := by
  have hl := h.lt
  obtain ⟨cs, h⟩ := h
  exact ⟨cs, (k.block b hl hr).trans h⟩
theorem RowOf.one {T T' : Nat} {w : World} {b : Nat} (h : RowOf T w b) (h' : RowOf T' w b) : T = T' := by
  obtain ⟨cs, h⟩ := h
  obtain ⟨cs', h'⟩ := h'
  rw [h] at h'
  simp only [Option.some.injEq, Obj.cells.injEq] at h'
  exact h'.2.1

def HasG {α : Type} (L : Lay α) (w : World) (ao : Option Addr) (n c : Nat) (xs : List α) : Prop :=
  (ao = none ∧ n = 0 ∧ c = 0 ∧ xs = []) ∨ OwnG L w 0 (.slice ao n c) xs
theorem HasG.keep {α : Type} {L : Lay α} {w w' : World} {ao : Option Addr} {n c : Nat} {xs : List α} {row : Option Nat} (h : HasG L w ao n c xs) (k : w.grownBy w' row) (hr : ∀ j, row = some j → blk ao ≠ some j) : HasG L w' ao n c xs := by
  rcases h with h | h
  · exact .inl h
  · refine .inr ?_
    cases row with
    | none => exact h.fr k
    | some j =>
      obtain ⟨g, cap, e, ho, hl⟩ := h
      simp only [Value.slice.injEq] at e
      obtain ⟨rfl, rfl, rfl⟩ := e
      exact OwnG.keep ⟨g, c, rfl, ho, hl⟩ k (fun q => hr j rfl (by simpa [Value.ownBlock, blk] using q))
theorem HasG.reads {α : Type} {L : Lay α} {w : World} {ao : Option Addr} {n c : Nat} {xs : List α} (h : HasG L w ao n c xs) : ReadsG L w ao xs ∧ n = xs.length := by
  rcases h with ⟨rfl, rfl, rfl, rfl⟩ | ⟨g, cap, e, ho, hl⟩
  · exact ⟨ReadsG.nil _ _ _, rfl⟩
  · simp only [Value.slice.injEq] at e
    obtain ⟨rfl, rfl, rfl⟩ := e
    exact ⟨own_readsG ho hl, rfl⟩
theorem HasG.row {α : Type} {L : Lay α} {w : World} {ao : Option Addr} {n c : Nat} {xs : List α} (h : HasG L w ao n c xs) : ∀ b, blk ao = some b → RowOf L.ty w b := by
  intro b hb
  rcases h with ⟨rfl, -, -, -⟩ | ⟨g, cap, e, ho, hl⟩
  · simp [blk] at hb
  · simp only [Value.slice.injEq] at e
    obtain ⟨rfl, rfl, rfl⟩ := e
    simp only [blk, Option.map_some, Option.some.injEq] at hb
    subst hb
    rcases ho.2 with ⟨e, -⟩ | ⟨g', cap', cur, e, -, hrow, -⟩
    · simp at e
    · simp only [Value.slice.injEq, Option.some.injEq, Addr.mk.injEq, and_true] at e
      obtain ⟨rfl, -⟩ := e
      exact ⟨cur, hrow⟩
def HasS (w : World) (ao : Option Addr) (n c : Nat) : Prop := (ao = none ∧ n = 0 ∧ c = 0) ∨ ∃ xs, OwnS w 0 (.slice ao n c) xs
theorem HasS.keep {w w' : World} {ao : Option Addr} {n c : Nat} {row : Option Nat} (h : HasS w ao n c) (k : w.grownBy w' row) (hr : ∀ j, row = some j → blk ao ≠ some j) : HasS w' ao n c := by
  rcases h with h | ⟨xs, h⟩
  · exact .inl h
  · refine .inr ⟨xs, ?_⟩
    cases row with
    | none => exact h.fr k
    | some j =>
      obtain ⟨g, cap, e, ho⟩ := h
      simp only [Value.slice.injEq] at e
      obtain ⟨rfl, rfl, rfl⟩ := e
      exact OwnS.keep ⟨g, c, rfl, ho⟩ k (fun q => hr j rfl (by simpa [Value.ownBlock, blk] using q))
theorem HasS.row {w : World} {ao : Option Addr} {n c : Nat} (h : HasS w ao n c) : ∀ b, blk ao = some b → RowOf 2 w b := by
  intro b hb
  rcases h with ⟨rfl, -, -⟩ | ⟨xs, g, cap, e, ho⟩
  · simp [blk] at hb
  · simp only [Value.slice.injEq] at e
    obtain ⟨rfl, rfl, rfl⟩ := e
    simp only [blk, Option.map_some, Option.some.injEq] at hb
    subst hb
    rcases ho.1.2 with ⟨e, -⟩ | ⟨g', cap', cur, e, -, hrow, -⟩
    · simp at e
    · simp only [Value.slice.injEq, Option.some.injEq, Addr.mk.injEq, and_true] at e
      obtain ⟨rfl, -⟩ := e
      exact ⟨cur, hrow⟩

def RdB (w : World) (oo : Option Addr) (b : Nat) : Prop := RowOf 2 w b ∧ blk oo ≠ some b
theorem RdB.keep {w w' : World} {oo : Option Addr} {b : Nat} {row : Option Nat} (h : RdB w oo b) (k : w.grownBy w' row) (hr : some b ≠ row) : RdB w' oo b := ⟨h.1.keep k hr, h.2⟩
theorem RdB.fr {w w' : World} {oo : Option Addr} {ao : Option Addr} (h : InB (RdB w oo) ao) (k : Fr w w') : InB (RdB w' oo) ao := fun b hb => (h b hb).keep k (by simp)

structure OwR (w : World) (s : Sv) : Prop where
  l : ∃ lvs, HasG layL w s.lo s.ll s.lc lvs ∧ ∀ z ∈ lvs, InB (RdB w s.oo) z.ro
  c : ∃ cs, HasG layC w s.co s.cl s.cc cs
  n : ∃ gs, HasG layN w s.no s.nl s.nc gs
  o : HasS w s.oo s.ol s.oc

theorem lks_one {w : World} {ao : Option Addr} {xs ys : List Lv} (h : ReadsG layL w ao xs) (h' : ReadsG layL w ao ys) (hl : xs.length = ys.length) : xs = ys := by
  refine List.ext_getElem hl fun k h1 h2 => ?_
  obtain ⟨b, off, e, a0, a1, a2⟩ := lv_at h k h1
  obtain ⟨b', off', e', x0, x1, x2⟩ := lv_at h' k h2
  rw [e] at e'
  simp only [Option.some.injEq, Addr.mk.injEq, and_true] at e'
  obtain ⟨rfl, rfl⟩ := e'
  rw [a0] at x0
  rw [a1] at x1
  rw [a2] at x2
  simp only [Option.some.injEq, Value.int.injEq, Value.slice.injEq, true_and] at x0 x1 x2
  generalize xs[k] = x at *
  generalize ys[k] = y at *
  obtain ⟨p, q, r, t, v⟩ := x
  obtain ⟨p', q', r', t', v'⟩ := y
  simp only at x0 x1 x2
  obtain ⟨rfl, rfl, rfl⟩ := x2
  rw [x0, x1]
theorem OwR.rd {w : World} {s : Sv} (h : OwR w s) {lvs : List Lv} (hr : ReadsG layL w s.lo lvs) (hn : s.ll = lvs.length) : ∀ z ∈ lvs, InB (RdB w s.oo) z.ro := by
  obtain ⟨xs, h1, h2⟩ := h.l
  have e := lks_one hr h1.reads.1 (by rw [← hn, h1.reads.2])
  subst e
  exact h2
theorem OwR.keep {B : Nat → Prop} {w w' : World} {s : Sv} {m : Scn} {row : Option Nat} (h : OwR w s) (hS : ScR B w s m) (k : w.grownBy w' row) (hr : ∀ j, row = some j → ¬ B j) : OwR w' s := by
  have ne : ∀ {ao : Option Addr}, InB B ao → ∀ j, row = some j → blk ao ≠ some j := fun hi j hj e => hr j hj (hi j e)
  obtain ⟨lvs, h1, h2, h3⟩ := hS.lks
  obtain ⟨xs, g1, g2⟩ := h.l
  have e := lks_one h1 g1.reads.1 (by rw [← h2, g1.reads.2])
  subst e
  obtain ⟨cs, c1⟩ := h.c
  obtain ⟨gs, n1⟩ := h.n
  refine ⟨⟨lvs, g1.keep k (ne hS.bl), fun z hz b hb => (g2 z hz b hb).keep k fun q => ?_⟩, ⟨cs, c1.keep k (ne hS.bc)⟩, ⟨gs, n1.keep k (ne hS.bn)⟩, h.o.keep k (ne hS.bo)⟩
  obtain ⟨j, hj, rfl⟩ := List.mem_iff_getElem.1 hz
  exact hr b q.symm ((h3.at_ j hj (by rw [← h3.len]; exact hj)).bl b hb)
theorem OwR.fr {w w' : World} {s : Sv} (h : OwR w s) (k : Fr w w') : OwR w' s := by
  obtain ⟨xs, g1, g2⟩ := h.l
  obtain ⟨cs, c1⟩ := h.c
  obtain ⟨gs, n1⟩ := h.n
  exact ⟨⟨xs, g1.keep k (by simp), fun z hz => RdB.fr (g2 z hz) k⟩, ⟨cs, c1.keep k (by simp)⟩, ⟨gs, n1.keep k (by simp)⟩, h.o.keep k (by simp)⟩
theorem OwR.nil (w : World) (g : Int) : OwR w ⟨g, none, 0, 0, none, 0, 0, none, 0, 0, none, 0, 0⟩ :=
  ⟨⟨[], .inl ⟨rfl, rfl, rfl, rfl⟩, by simp⟩, ⟨[], .inl ⟨rfl, rfl, rfl, rfl⟩⟩, ⟨[], .inl ⟨rfl, rfl, rfl, rfl⟩⟩, .inl ⟨rfl, rfl, rfl⟩⟩
theorem OwR.gors {w : World} {s : Sv} (h : OwR w s) (g : Int) : OwR w { s with g := g } := ⟨h.l, h.c, h.n, h.o⟩
theorem OwR.locks {w w' : World} {s : Sv} {base : Nat} {ao : Option Addr} {l c : Nat} {zs : List Lv} (h : OwR w s) (k : Fr w w') (ho : OwnG layL w' base (.slice ao l c) zs) (hz : ∀ z ∈ zs, InB (RdB w s.oo) z.ro) : OwR w' { s with lo := ao, ll := l, lc := c } :=
  have h' := h.fr k
  ⟨⟨zs, .inr (ho.lower (Nat.zero_le _)), fun z q => RdB.fr (hz z q) k⟩, h'.c, h'.n, h'.o⟩
theorem OwR.chans {w w' : World} {s : Sv} {base : Nat} {ao : Option Addr} {l c : Nat} {zs : List Ch} (h : OwR w s) (k : Fr w w') (ho : OwnG layC w' base (.slice ao l c) zs) : OwR w' { s with co := ao, cl := l, cc := c } :=
  have h' := h.fr k
  ⟨h'.l, ⟨zs, .inr (ho.lower (Nat.zero_le _))⟩, h'.n, h'.o⟩
theorem OwR.counts {w w' : World} {s : Sv} {base : Nat} {ao : Option Addr} {l c : Nat} {zs : List Ct} (h : OwR w s) (k : Fr w w') (ho : OwnG layN w' base (.slice ao l c) zs) : OwR w' { s with no := ao, nl := l, nc := c } :=
  have h' := h.fr k
  ⟨h'.l, h'.c, ⟨zs, .inr (ho.lower (Nat.zero_le _))⟩, h'.o⟩
theorem OwR.onces {w w' : World} {s : Sv} {g l c : Nat} {xs : List Int} (h : OwR w s) (k : Fr w w') (ho : OwnI w' w.heap.size (.slice (some ⟨g, 0, none⟩) l c) xs) (hn : xs.length = l) : OwR w' { s with oo := some ⟨g, 0, none⟩, ol := l, oc := c } := by
  have h' := h.fr k
  have hg := own_lt ho
  obtain ⟨lvs, g1, g2⟩ := h.l
  subst hn
  refine ⟨⟨lvs, g1.keep k (by simp), fun z hz b hb => ⟨(g2 z hz b hb).1.keep k (by simp), fun q => ?_⟩⟩, h'.c, h'.n, .inr ⟨xs, g, c, rfl, ho.lower (Nat.zero_le _)⟩⟩
  have := (g2 z hz b hb).1.lt
  simp only [blk, Option.map_some, Option.some.injEq] at q
  omega
theorem rd_new {w w' : World} {oo : Option Addr} {g l c : Nat} {n k : Nat} {xs : List Int} (ho : HasS w oo n k) (hi : OwnI w' w.heap.size (.slice (some ⟨g, 0, none⟩) l c) xs) : InB (RdB w' oo) (some ⟨g, 0, none⟩) := by
  have hg := own_lt hi
  intro b hb
  simp only [blk, Option.map_some, Option.some.injEq] at hb
  subst hb
  refine ⟨?_, fun q => ?_⟩
  · rcases hi.1.2 with ⟨e, -⟩ | ⟨g', cap', cur, e, -, hrow, -⟩
    · simp at e
    · simp only [Value.slice.injEq, Option.some.injEq, Addr.mk.injEq, and_true] at e
      obtain ⟨rfl, -⟩ := e
      exact ⟨cur, hrow⟩
  · have := (ho.row g q).lt
    omega
theorem own_fin {Bx : Nat → Prop} {u : World} {s : Sv} {m : Scn} {rb : Nat} (h : ScR Bx u s m) (hx : ¬ Bx rb) (hO : OwR u s) (v0 v1 v2 v3 v4 : Value) :
    OwR (((((u.setCell ⟨rb, 0, none⟩ v0).setCell ⟨rb, 1, none⟩ v1).setCell ⟨rb, 2, none⟩ v2).setCell ⟨rb, 3, none⟩ v3).setCell ⟨rb, 4, none⟩ v4) s :=
  hO.keep h (put5 u rb v0 v1 v2 v3 v4) (fun j hj => by cases hj; exact hx)
end Go.Proofs.YtcofhmikdkkigaaGreatDoor
