/-
  Pack BH: ScLegP, ScDoneM, ScAfter, ScDone.
-/
import Derived.Test.YtcofhmikdkkigaaGreatDoorPfBD
import Derived.Test.YtcofhmikdkkigaaGreatDoorPfBG
import Derived.Test.YtcofhmikdkkigaaGreatDoorPfAR
namespace Go.Proofs.YtcofhmikdkkigaaGreatDoor
open Go.RowKit

theorem leg_len : ∀ (es : List Ev) (m : Scn), (legS m es).2.1 ≤ es.length
  | [], m => by simp [legS]
  | e :: es, m => by
    by_cases q : codeIn m e = 0
    · rw [leg_go q]
      have := leg_len es (doS m e)
      simp only [List.length_cons]
      omega
    · rw [leg_no q]; simp
theorem leg_code : ∀ (es : List Ev) (m : Scn), (legS m es).2.2 = 0 ↔ (legS m es).2.1 = es.length
  | [], m => by simp [legS]
  | e :: es, m => by
    by_cases q : codeIn m e = 0
    · rw [leg_go q]
      have := leg_code es (doS m e)
      simp only [List.length_cons]
      omega
    · rw [leg_no q]
      simp [q]
theorem leg_part : ∀ (es : List Ev) (m : Scn) (k : Nat), k ≤ (legS m es).2.1 → (legS m (es.take k)).2.1 = k ∧ (legS m (es.take k)).2.2 = 0 ∧ ∀ (h : k < es.length), k < (legS m es).2.1 → codeIn (legS m (es.take k)).1 es[k] = 0
  | es, m, 0, _ => by
    simp only [List.take_zero]
    refine ⟨rfl, rfl, fun h h2 => ?_⟩
    cases es with
    | nil => simp at h
    | cons e es =>
      by_cases q : codeIn m e = 0
      · exact q
      · rw [leg_no q] at h2; simp at h2
  | [], m, k + 1, h => by simp [legS] at h
  | e :: es, m, k + 1, h => by
    by_cases q : codeIn m e = 0
    · rw [leg_go q] at h ⊢
      simp only at h
      obtain ⟨h1, h2, h3⟩ := leg_part es (doS m e) k (by omega)
      rw [List.take_succ_cons, leg_go q]
      refine ⟨by simp only; omega, h2, fun hk hk2 => ?_⟩
      simp only [List.getElem_cons_succ]
      exact h3 (by simpa using hk) (by simp only at hk2; omega)
    · rw [leg_no q] at h; simp at h
theorem leg_ok : ∀ (es : List Ev) (m : Scn), scB m = true → scB (legS m es).1 = true
  | [], m, h => h
  | e :: es, m, h => by
    by_cases q : codeIn m e = 0
    · rw [leg_go q]; exact leg_ok es _ (do_ok q)
    · rw [leg_no q]; exact h
end Go.Proofs.YtcofhmikdkkigaaGreatDoor
namespace Go.Proofs.YtcofhmikdkkigaaGreatDoor
open Go.RowKit

def doneS (m : Scn) (e : Ev) : Scn := if scB m = true then stepS m e else ⟨0, [], [], [], []⟩
theorem scR_zero (B : Nat → Prop) (w : World) : ScR B w ⟨0, none, 0, 0, none, 0, 0, none, 0, 0, none, 0, 0⟩ ⟨0, [], [], [], []⟩ where
  g := rfl
  ig := ⟨by decide, by decide⟩
  lks := ⟨[], ReadsG.nil _ _ _, rfl, LksR.nil _ _⟩
  chs := ReadsG.nil _ _ _
  cl := rfl
  cts := ReadsG.nil _ _ _
  nl := rfl
  ons := Reads.nil _ _
  ol := rfl
  bl := inB_none _
  bc := inB_none _
  bn := inB_none _
  bo := inB_none _
  zo _ := rfl
  sl := by simp
  sc := by simp
  sn := by simp
  so := by simp
  ic c hc := by simp at hc
  inn c hc := by simp at hc
def aftS (es : List Ev) : Scn := if 300 < es.length then ⟨0, [], [], [], []⟩ else (legS scn0 es).1
def aftB (es : List Ev) : Bool := if 300 < es.length then false else decide ((legS scn0 es).2.2 = 0)
end Go.Proofs.YtcofhmikdkkigaaGreatDoor
namespace Go.Proofs.YtcofhmikdkkigaaGreatDoor
open Go.RowKit

set_option maxHeartbeats 1000000 in
theorem specAfter_any (ao : Option Addr) (n c : Nat) (es : List Ev) (w : World) (hn : es.length = n) (h : ReadsE w ao es) :
    Calls Tryz.prog 71 #[.slice ao n c] w fun x w' => ∃ (s : Sv) (B : Nat → Prop), x = .returned (.tuple #[.agg #[.int .i64 s.g, .slice s.lo s.ll s.lc, .slice s.co s.cl s.cc, .slice s.no s.nl s.nc, .slice s.oo s.ol s.oc], .bool (aftB es)]) ∧ ScR B w' s (aftS es) ∧ Fr w w' ∧ ∀ b, B b → w.heap.size ≤ b := by
  have f0 := Fr.alloc w (.cells #[.int .i64 0, .slice none 0 0, .slice none 0 0, .slice none 0 0, .slice none 0 0] 29)
  have k0 := ScK.new w ⟨0, none, 0, 0, none, 0, 0, none, 0, 0, none, 0, 0⟩
  simp only at k0
  subst hn
  by_cases hb : es.length ≤ 300
  · have cP := l5Scene_any ao es.length c es _ rfl (h.fr f0)
    have e1 : aftS es = (legS scn0 es).1 := if_neg (by omega)
    have e3 : aftB es = decide ((legS scn0 es).2.2 = 0) := if_neg (by omega)
    have hlc := leg_code es scn0
    have e2 : (es.length : Int) ≤ 300 := by omega
    rw [e1, e3]
    clear e1 e3 h
    obtain ⟨L, hL⟩ : ∃ L : Nat, L = (legS scn0 es).2.1 := ⟨_, rfl⟩
    obtain ⟨q, hq⟩ : ∃ z : Int, z = (legS scn0 es).2.2 := ⟨_, rfl⟩
    obtain ⟨M, hM⟩ : ∃ z, z = (legS scn0 es).1 := ⟨_, rfl⟩
    simp only [← hL, ← hq, ← hM] at cP hlc
    rw [← hq, ← hM]
    clear hL hq hM hb
    have hbb : ((L : Int) == (es.length : Int)) = decide (q = 0) := by
      by_cases q0 : q = 0
      · have := hlc.1 q0
        simp [q0, this]
      · have : ¬ ((L : Int) = (es.length : Int)) := fun e => q0 (hlc.2 (by omega))
        simp [q0, this]
    clear hlc
    go_enter Tryz.func71, Tryz.ntmps71
    go_wp2_with fail
    refine (cP).mono ?_
    rintro e u1 ⟨⟨sg, lo, ll, lc, co, cl, cc, no, nl, nc, oo, ol, oc⟩, B, rfl, S1, hB, f1⟩
    have fA := Fr.alloc u1 (.cells #[.int .i64 sg, .slice lo ll lc, .slice co cl cc, .slice no nl nc, .slice oo ol oc] 29)
    have kr := k0.fr (f1.trans fA)
    have F1 := f0.trans (f1.trans fA)
    have S2 := S1.fr fA
    have hsz := f0.size
    have hkl := k0.lt
    obtain ⟨j0, j1, j2, j3, j4⟩ := kr.at
    simp only at j0 j1 j2 j3 j4
    have jf := fun i => kr.free i
    have HS2 : Hid _ := S2
    have HB : Hid (∀ b, B b → w.heap.size < b) := fun b q => by have := (hB b q).1; omega
    clear S1 S2 hB cP k0 kr fA f1 f0
    go_wp2_with fail
    have k5 := put5 (u1.alloc (.cells #[.int .i64 sg, .slice lo ll lc, .slice co cl cc, .slice no nl nc, .slice oo ol oc] 29)) w.heap.size (.int .i64 sg) (.slice lo ll lc) (.slice co cl cc) (.slice no nl nc) (.slice oo ol oc)
    refine bodyPost_ret (v := .tuple #[.agg #[.int .i64 sg, .slice lo ll lc, .slice co cl cc, .slice no nl nc, .slice oo ol oc], .bool (decide (q = 0))]) (by simp [results, Tryz.results71, go_sem, j0, j1, j2, j3, j4]) rfl ⟨⟨sg, lo, ll, lc, co, cl, cc, no, nl, nc, oo, ol, oc⟩, B, rfl, ?_, ?_, fun b q => Nat.le_of_lt (HB.out b q)⟩
    · exact HS2.out.keep k5 (fun x hx => by cases hx; exact fun q => by have := HB.out _ q; omega)
    · exact F1.then k5 (fun j hj => by simp only [Option.some.injEq] at hj; omega)
  · have e1 : aftS es = ⟨0, [], [], [], []⟩ := if_pos (by omega)
    have e3 : aftB es = false := if_pos (by omega)
    have e2 : 300 < (es.length : Int) := by omega
    rw [e1, e3]
    clear e1 e3 h hb
    go_enter Tryz.func71, Tryz.ntmps71
    go_wp2_with fail
    refine bodyPost_ret (v := .tuple #[.agg #[.int .i64 0, .slice none 0 0, .slice none 0 0, .slice none 0 0, .slice none 0 0], .bool false]) (by simp [results, Tryz.results71, go_sem]) rfl ⟨⟨0, none, 0, 0, none, 0, 0, none, 0, 0, none, 0, 0⟩, (fun _ => False), rfl, scR_zero _ _, f0, fun b q => q.elim⟩
end Go.Proofs.YtcofhmikdkkigaaGreatDoor
namespace Go.Proofs.YtcofhmikdkkigaaGreatDoor
open Go.RowKit


theorem boardW_any {B : Nat → Prop} (s : Sv) (m : Scn) (w : World) (h : ScR B w s m) (hB : ∀ x, B x → x < w.heap.size) (hm : scB m = true) :
    Calls Tryz.prog 51 #[.agg #[.int .i64 s.g, .slice s.lo s.ll s.lc, .slice s.co s.cl s.cc, .slice s.no s.nl s.nc, .slice s.oo s.ol s.oc]] w fun e w' => ∃ b b1 b2 b3 b4, e = .returned (.pointer (some ⟨b, 0, none⟩)) ∧ w.heap.size ≤ b1 ∧ BoardW (w.heap.size, b + 1) w' b b1 b2 b3 b4 1048576 m ∧ Fr w w' := by
  obtain ⟨lvs, r1, e1, l1⟩ := h.lks
  refine (boardOf_any s m lvs w h r1 e1 l1).mono ?_
  rintro e w' ⟨b, b1, b2, b3, b4, rfl, ⟨q0, q1, q2, q3, q4⟩, Bd, f⟩
  have M := boardM_of hm (l1.fr f) h.sl h.sc h.sn h.so Bd
  have hlt := (Array.getElem?_eq_some_iff.1 Bd.row).1
  obtain ⟨fl, p1, p2⟩ := M.m1
  exact ⟨b, b1, b2, b3, b4, rfl, q0, ⟨⟨q0, by simp only; omega, by simp only; omega⟩, Bd.row, ⟨q1, q2, q3, q4⟩, ⟨fl, p1, fun o => (p2 o).mono (fun x q => .inl (hB x q))⟩, M.m2, M.m3, M.m4⟩, f⟩

set_option maxRecDepth 20000 in
set_option maxHeartbeats 4000000 in
theorem implDone_any {B : Nat → Prop} (s : Sv) (m : Scn) (e : Ev) (w : World) (h : ScR B w s m) (hB : ∀ x, B x → x < w.heap.size) (hs : Shapes w) :
    Calls Tryz.prog 13 #[.agg #[.int .i64 s.g, .slice s.lo s.ll s.lc, .slice s.co s.cl s.cc, .slice s.no s.nl s.nc, .slice s.oo s.ol s.oc], .agg #[.int .i64 e.k, .int .i64 e.g, .int .i64 e.o, .int .i64 e.w, .int .i64 e.l, .int .i64 e.s, .int .i64 e.f, .int .i64 e.t]] w fun x w' => ∃ s' : Sv, x = .returned (.tuple #[.agg #[.int .i64 s'.g, .slice s'.lo s'.ll s'.lc, .slice s'.co s'.cl s'.cc, .slice s'.no s'.nl s'.nc, .slice s'.oo s'.ol s'.oc], .int .i64 (codeIn m e)]) ∧ ScR (fun x => w.heap.size ≤ x ∧ x < w'.heap.size) w' s' (doneS m e) ∧ Fr w w' ∧ Mky w.heap.size w'.heap.size w' s' (doneS m e) := by
  obtain ⟨k1, k2, fW, hz⟩ := box2 w s e
  have fR := Fr.alloc ((w.alloc (.cells #[.int .i64 s.g, .slice s.lo s.ll s.lc, .slice s.co s.cl s.cc, .slice s.no s.nl s.nc, .slice s.oo s.ol s.oc] 29)).alloc (.cells #[.int .i64 e.k, .int .i64 e.g, .int .i64 e.o, .int .i64 e.w, .int .i64 e.l, .int .i64 e.s, .int .i64 e.f, .int .i64 e.t] 31)) (.cells #[.int .i64 0, .slice none 0 0, .slice none 0 0, .slice none 0 0, .slice none 0 0] 29)
  have k3 := ScK.new ((w.alloc (.cells #[.int .i64 s.g, .slice s.lo s.ll s.lc, .slice s.co s.cl s.cc, .slice s.no s.nl s.nc, .slice s.oo s.ol s.oc] 29)).alloc (.cells #[.int .i64 e.k, .int .i64 e.g, .int .i64 e.o, .int .i64 e.w, .int .i64 e.l, .int .i64 e.s, .int .i64 e.f, .int .i64 e.t] 31)) ⟨0, none, 0, 0, none, 0, 0, none, 0, 0, none, 0, 0⟩
  rw [hz] at k3
  have k1 := k1.fr fR
  have k2 := k2.keep fR (by simp)
  have fW := fW.trans fR
  have cS := fun u (f : Fr w u) => implScene_any s m u (h.fr f)
  have cB := fun (q : scB m = true) u (f : Fr w u) => boardW_any s m u (h.fr f) (fun x hx => by have := hB x hx; have := f.size; omega) q
  have cT := fun (q : scB m = true) lo b b1 b2 b3 b4 u (f : Fr w u) (Bd : BoardW lo u b b1 b2 b3 b4 1048576 m) => try_any e u Bd q (hs.fr f) (by omega)
  have HZ : Hid (scB m = false → codeIn m e = 1 ∧ doneS m e = ⟨0, [], [], [], []⟩) := fun q => ⟨by simp [codeIn, q], by simp [doneS, q]⟩
  have HY : Hid (scB m = true → doneS m e = stepS m e ∧ scB (stepS m e) = true) := fun q => ⟨if_pos q, step_ok q e⟩
  have hs0 := hs
  clear h hB hs fR hz
  obtain ⟨C, hC⟩ : ∃ C, C = codeIn m e := ⟨_, rfl⟩
  obtain ⟨D, hD⟩ : ∃ C, C = doneS m e := ⟨_, rfl⟩
  obtain ⟨S, hS⟩ : ∃ C, C = stepS m e := ⟨_, rfl⟩
  obtain ⟨SO, hSO⟩ : ∃ S, S = scB m := ⟨_, rfl⟩
  simp only [← hC, ← hS] at cT
  rw [← hC, ← hD] at HZ ⊢
  rw [← hD, ← hS] at HY
  simp only [← hSO] at cS cB cT HZ HY
  clear hC hD hS hSO
  obtain ⟨k, gr, o, wi, l, sz, f, t⟩ := e
  obtain ⟨sg, lo, ll, lc, co, cl, cc, no, nl, nc, oo, ol, oc⟩ := s
  simp only at k1 k2 k3 fW cS cB cT ⊢
  go_enter Tryz.func13, Tryz.ntmps13
  go_wp2_with fail
  obtain ⟨W, hW⟩ : ∃ W, W = ((w.alloc (.cells #[.int .i64 sg, .slice lo ll lc, .slice co cl cc, .slice no nl nc, .slice oo ol oc] 29)).alloc (.cells #[.int .i64 k, .int .i64 gr, .int .i64 o, .int .i64 wi, .int .i64 l, .int .i64 sz, .int .i64 f, .int .i64 t] 31)).alloc (.cells #[.int .i64 0, .slice none 0 0, .slice none 0 0, .slice none 0 0, .slice none 0 0] 29) := ⟨_, rfl⟩
  rw [← hW] at k1 k2 k3 fW ⊢
  clear hW
  obtain ⟨A, hA⟩ : ∃ A, A = w.heap.size := ⟨_, rfl⟩
  rw [← hA] at k1 k2 k3 ⊢
  have HA : Hid (A = w.heap.size) := hA
  clear hA
  have HQ : Hid (∀ u, Fr W u → ScB u A ⟨sg, lo, ll, lc, co, cl, cc, no, nl, nc, oo, ol, oc⟩ ∧ EvAt u (A + 1) ⟨k, gr, o, wi, l, sz, f, t⟩ ∧ ScK u (A + 2) ⟨0, none, 0, 0, none, 0, 0, none, 0, 0, none, 0, 0⟩) := fun u f => ⟨(k1.fr f).at, (k2.keep f (by simp)).at, k3.fr f⟩
  clear k1 k2 k3
  refine (cS W fW).mono ?_
  rintro x u1 ⟨rfl, f1⟩
  clear cS
  obtain ⟨⟨s0, s1, s2, s3, s4⟩, -, kr⟩ := HQ.out u1 f1
  simp only at s0 s1 s2 s3 s4
  cases SO
  · obtain ⟨rfl, rfl⟩ := HZ.out rfl
    clear cB cT
    obtain ⟨j0, j1, j2, j3, j4⟩ := kr.at
    simp only at j0 j1 j2 j3 j4
    have jf := fun i => kr.free i
    go_wp2_with fail
    have k5 := put5 u1 (A + 2) (.int .i64 0) (.slice none 0 0) (.slice none 0 0) (.slice none 0 0) (.slice none 0 0)
    refine bodyPost_ret (v := .tuple #[.agg #[.int .i64 0, .slice none 0 0, .slice none 0 0, .slice none 0 0, .slice none 0 0], .int .i64 1]) (by simp [results, Tryz.results13, go_sem, j0, j1, j2, j3, j4]) rfl ⟨⟨0, none, 0, 0, none, 0, 0, none, 0, 0, none, 0, 0⟩, rfl, scR_zero _ _, (fW.trans f1).then k5 (fun j hj => by simp only [Option.some.injEq] at hj; have := HA.out; omega), .inr rfl⟩
  · obtain ⟨rfl, hok⟩ := HY.out rfl
    have cB2 := cB (by trivial)
    have cT2 := cT (by trivial)
    clear cB cT
    have HOK : Hid (scB D = true) := hok
    clear HZ HY hok kr
    go_wp2_with fail
    refine (cB2 u1 (fW.trans f1)).mono ?_
    rintro x u2 ⟨b, b1, b2, b3, b4, rfl, hb1, B2, f2⟩
    have G2 := f1.trans f2
    have hbl := B2.lt
    clear cB2 s0 s1 s2 s3 s4
    obtain ⟨-, ⟨c0, c1, c2, c3, c4, c5, c6, c7⟩, -⟩ := HQ.out u2 G2
    simp only at c0 c1 c2 c3 c4 c5 c6 c7
    go_wp2_with fail
    refine (cT2 _ b b1 b2 b3 b4 u2 (fW.trans G2) B2).mono ?_
    rintro x u3 ⟨rfl, B3, y, oy, g3⟩
    have hu1 := f1.size
    have hw1 := fW.size
    have hAl : A + 2 < W.heap.size := (HQ.out W (Fr.refl W)).2.2.lt
    have G3 : Fr W u3 := G2.then g3 (fun j hj => by simp only [Option.some.injEq] at hj; unfold On at oy; omega)
    clear cT2 c0 c1 c2 c3 c4 c5 c6 c7
    go_wp2_with fail
    refine (scene_any u3 B3 HOK.out (by omega)).mono ?_
    rintro x u4 ⟨⟨sg', lo1, ll1, lc1, co1, cl1, cc1, no1, nl1, nc1, oo1, ol1, oc1⟩, rfl, S4, f4, gl, gc, gn, go, ys, O4⟩
    have G4 := G3.trans f4
    obtain ⟨-, -, kr⟩ := HQ.out u4 G4
    obtain ⟨j0, j1, j2, j3, j4⟩ := kr.at
    simp only at j0 j1 j2 j3 j4
    have jf := fun i => kr.free i
    have hu3 := G3.size
    have HS4 : Hid _ := S4
    have HO4 : Hid _ := O4
    clear S4 O4
    go_wp2_with fail
    have k5 := put5 u4 (A + 2) (.int .i64 sg') (.slice lo1 ll1 lc1) (.slice co1 cl1 cc1) (.slice no1 nl1 nc1) (.slice oo1 ol1 oc1)
    have z5 := k5.size
    refine bodyPost_ret (v := .tuple #[.agg #[.int .i64 sg', .slice lo1 ll1 lc1, .slice co1 cl1 cc1, .slice no1 nl1 nc1, .slice oo1 ol1 oc1], .int .i64 C]) (by simp [results, Tryz.results13, go_sem, j0, j1, j2, j3, j4]) rfl ⟨⟨sg', lo1, ll1, lc1, co1, cl1, cc1, no1, nl1, nc1, oo1, ol1, oc1⟩, rfl, ?_, (fW.trans G4).then k5 (fun j hj => by simp only [Option.some.injEq] at hj; have := HA.out; omega), .inl ⟨gl, gc, gn, go, ys, (HO4.out.keep k5 (.inl (by omega))).lower (by have := HA.out; omega), fun x hx => Nat.lt_of_lt_of_le (HO4.out.lo x hx).2 z5⟩⟩
    exact (HS4.out.keep k5 (fun x hx => by cases hx; exact fun (q : u3.heap.size ≤ A + 2 ∧ A + 2 < u4.heap.size) => by omega)).mono (fun x (q : u3.heap.size ≤ x ∧ x < u4.heap.size) => ⟨by have h1 := HA.out; have h2 := q.1; omega, Nat.lt_of_lt_of_le q.2 z5⟩)
end Go.Proofs.YtcofhmikdkkigaaGreatDoor
