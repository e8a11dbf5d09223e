/-
  try: an event on a board; the codes without a condition on the event's numbers.
-/
import Derived.Test.YtikjodbboljhjaaGreatDoorScW3
import Derived.Test.YtikjodbboljhjaaGreatDoorScCodeIn
namespace Go.Proofs.YtikjodbboljhjaaGreatDoor
open Go.RowKit

theorem codeM_all {B : Nat → Prop} {b b1 b2 b3 b4 n : Nat} {m : Scn} (e : Ev) (w : World) (h : BoardM B w b b1 b2 b3 b4 n m) (hm : scB m = true) (hs : Shapes w) :
    Calls Tryz.prog 47 #[.pointer (some ⟨b, 0, none⟩), .agg #[.int .i64 e.k, .int .i64 e.g, .int .i64 e.o, .int .i64 e.w, .int .i64 e.l, .int .i64 e.s, .int .i64 e.f, .int .i64 e.t]] w fun x w' => x = .returned (.int .i64 (codeIn m e)) ∧ Fr w w' := by
  cases hE : evOk e
  · have c := fun u (f : Fr w u) => implOk_any e u (hs.fr f)
    simp only [hE] at c
    have e1 : codeIn m e = codeC false false false false false false false false false false := by simp [codeIn, hE, codeC]
    rw [e1]
    exact codeFor_any b e w false false false false false false false false false false c (fun q => by cases q) (fun q => by cases q) (fun q => by cases q) (fun q => by cases q) (fun q => by cases q) (fun q => by cases q) (fun q => by cases q) (fun q => by cases q) (fun q => by cases q)
  · exact codeM_any e w h hm hs (i64_small (by have := evOk_o hE; omega))

set_option maxRecDepth 20000 in
set_option maxHeartbeats 1000000 in
theorem codeIn_all {B : Nat → Prop} (s : Sv) (m : Scn) (e : Ev) (w : World) (h : ScR B w s m) :
    Calls Tryz.prog 11 #[.agg #[.int .i64 s.g, .slice s.lo s.ll s.lc, .slice s.co s.cl s.cc, .slice s.no s.nl s.nc, .slice s.oo s.ol s.oc], .agg #[.int .i64 e.k, .int .i64 e.g, .int .i64 e.o, .int .i64 e.w, .int .i64 e.l, .int .i64 e.s, .int .i64 e.f, .int .i64 e.t]] w fun x w' => x = .returned (.int .i64 (codeIn m e)) ∧ Fr w w' := by
  cases hE : evOk e
  · have e1 : codeIn m e = 1 := by simp [codeIn, hE]
    rw [e1]
    obtain ⟨k1, k2, fW, hz⟩ := box2 w s e
    have cE := fun u => specOk_any e u
    simp only [hE] at cE
    clear hE e1 h
    obtain ⟨k, gr, o, wi, l, sz, f, t⟩ := e
    obtain ⟨sg, lo, ll, lc, co, cl, cc, no, nl, nc, oo, ol, oc⟩ := s
    simp only at k1 k2 fW hz cE ⊢
    go_enter Tryz.func11, Tryz.ntmps11
    go_wp2_with fail
    refine (cE _).mono ?_
    rintro x u1 ⟨rfl, f1⟩
    go_wp2_with fail
    go_ret
    exact ⟨rfl, fW.trans f1⟩
  · exact codeIn_any s m e w (i64_small (by have := evOk_o hE; omega)) h

/-- What an event leaves of a scene, be it done or not. -/
def stepS (m : Scn) (e : Ev) : Scn := if codeIn m e = 0 then doS m e else m
theorem step_ok {m : Scn} (hm : scB m = true) (e : Ev) : scB (stepS m e) = true := by
  unfold stepS
  split
  · rename_i h
    exact do_ok h
  · exact hm

set_option maxRecDepth 20000 in
set_option maxHeartbeats 1000000 in
theorem try_any {lo : Nat × Nat} {b b1 b2 b3 b4 n : Nat} {m : Scn} (e : Ev) (w : World) (h : BoardW lo w b b1 b2 b3 b4 n m) (hm : scB m = true) (hs : Shapes w) (hn : n < 4000000) :
    Calls Tryz.prog 40 #[.pointer (some ⟨b, 0, none⟩), .agg #[.int .i64 e.k, .int .i64 e.g, .int .i64 e.o, .int .i64 e.w, .int .i64 e.l, .int .i64 e.s, .int .i64 e.f, .int .i64 e.t]] w fun y w' => y = .returned (.int .i64 (codeIn m e)) ∧ BoardW lo w' b b1 b2 b3 b4 (n + 1) (stepS m e) ∧ ∃ x, On b b1 b2 b3 b4 x ∧ w.grownBy w' (some x) := by
  have fW := Fr.alloc w (.cells #[.int .i64 e.k, .int .i64 e.g, .int .i64 e.o, .int .i64 e.w, .int .i64 e.l, .int .i64 e.s, .int .i64 e.f, .int .i64 e.t] 31)
  have kE := EvAt.new w e 31
  have cC := fun u (f : Fr w u) => codeM_all e u (h.fr f).toM hm (hs.fr f)
  have cD := fun (hc : codeIn m e = 0) u (f : Fr w u) => do_any e u (h.fr f) hc hn
  have HB : Hid (BoardW lo w b b1 b2 b3 b4 n m) := h
  clear h hm hs hn
  have HS : Hid (codeIn m e = 0 → stepS m e = doS m e) := fun q => if_pos q
  have HT : Hid (¬ codeIn m e = 0 → stepS m e = m) := fun q => if_neg q
  obtain ⟨C, hC⟩ : ∃ C, C = codeIn m e := ⟨_, rfl⟩
  simp only [← hC] at cC cD HS HT
  obtain ⟨D, hD⟩ : ∃ D, D = doS m e := ⟨_, rfl⟩
  simp only [← hD] at cD HS
  obtain ⟨S, hS⟩ : ∃ D, D = stepS m e := ⟨_, rfl⟩
  simp only [← hS] at HS HT
  rw [← hC, ← hS]
  clear hC hD hS
  obtain ⟨k, gr, o, wi, l, sz, f, t⟩ := e
  simp only at fW kE cC cD ⊢
  go_enter Tryz.func40, Tryz.ntmps40
  go_wp2_with fail
  obtain ⟨W, hW⟩ : ∃ W, W = w.alloc (.cells #[.int .i64 k, .int .i64 gr, .int .i64 o, .int .i64 wi, .int .i64 l, .int .i64 sz, .int .i64 f, .int .i64 t] 31) := ⟨_, rfl⟩
  rw [← hW] at fW kE ⊢
  clear hW
  refine (cC _ fW).mono ?_
  rintro x u1 ⟨rfl, f1⟩
  clear cC
  have kE := kE.fr f1
  have F1 := fW.trans f1
  obtain ⟨c0, c1, c2, c3, c4, c5, c6, c7⟩ := kE
  simp only at c0 c1 c2 c3 c4 c5 c6 c7
  clear f1 fW
  by_cases hc : C = 0
  · have hcb : (C == 0) = true := by simpa using hc
    have cD := cD hc _ F1
    have HS := HS.out hc
    subst HS
    have HC : Hid (C = 0) := hc
    clear hc HT
    go_wp2_with fail
    refine cD.mono ?_
    rintro x u2 ⟨rfl, B2, y, o2, g2⟩
    clear cD
    go_wp2_with fail
    go_ret
    exact ⟨rfl, B2, y, o2, grown_trans F1.wide g2⟩
  · have hcb : (C == 0) = false := by simpa using hc
    have HT := HT.out hc
    subst HT
    clear hc HS cD
    go_wp2_with fail
    go_ret
    exact ⟨rfl, (HB.out.fr F1).mono (Nat.le_succ n), b, .inl rfl, F1.wide⟩
end Go.Proofs.YtikjodbboljhjaaGreatDoor
