/-
  Why an event of a lock can't be done: l4LockCode.
-/
import Derived.Test.YtikjodbboljhjaaGreatDoorScMod
import Derived.Test.YtikjodbboljhjaaGreatDoorScK
import Derived.Test.YtikjodbboljhjaaGreatDoorScIs
import Derived.Test.YtikjodbboljhjaaGreatDoorEvTo
namespace Go.Proofs.YtikjodbboljhjaaGreatDoor
open Go.RowKit

/-- A boxed scene and a boxed event. -/
theorem box2 (w : World) (s : Sv) (e : Ev) :
    ScK ((w.alloc (.cells #[.int .i64 s.g, .slice s.lo s.ll s.lc, .slice s.co s.cl s.cc, .slice s.no s.nl s.nc, .slice s.oo s.ol s.oc] 29)).alloc (.cells #[.int .i64 e.k, .int .i64 e.g, .int .i64 e.o, .int .i64 e.w, .int .i64 e.l, .int .i64 e.s, .int .i64 e.f, .int .i64 e.t] 31)) w.heap.size s ∧
    EvB ((w.alloc (.cells #[.int .i64 s.g, .slice s.lo s.ll s.lc, .slice s.co s.cl s.cc, .slice s.no s.nl s.nc, .slice s.oo s.ol s.oc] 29)).alloc (.cells #[.int .i64 e.k, .int .i64 e.g, .int .i64 e.o, .int .i64 e.w, .int .i64 e.l, .int .i64 e.s, .int .i64 e.f, .int .i64 e.t] 31)) (w.heap.size + 1) e ∧
    Fr w ((w.alloc (.cells #[.int .i64 s.g, .slice s.lo s.ll s.lc, .slice s.co s.cl s.cc, .slice s.no s.nl s.nc, .slice s.oo s.ol s.oc] 29)).alloc (.cells #[.int .i64 e.k, .int .i64 e.g, .int .i64 e.o, .int .i64 e.w, .int .i64 e.l, .int .i64 e.s, .int .i64 e.f, .int .i64 e.t] 31)) ∧
    ((w.alloc (.cells #[.int .i64 s.g, .slice s.lo s.ll s.lc, .slice s.co s.cl s.cc, .slice s.no s.nl s.nc, .slice s.oo s.ol s.oc] 29)).alloc (.cells #[.int .i64 e.k, .int .i64 e.g, .int .i64 e.o, .int .i64 e.w, .int .i64 e.l, .int .i64 e.s, .int .i64 e.f, .int .i64 e.t] 31)).heap.size = w.heap.size + 2 := by
  have f1 := Fr.alloc w (.cells #[.int .i64 s.g, .slice s.lo s.ll s.lc, .slice s.co s.cl s.cc, .slice s.no s.nl s.nc, .slice s.oo s.ol s.oc] 29)
  have f2 := Fr.alloc (w.alloc (.cells #[.int .i64 s.g, .slice s.lo s.ll s.lc, .slice s.co s.cl s.cc, .slice s.no s.nl s.nc, .slice s.oo s.ol s.oc] 29)) (.cells #[.int .i64 e.k, .int .i64 e.g, .int .i64 e.o, .int .i64 e.w, .int .i64 e.l, .int .i64 e.s, .int .i64 e.f, .int .i64 e.t] 31)
  refine ⟨(ScK.new w s).fr f2, ?_, f1.trans f2, by simp⟩
  have := EvB.new (w.alloc (.cells #[.int .i64 s.g, .slice s.lo s.ll s.lc, .slice s.co s.cl s.cc, .slice s.no s.nl s.nc, .slice s.oo s.ol s.oc] 29)) e
  simpa using this

set_option maxRecDepth 20000 in
set_option maxHeartbeats 2000000 in
theorem l4LockCode_any {B : Nat → Prop} (s : Sv) (m : Scn) (e : Ev) (w : World) (hk : 2 ≤ e.k ∧ e.k ≤ 5) (ho : I64 e.o) (h : ScR B w s m) :
    Calls Tryz.prog 44 #[.agg #[.int .i64 s.g, .slice s.lo s.ll s.lc, .slice s.co s.cl s.cc, .slice s.no s.nl s.nc, .slice s.oo s.ol s.oc], .agg #[.int .i64 e.k, .int .i64 e.g, .int .i64 e.o, .int .i64 e.w, .int .i64 e.l, .int .i64 e.s, .int .i64 e.f, .int .i64 e.t]] w fun x w' => x = .returned (.int .i64 (lockCode m e)) ∧ Fr w w' := by
  obtain ⟨k1, k2, fW, hz⟩ := box2 w s e
  obtain ⟨k, gr, o, wi, l, sz, f, t⟩ := e
  obtain ⟨g, lo, ll, lc, co, cl, cc, no, nl, nc, oo, ol, oc⟩ := s
  simp only at hk ho k1 k2 fW hz ⊢
  have cL := fun u (hf : Fr w u) => l4LockOf_any (B := B) ⟨g, lo, ll, lc, co, cl, cc, no, nl, nc, oo, ol, oc⟩ m o u ho (h.fr hf)
  simp only at cL
  obtain ⟨R, hR⟩ : ∃ R, R = lockCode m ⟨k, gr, o, wi, l, sz, f, t⟩ := ⟨_, rfl⟩
  rw [← hR]
  unfold lockCode at hR
  simp only at hR
  obtain ⟨L, hL⟩ : ∃ L, L = lockOf m.ls o := ⟨_, rfl⟩
  rw [← hL] at cL
  simp only [← hL] at hR
  clear hL h
  rcases (show k = 2 ∨ k = 3 ∨ k = 4 ∨ k = 5 by omega) with rfl | rfl | rfl | rfl
  · have HR : Hid (R = _) := hR.trans (by rw [if_pos rfl])
    clear hR
    go_enter Tryz.func44, Tryz.ntmps44
    go_wp2_with fail
    refine (cL _ fW).mono ?_
    rintro e u1 ⟨⟨lo', lw, lr, ln, lq⟩, rfl, hlv, f1⟩
    have fA := Fr.alloc u1 (.cells #[.int .i64 lo', .int .i64 lw, .slice lr ln lq] 47)
    have HF : Hid (Fr w (u1.alloc (.cells #[.int .i64 lo', .int .i64 lw, .slice lr ln lq] 47))) := (fW.trans f1).trans fA
    have n0 := fA.cell (f1.cell k2.at.1)
    have n1 := fA.cell (f1.cell k2.at.2.1)
    simp only at n0 n1
    have HW : Hid (lw = L.wr) := hlv.wr
    have HN : Hid (ln = L.rd.length) := hlv.rn
    have hsz : ln ≤ 1048576 := by have := hlv.sz; have := HN.out; omega
    have cI := l4In_any lr ln lq L.rd gr _ HN.out.symm (hlv.rd.fr fA)
    have hfu : Fr (u1.alloc (.cells #[.int .i64 lo', .int .i64 lw, .slice lr ln lq] 47)) (u1.alloc (.cells #[.int .i64 lo', .int .i64 lw, .slice lr ln lq] 47)) := Fr.refl _
    clear cL k1 k2 fW f1 hlv hz fA hfu
    by_cases h1 : 0 ≤ lw
    · have HE : Hid (0 ≤ L.wr ∨ 0 < L.rd.length) := .inl (by have := HW.out; omega)
      go_wp2_with fail
      go_ret
      exact ⟨ret_int (by rw [HR.out, if_pos HE.out]), HF.out⟩
    · have h1' : lw < 0 := by omega
      clear h1
      by_cases h2 : 0 < ln
      · have HE : Hid (0 ≤ L.wr ∨ 0 < L.rd.length) := .inr (by have := HN.out; omega)
        have h2' : (0 : Int) < (ln : Int) := by omega
        go_wp2_with fail
        go_ret
        exact ⟨ret_int (by rw [HR.out, if_pos HE.out]), HF.out⟩
      · have HE : Hid (¬ (0 ≤ L.wr ∨ 0 < L.rd.length)) := by
          show ¬ (0 ≤ L.wr ∨ 0 < L.rd.length)
          have := HN.out; have := HW.out; omega
        obtain rfl : ln = 0 := by omega
        go_wp2_with fail
        go_ret
        exact ⟨ret_int (by rw [HR.out, if_neg HE.out]), HF.out⟩
  · have HR : Hid (R = _) := hR.trans (by rw [if_neg (by decide), if_neg (by decide), if_pos rfl])
    clear hR
    go_enter Tryz.func44, Tryz.ntmps44
    go_wp2_with fail
    refine (cL _ fW).mono ?_
    rintro e u1 ⟨⟨lo', lw, lr, ln, lq⟩, rfl, hlv, f1⟩
    have fA := Fr.alloc u1 (.cells #[.int .i64 lo', .int .i64 lw, .slice lr ln lq] 47)
    have HF : Hid (Fr w (u1.alloc (.cells #[.int .i64 lo', .int .i64 lw, .slice lr ln lq] 47))) := (fW.trans f1).trans fA
    have n0 := fA.cell (f1.cell k2.at.1)
    have n1 := fA.cell (f1.cell k2.at.2.1)
    simp only at n0 n1
    have HW : Hid (lw = L.wr) := hlv.wr
    have HN : Hid (ln = L.rd.length) := hlv.rn
    have hsz : ln ≤ 1048576 := by have := hlv.sz; have := HN.out; omega
    have cI := l4In_any lr ln lq L.rd gr _ HN.out.symm (hlv.rd.fr fA)
    have hfu : Fr (u1.alloc (.cells #[.int .i64 lo', .int .i64 lw, .slice lr ln lq] 47)) (u1.alloc (.cells #[.int .i64 lo', .int .i64 lw, .slice lr ln lq] 47)) := Fr.refl _
    clear cL k1 k2 fW f1 hlv hz fA hfu
    clear cI
    cases h1 : (lw == gr)
    · have HE : Hid (¬ L.wr = gr) := by
        show ¬ L.wr = gr
        rw [← HW.out]; exact beq_eq_false_iff_ne.1 h1
      go_wp2_with fail
      go_ret
      exact ⟨ret_int (by rw [HR.out, if_neg HE.out]), HF.out⟩
    · have HE : Hid (L.wr = gr) := by
        show L.wr = gr
        rw [← HW.out]; exact beq_iff_eq.1 h1
      go_wp2_with fail
      go_ret
      exact ⟨ret_int (by rw [HR.out, if_pos HE.out]), HF.out⟩
  · have HR : Hid (R = _) := hR.trans (by rw [if_neg (by decide), if_pos rfl])
    clear hR
    go_enter Tryz.func44, Tryz.ntmps44
    go_wp2_with fail
    refine (cL _ fW).mono ?_
    rintro e u1 ⟨⟨lo', lw, lr, ln, lq⟩, rfl, hlv, f1⟩
    have fA := Fr.alloc u1 (.cells #[.int .i64 lo', .int .i64 lw, .slice lr ln lq] 47)
    have HF : Hid (Fr w (u1.alloc (.cells #[.int .i64 lo', .int .i64 lw, .slice lr ln lq] 47))) := (fW.trans f1).trans fA
    have n0 := fA.cell (f1.cell k2.at.1)
    have n1 := fA.cell (f1.cell k2.at.2.1)
    simp only at n0 n1
    have HW : Hid (lw = L.wr) := hlv.wr
    have HN : Hid (ln = L.rd.length) := hlv.rn
    have hsz : ln ≤ 1048576 := by have := hlv.sz; have := HN.out; omega
    have cI := l4In_any lr ln lq L.rd gr _ HN.out.symm (hlv.rd.fr fA)
    have hfu : Fr (u1.alloc (.cells #[.int .i64 lo', .int .i64 lw, .slice lr ln lq] 47)) (u1.alloc (.cells #[.int .i64 lo', .int .i64 lw, .slice lr ln lq] 47)) := Fr.refl _
    clear cL k1 k2 fW f1 hlv hz fA hfu
    by_cases h1 : 0 ≤ lw
    · have HE : Hid (0 ≤ L.wr ∨ memB L.rd gr = true) := .inl (by have := HW.out; omega)
      clear cI
      go_wp2_with fail
      go_ret
      exact ⟨ret_int (by rw [HR.out, if_pos HE.out]), HF.out⟩
    · have h1' : lw < 0 := by omega
      clear h1
      cases hm : memB L.rd gr
      · have HE : Hid (¬ (0 ≤ L.wr ∨ memB L.rd gr = true)) := by
          show ¬ (0 ≤ L.wr ∨ memB L.rd gr = true)
          have := HW.out; simp [hm]; omega
        rw [hm] at cI
        clear hm
        go_wp2_with (go_at_call 46; refine cI.mono ?_; rintro e w' ⟨rfl, rfl⟩)
        go_ret
        exact ⟨ret_int (by rw [HR.out, if_neg HE.out]), HF.out⟩
      · have HE : Hid (0 ≤ L.wr ∨ memB L.rd gr = true) := .inr hm
        rw [hm] at cI
        clear hm
        go_wp2_with (go_at_call 46; refine cI.mono ?_; rintro e w' ⟨rfl, rfl⟩)
        go_ret
        exact ⟨ret_int (by rw [HR.out, if_pos HE.out]), HF.out⟩
  · have HR : Hid (R = _) := hR.trans (by rw [if_neg (by decide), if_neg (by decide), if_neg (by decide), if_pos rfl])
    clear hR
    go_enter Tryz.func44, Tryz.ntmps44
    go_wp2_with fail
    refine (cL _ fW).mono ?_
    rintro e u1 ⟨⟨lo', lw, lr, ln, lq⟩, rfl, hlv, f1⟩
    have fA := Fr.alloc u1 (.cells #[.int .i64 lo', .int .i64 lw, .slice lr ln lq] 47)
    have HF : Hid (Fr w (u1.alloc (.cells #[.int .i64 lo', .int .i64 lw, .slice lr ln lq] 47))) := (fW.trans f1).trans fA
    have n0 := fA.cell (f1.cell k2.at.1)
    have n1 := fA.cell (f1.cell k2.at.2.1)
    simp only at n0 n1
    have HW : Hid (lw = L.wr) := hlv.wr
    have HN : Hid (ln = L.rd.length) := hlv.rn
    have hsz : ln ≤ 1048576 := by have := hlv.sz; have := HN.out; omega
    have cI := l4In_any lr ln lq L.rd gr _ HN.out.symm (hlv.rd.fr fA)
    have hfu : Fr (u1.alloc (.cells #[.int .i64 lo', .int .i64 lw, .slice lr ln lq] 47)) (u1.alloc (.cells #[.int .i64 lo', .int .i64 lw, .slice lr ln lq] 47)) := Fr.refl _
    clear cL k1 k2 fW f1 hlv hz fA hfu
    cases hm : memB L.rd gr
    · have HE : Hid (¬ (memB L.rd gr = true)) := by
        show ¬ (memB L.rd gr = true)
        simp [hm]
      rw [hm] at cI
      clear hm
      go_wp2_with (go_at_call 46; refine cI.mono ?_; rintro e w' ⟨rfl, rfl⟩)
      go_ret
      exact ⟨ret_int (by rw [HR.out, if_neg HE.out]), HF.out⟩
    · have HE : Hid (memB L.rd gr = true) := hm
      rw [hm] at cI
      clear hm
      go_wp2_with (go_at_call 46; refine cI.mono ?_; rintro e w' ⟨rfl, rfl⟩)
      go_ret
      exact ⟨ret_int (by rw [HR.out, if_pos HE.out]), HF.out⟩
end Go.Proofs.YtikjodbboljhjaaGreatDoor
