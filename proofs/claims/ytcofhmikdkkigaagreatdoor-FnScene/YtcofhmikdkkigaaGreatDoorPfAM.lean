/-
  Pack AM: ScCode, ScCode2, ScCodeIn.
-/
import Derived.Test.YtcofhmikdkkigaaGreatDoorPfAJ
import Derived.Test.YtcofhmikdkkigaaGreatDoorPfAG
import Derived.Test.YtcofhmikdkkigaaGreatDoorPfAL
import Derived.Test.YtcofhmikdkkigaaGreatDoorPfAI
namespace Go.Proofs.YtcofhmikdkkigaaGreatDoor
open Go.RowKit

theorem box2 (w : World) (s : Sv) (e : Ev) :
    ScK ((w.alloc (.cells #[.int .i64 s.g, .slice s.lo s.ll s.lc, .slice s.co s.cl s.cc, .slice s.no s.nl s.nc, .slice s.oo s.ol s.oc] 29)).alloc (.cells #[.int .i64 e.k, .int .i64 e.g, .int .i64 e.o, .int .i64 e.w, .int .i64 e.l, .int .i64 e.s, .int .i64 e.f, .int .i64 e.t] 31)) w.heap.size s ∧
    EvB ((w.alloc (.cells #[.int .i64 s.g, .slice s.lo s.ll s.lc, .slice s.co s.cl s.cc, .slice s.no s.nl s.nc, .slice s.oo s.ol s.oc] 29)).alloc (.cells #[.int .i64 e.k, .int .i64 e.g, .int .i64 e.o, .int .i64 e.w, .int .i64 e.l, .int .i64 e.s, .int .i64 e.f, .int .i64 e.t] 31)) (w.heap.size + 1) e ∧
    Fr w ((w.alloc (.cells #[.int .i64 s.g, .slice s.lo s.ll s.lc, .slice s.co s.cl s.cc, .slice s.no s.nl s.nc, .slice s.oo s.ol s.oc] 29)).alloc (.cells #[.int .i64 e.k, .int .i64 e.g, .int .i64 e.o, .int .i64 e.w, .int .i64 e.l, .int .i64 e.s, .int .i64 e.f, .int .i64 e.t] 31)) ∧
    ((w.alloc (.cells #[.int .i64 s.g, .slice s.lo s.ll s.lc, .slice s.co s.cl s.cc, .slice s.no s.nl s.nc, .slice s.oo s.ol s.oc] 29)).alloc (.cells #[.int .i64 e.k, .int .i64 e.g, .int .i64 e.o, .int .i64 e.w, .int .i64 e.l, .int .i64 e.s, .int .i64 e.f, .int .i64 e.t] 31)).heap.size = w.heap.size + 2 := by
  have f1 := Fr.alloc w (.cells #[.int .i64 s.g, .slice s.lo s.ll s.lc, .slice s.co s.cl s.cc, .slice s.no s.nl s.nc, .slice s.oo s.ol s.oc] 29)
  have f2 := Fr.alloc (w.alloc (.cells #[.int .i64 s.g, .slice s.lo s.ll s.lc, .slice s.co s.cl s.cc, .slice s.no s.nl s.nc, .slice s.oo s.ol s.oc] 29)) (.cells #[.int .i64 e.k, .int .i64 e.g, .int .i64 e.o, .int .i64 e.w, .int .i64 e.l, .int .i64 e.s, .int .i64 e.f, .int .i64 e.t] 31)
  refine ⟨(ScK.new w s).fr f2, ?_, f1.trans f2, by simp⟩
  have := EvB.new (w.alloc (.cells #[.int .i64 s.g, .slice s.lo s.ll s.lc, .slice s.co s.cl s.cc, .slice s.no s.nl s.nc, .slice s.oo s.ol s.oc] 29)) e
  simpa using this

set_option maxRecDepth 20000 in
set_option maxHeartbeats 2000000 in
theorem l4LockCode_any {B : Nat → Prop} (s : Sv) (m : Scn) (e : Ev) (w : World) (hk : 2 ≤ e.k ∧ e.k ≤ 5) (ho : I64 e.o) (h : ScR B w s m) :
    Calls Tryz.prog 56 #[.agg #[.int .i64 s.g, .slice s.lo s.ll s.lc, .slice s.co s.cl s.cc, .slice s.no s.nl s.nc, .slice s.oo s.ol s.oc], .agg #[.int .i64 e.k, .int .i64 e.g, .int .i64 e.o, .int .i64 e.w, .int .i64 e.l, .int .i64 e.s, .int .i64 e.f, .int .i64 e.t]] w fun x w' => x = .returned (.int .i64 (lockCode m e)) ∧ Fr w w' := by
  obtain ⟨k1, k2, fW, hz⟩ := box2 w s e
  obtain ⟨k, gr, o, wi, l, sz, f, t⟩ := e
  obtain ⟨g, lo, ll, lc, co, cl, cc, no, nl, nc, oo, ol, oc⟩ := s
  simp only at hk ho k1 k2 fW hz ⊢
  have cL := fun u (hf : Fr w u) => l4LockOf_any (B := B) ⟨g, lo, ll, lc, co, cl, cc, no, nl, nc, oo, ol, oc⟩ m o u ho (h.fr hf)
  simp only at cL
  obtain ⟨R, hR⟩ : ∃ R, R = lockCode m ⟨k, gr, o, wi, l, sz, f, t⟩ := ⟨_, rfl⟩
  rw [← hR]
  unfold lockCode at hR
  simp only at hR
  obtain ⟨L, hL⟩ : ∃ L, L = lockOf m.ls o := ⟨_, rfl⟩
  rw [← hL] at cL
  simp only [← hL] at hR
  clear hL h
  rcases (show k = 2 ∨ k = 3 ∨ k = 4 ∨ k = 5 by omega) with rfl | rfl | rfl | rfl
  · have HR : Hid (R = _) := hR.trans (by rw [if_pos rfl])
    clear hR
    go_enter Tryz.func56, Tryz.ntmps56
    go_wp2_with fail
    refine (cL _ fW).mono ?_
    rintro e u1 ⟨⟨lo', lw, lr, ln, lq⟩, rfl, hlv, f1⟩
    have fA := Fr.alloc u1 (.cells #[.int .i64 lo', .int .i64 lw, .slice lr ln lq] 86)
    have HF : Hid (Fr w (u1.alloc (.cells #[.int .i64 lo', .int .i64 lw, .slice lr ln lq] 86))) := (fW.trans f1).trans fA
    have n0 := fA.cell (f1.cell k2.at.1)
    have n1 := fA.cell (f1.cell k2.at.2.1)
    simp only at n0 n1
    have HW : Hid (lw = L.wr) := hlv.wr
    have HN : Hid (ln = L.rd.length) := hlv.rn
    have hsz : ln ≤ 1048576 := by have := hlv.sz; have := HN.out; omega
    have cI := l4In_any lr ln lq L.rd gr _ HN.out.symm (hlv.rd.fr fA)
    have hfu : Fr (u1.alloc (.cells #[.int .i64 lo', .int .i64 lw, .slice lr ln lq] 86)) (u1.alloc (.cells #[.int .i64 lo', .int .i64 lw, .slice lr ln lq] 86)) := Fr.refl _
    clear cL k1 k2 fW f1 hlv hz fA hfu
    by_cases h1 : 0 ≤ lw
    · have HE : Hid (0 ≤ L.wr ∨ 0 < L.rd.length) := .inl (by have := HW.out; omega)
      go_wp2_with fail
      go_ret
      exact ⟨ret_int (by rw [HR.out, if_pos HE.out]), HF.out⟩
    · have h1' : lw < 0 := by omega
      clear h1
      by_cases h2 : 0 < ln
      · have HE : Hid (0 ≤ L.wr ∨ 0 < L.rd.length) := .inr (by have := HN.out; omega)
        have h2' : (0 : Int) < (ln : Int) := by omega
        go_wp2_with fail
        go_ret
        exact ⟨ret_int (by rw [HR.out, if_pos HE.out]), HF.out⟩
      · have HE : Hid (¬ (0 ≤ L.wr ∨ 0 < L.rd.length)) := by
          show ¬ (0 ≤ L.wr ∨ 0 < L.rd.length)
          have := HN.out; have := HW.out; omega
        obtain rfl : ln = 0 := by omega
        go_wp2_with fail
        go_ret
        exact ⟨ret_int (by rw [HR.out, if_neg HE.out]), HF.out⟩
  · have HR : Hid (R = _) := hR.trans (by rw [if_neg (by decide), if_neg (by decide), if_pos rfl])
    clear hR
    go_enter Tryz.func56, Tryz.ntmps56
    go_wp2_with fail
    refine (cL _ fW).mono ?_
    rintro e u1 ⟨⟨lo', lw, lr, ln, lq⟩, rfl, hlv, f1⟩
    have fA := Fr.alloc u1 (.cells #[.int .i64 lo', .int .i64 lw, .slice lr ln lq] 86)
    have HF : Hid (Fr w (u1.alloc (.cells #[.int .i64 lo', .int .i64 lw, .slice lr ln lq] 86))) := (fW.trans f1).trans fA
    have n0 := fA.cell (f1.cell k2.at.1)
    have n1 := fA.cell (f1.cell k2.at.2.1)
    simp only at n0 n1
    have HW : Hid (lw = L.wr) := hlv.wr
    have HN : Hid (ln = L.rd.length) := hlv.rn
    have hsz : ln ≤ 1048576 := by have := hlv.sz; have := HN.out; omega
    have cI := l4In_any lr ln lq L.rd gr _ HN.out.symm (hlv.rd.fr fA)
    have hfu : Fr (u1.alloc (.cells #[.int .i64 lo', .int .i64 lw, .slice lr ln lq] 86)) (u1.alloc (.cells #[.int .i64 lo', .int .i64 lw, .slice lr ln lq] 86)) := Fr.refl _
    clear cL k1 k2 fW f1 hlv hz fA hfu
    clear cI
    cases h1 : (lw == gr)
    · have HE : Hid (¬ L.wr = gr) := by
        show ¬ L.wr = gr
        rw [← HW.out]; exact beq_eq_false_iff_ne.1 h1
      go_wp2_with fail
      go_ret
      exact ⟨ret_int (by rw [HR.out, if_neg HE.out]), HF.out⟩
    · have HE : Hid (L.wr = gr) := by
        show L.wr = gr
        rw [← HW.out]; exact beq_iff_eq.1 h1
      go_wp2_with fail
      go_ret
      exact ⟨ret_int (by rw [HR.out, if_pos HE.out]), HF.out⟩
  · have HR : Hid (R = _) := hR.trans (by rw [if_neg (by decide), if_pos rfl])
    clear hR
    go_enter Tryz.func56, Tryz.ntmps56
    go_wp2_with fail
    refine (cL _ fW).mono ?_
    rintro e u1 ⟨⟨lo', lw, lr, ln, lq⟩, rfl, hlv, f1⟩
    have fA := Fr.alloc u1 (.cells #[.int .i64 lo', .int .i64 lw, .slice lr ln lq] 86)
    have HF : Hid (Fr w (u1.alloc (.cells #[.int .i64 lo', .int .i64 lw, .slice lr ln lq] 86))) := (fW.trans f1).trans fA
    have n0 := fA.cell (f1.cell k2.at.1)
    have n1 := fA.cell (f1.cell k2.at.2.1)
    simp only at n0 n1
    have HW : Hid (lw = L.wr) := hlv.wr
    have HN : Hid (ln = L.rd.length) := hlv.rn
    have hsz : ln ≤ 1048576 := by have := hlv.sz; have := HN.out; omega
    have cI := l4In_any lr ln lq L.rd gr _ HN.out.symm (hlv.rd.fr fA)
    have hfu : Fr (u1.alloc (.cells #[.int .i64 lo', .int .i64 lw, .slice lr ln lq] 86)) (u1.alloc (.cells #[.int .i64 lo', .int .i64 lw, .slice lr ln lq] 86)) := Fr.refl _
    clear cL k1 k2 fW f1 hlv hz fA hfu
    by_cases h1 : 0 ≤ lw
    · have HE : Hid (0 ≤ L.wr ∨ memB L.rd gr = true) := .inl (by have := HW.out; omega)
      clear cI
      go_wp2_with fail
      go_ret
      exact ⟨ret_int (by rw [HR.out, if_pos HE.out]), HF.out⟩
    · have h1' : lw < 0 := by omega
      clear h1
      cases hm : memB L.rd gr
      · have HE : Hid (¬ (0 ≤ L.wr ∨ memB L.rd gr = true)) := by
          show ¬ (0 ≤ L.wr ∨ memB L.rd gr = true)
          have := HW.out; simp [hm]; omega
        rw [hm] at cI
        clear hm
        go_wp2_with (go_at_call 58; refine cI.mono ?_; rintro e w' ⟨rfl, rfl⟩)
        go_ret
        exact ⟨ret_int (by rw [HR.out, if_neg HE.out]), HF.out⟩
      · have HE : Hid (0 ≤ L.wr ∨ memB L.rd gr = true) := .inr hm
        rw [hm] at cI
        clear hm
        go_wp2_with (go_at_call 58; refine cI.mono ?_; rintro e w' ⟨rfl, rfl⟩)
        go_ret
        exact ⟨ret_int (by rw [HR.out, if_pos HE.out]), HF.out⟩
  · have HR : Hid (R = _) := hR.trans (by rw [if_neg (by decide), if_neg (by decide), if_neg (by decide), if_pos rfl])
    clear hR
    go_enter Tryz.func56, Tryz.ntmps56
    go_wp2_with fail
    refine (cL _ fW).mono ?_
    rintro e u1 ⟨⟨lo', lw, lr, ln, lq⟩, rfl, hlv, f1⟩
    have fA := Fr.alloc u1 (.cells #[.int .i64 lo', .int .i64 lw, .slice lr ln lq] 86)
    have HF : Hid (Fr w (u1.alloc (.cells #[.int .i64 lo', .int .i64 lw, .slice lr ln lq] 86))) := (fW.trans f1).trans fA
    have n0 := fA.cell (f1.cell k2.at.1)
    have n1 := fA.cell (f1.cell k2.at.2.1)
    simp only at n0 n1
    have HW : Hid (lw = L.wr) := hlv.wr
    have HN : Hid (ln = L.rd.length) := hlv.rn
    have hsz : ln ≤ 1048576 := by have := hlv.sz; have := HN.out; omega
    have cI := l4In_any lr ln lq L.rd gr _ HN.out.symm (hlv.rd.fr fA)
    have hfu : Fr (u1.alloc (.cells #[.int .i64 lo', .int .i64 lw, .slice lr ln lq] 86)) (u1.alloc (.cells #[.int .i64 lo', .int .i64 lw, .slice lr ln lq] 86)) := Fr.refl _
    clear cL k1 k2 fW f1 hlv hz fA hfu
    cases hm : memB L.rd gr
    · have HE : Hid (¬ (memB L.rd gr = true)) := by
        show ¬ (memB L.rd gr = true)
        simp [hm]
      rw [hm] at cI
      clear hm
      go_wp2_with (go_at_call 58; refine cI.mono ?_; rintro e w' ⟨rfl, rfl⟩)
      go_ret
      exact ⟨ret_int (by rw [HR.out, if_neg HE.out]), HF.out⟩
    · have HE : Hid (memB L.rd gr = true) := hm
      rw [hm] at cI
      clear hm
      go_wp2_with (go_at_call 58; refine cI.mono ?_; rintro e w' ⟨rfl, rfl⟩)
      go_ret
      exact ⟨ret_int (by rw [HR.out, if_pos HE.out]), HF.out⟩
end Go.Proofs.YtcofhmikdkkigaaGreatDoor
namespace Go.Proofs.YtcofhmikdkkigaaGreatDoor
open Go.RowKit

theorem rowB_all {α : Type} {p : α → Bool} {o : α → Int} {xs : List α} (h : rowB p o xs = true) : ∀ x ∈ xs, p x = true := by
  intro x hx
  obtain ⟨j, hj, rfl⟩ := List.mem_iff_getElem.1 hx
  rw [rowB, List.all_eq_true] at h
  have := h j (List.mem_range.2 hj)
  cases hp : p xs[j] with
  | true => rfl
  | false => rw [rowAt_bad hj hp] at this; cases this
theorem scB_parts {m : Scn} (h : scB m = true) : inB 1 16 m.g = true ∧ rowB (lkB m.g) Lk.o m.ls = true ∧ rowB chB Ch.o m.cs = true ∧ rowB ctB Ct.o m.gs = true ∧ rowB (inB 0 15) (fun x => x) m.os = true := by
  unfold scB at h
  simp only [Bool.and_eq_true] at h
  exact ⟨h.1, h.2.1, h.2.2.1, h.2.2.2.1, h.2.2.2.2⟩
theorem chB_in {c : Ch} (h : chB c = true) : (0 ≤ c.o ∧ c.o ≤ 15) ∧ 0 ≤ c.cap ∧ c.cap ≤ 8 ∧ 0 ≤ c.sent ∧ c.sent ≤ 1000000 ∧ 0 ≤ c.got ∧ c.got ≤ c.sent ∧ c.sent ≤ c.got + c.cap := by
  unfold chB at h
  simp only [Bool.and_eq_true, decide_eq_true_eq] at h
  obtain ⟨h1, h2, h3, h4, h5⟩ := h
  have := inB_true h1
  have := inB_true h2
  have := inB_true h3
  have := inB_true h4
  omega
theorem chan_in {m : Scn} (h : scB m = true) (o : Int) : 0 ≤ (chanOf m.cs o).cap ∧ (chanOf m.cs o).cap ≤ 8 ∧ 0 ≤ (chanOf m.cs o).sent ∧ (chanOf m.cs o).sent ≤ 1000000 ∧ 0 ≤ (chanOf m.cs o).got ∧ (chanOf m.cs o).got ≤ (chanOf m.cs o).sent ∧ (chanOf m.cs o).sent ≤ (chanOf m.cs o).got + (chanOf m.cs o).cap := by
  have h3 := (scB_parts h).2.2.1
  unfold chanOf
  cases hf : m.cs.find? fun l => l.o == o with
  | none => simp
  | some c =>
    have hm := List.mem_of_find?_eq_some hf
    have := (chB_in (rowB_all h3 c hm)).2
    simpa using this

set_option maxRecDepth 20000 in
set_option maxHeartbeats 6000000 in
theorem l4ChanCode_any {B : Nat → Prop} (s : Sv) (m : Scn) (e : Ev) (w : World) (hk : 6 ≤ e.k ∧ e.k ≤ 11) (hm : scB m = true) (h : ScR B w s m) :
    Calls Tryz.prog 57 #[.agg #[.int .i64 s.g, .slice s.lo s.ll s.lc, .slice s.co s.cl s.cc, .slice s.no s.nl s.nc, .slice s.oo s.ol s.oc], .agg #[.int .i64 e.k, .int .i64 e.g, .int .i64 e.o, .int .i64 e.w, .int .i64 e.l, .int .i64 e.s, .int .i64 e.f, .int .i64 e.t]] w fun x w' => x = .returned (.int .i64 (chanCode m e)) ∧ Fr w w' := by
  obtain ⟨k1, k2, fW, hz⟩ := box2 w s e
  obtain ⟨k, gr, o, wi, l, sz, f, t⟩ := e
  obtain ⟨g, lo, ll, lc, co, cl, cc, no, nl, nc, oo, ol, oc⟩ := s
  simp only at hk k1 k2 fW hz ⊢
  have cL := fun u (hf : Fr w u) => l4ChanOf_any (B := B) ⟨g, lo, ll, lc, co, cl, cc, no, nl, nc, oo, ol, oc⟩ m o u (h.fr hf)
  simp only at cL
  have hin := chan_in hm o
  obtain ⟨R, hR⟩ : ∃ R, R = chanCode m ⟨k, gr, o, wi, l, sz, f, t⟩ := ⟨_, rfl⟩
  rw [← hR]
  unfold chanCode at hR
  simp only at hR
  obtain ⟨C, hC⟩ : ∃ C, C = chanOf m.cs o := ⟨_, rfl⟩
  obtain ⟨T, hT⟩ : ∃ T, T = isChan m.cs o := ⟨_, rfl⟩
  rw [← hC] at hin
  simp only [← hC, ← hT] at hR cL
  clear hC hT h hm k1
  obtain ⟨xo, xc, xs, xg, xl⟩ := C
  simp only at hin hR cL
  obtain ⟨i0, i1, i2, i3, i4, i5, i6⟩ := hin
  have HK : Hid (∀ u (_ : Fr ((w.alloc (.cells #[.int .i64 g, .slice lo ll lc, .slice co cl cc, .slice no nl nc, .slice oo ol oc] 29)).alloc (.cells #[.int .i64 k, .int .i64 gr, .int .i64 o, .int .i64 wi, .int .i64 l, .int .i64 sz, .int .i64 f, .int .i64 t] 31)) u), (u.alloc (.cells #[.int .i64 xo, .int .i64 xc, .int .i64 xs, .int .i64 xg, .bool xl] 89)).cell? ⟨w.heap.size + 1, 0, none⟩ = some (.int .i64 k)) := fun u f => (Fr.alloc u _).cell (f.cell k2.at.1)
  clear k2 hz
  rcases (show k = 6 ∨ k = 7 ∨ k = 8 ∨ k = 9 ∨ k = 10 ∨ k = 11 by omega) with rfl | rfl | rfl | rfl | rfl | rfl
  · cases T
    · have HR : Hid (R = 0) := by
        show R = 0
        rw [hR]
        simp 
      clear hR
      go_enter Tryz.func57, Tryz.ntmps57
      go_wp2_with fail
      refine (cL _ fW).mono ?_
      rintro e u1 ⟨rfl, f1⟩
      have n0 := HK.out _ f1
      have HF : Hid (Fr w (u1.alloc (.cells #[.int .i64 xo, .int .i64 xc, .int .i64 xs, .int .i64 xg, .bool xl] 89))) := (fW.trans f1).trans (Fr.alloc _ _)
      clear cL fW f1
      go_wp2_with fail
      go_ret
      exact ⟨ret_int HR.out.symm, HF.out⟩
    · have HR : Hid (R = 5) := by
        show R = 5
        rw [hR]
        simp 
      clear hR
      go_enter Tryz.func57, Tryz.ntmps57
      go_wp2_with fail
      refine (cL _ fW).mono ?_
      rintro e u1 ⟨rfl, f1⟩
      have n0 := HK.out _ f1
      have HF : Hid (Fr w (u1.alloc (.cells #[.int .i64 xo, .int .i64 xc, .int .i64 xs, .int .i64 xg, .bool xl] 89))) := (fW.trans f1).trans (Fr.alloc _ _)
      clear cL fW f1
      go_wp2_with fail
      go_ret
      exact ⟨ret_int HR.out.symm, HF.out⟩
  · cases T
    · have HR : Hid (R = 5) := by
        show R = 5
        rw [hR]
        simp 
      clear hR
      go_enter Tryz.func57, Tryz.ntmps57
      go_wp2_with fail
      refine (cL _ fW).mono ?_
      rintro e u1 ⟨rfl, f1⟩
      have n0 := HK.out _ f1
      have HF : Hid (Fr w (u1.alloc (.cells #[.int .i64 xo, .int .i64 xc, .int .i64 xs, .int .i64 xg, .bool xl] 89))) := (fW.trans f1).trans (Fr.alloc _ _)
      clear cL fW f1
      go_wp2_with fail
      go_ret
      exact ⟨ret_int HR.out.symm, HF.out⟩
    · cases ecap0 : (xc == 0)
      · have pcap0 : ¬ xc = 0 := beq_eq_false_iff_ne.1 ecap0
        cases xl
        · cases efull : (xs - xg == xc)
          · have pfull : ¬ xs - xg = xc := beq_eq_false_iff_ne.1 efull
            cases emax : (xs == 1000000)
            · have pmax : ¬ xs = 1000000 := beq_eq_false_iff_ne.1 emax
              have HR : Hid (R = 0) := by
                show R = 0
                rw [hR]
                simp [pcap0, pfull, pmax]
              clear hR pcap0 pfull pmax
              go_enter Tryz.func57, Tryz.ntmps57
              go_wp2_with fail
              refine (cL _ fW).mono ?_
              rintro e u1 ⟨rfl, f1⟩
              have n0 := HK.out _ f1
              have HF : Hid (Fr w (u1.alloc (.cells #[.int .i64 xo, .int .i64 xc, .int .i64 xs, .int .i64 xg, .bool false] 89))) := (fW.trans f1).trans (Fr.alloc _ _)
              clear cL fW f1
              go_wp2_with fail
              go_ret
              exact ⟨ret_int HR.out.symm, HF.out⟩
            · have pmax : xs = 1000000 := beq_iff_eq.1 emax
              have HR : Hid (R = 9) := by
                show R = 9
                rw [hR]
                simp [pcap0, pmax]
                omega
              clear hR pcap0 pfull pmax
              go_enter Tryz.func57, Tryz.ntmps57
              go_wp2_with fail
              refine (cL _ fW).mono ?_
              rintro e u1 ⟨rfl, f1⟩
              have n0 := HK.out _ f1
              have HF : Hid (Fr w (u1.alloc (.cells #[.int .i64 xo, .int .i64 xc, .int .i64 xs, .int .i64 xg, .bool false] 89))) := (fW.trans f1).trans (Fr.alloc _ _)
              clear cL fW f1
              go_wp2_with fail
              go_ret
              exact ⟨ret_int HR.out.symm, HF.out⟩
          · have pfull : xs - xg = xc := beq_iff_eq.1 efull
            have HR : Hid (R = 7) := by
              show R = 7
              rw [hR]
              simp [pcap0, pfull]
            clear hR pcap0 pfull
            go_enter Tryz.func57, Tryz.ntmps57
            go_wp2_with fail
            refine (cL _ fW).mono ?_
            rintro e u1 ⟨rfl, f1⟩
            have n0 := HK.out _ f1
            have HF : Hid (Fr w (u1.alloc (.cells #[.int .i64 xo, .int .i64 xc, .int .i64 xs, .int .i64 xg, .bool false] 89))) := (fW.trans f1).trans (Fr.alloc _ _)
            clear cL fW f1
            go_wp2_with fail
            go_ret
            exact ⟨ret_int HR.out.symm, HF.out⟩
        · have HR : Hid (R = 6) := by
            show R = 6
            rw [hR]
            simp [pcap0]
          clear hR pcap0
          go_enter Tryz.func57, Tryz.ntmps57
          go_wp2_with fail
          refine (cL _ fW).mono ?_
          rintro e u1 ⟨rfl, f1⟩
          have n0 := HK.out _ f1
          have HF : Hid (Fr w (u1.alloc (.cells #[.int .i64 xo, .int .i64 xc, .int .i64 xs, .int .i64 xg, .bool true] 89))) := (fW.trans f1).trans (Fr.alloc _ _)
          clear cL fW f1
          go_wp2_with fail
          go_ret
          exact ⟨ret_int HR.out.symm, HF.out⟩
      · have pcap0 : xc = 0 := beq_iff_eq.1 ecap0
        have HR : Hid (R = 5) := by
          show R = 5
          rw [hR]
          simp [pcap0]
        clear hR pcap0
        go_enter Tryz.func57, Tryz.ntmps57
        go_wp2_with fail
        refine (cL _ fW).mono ?_
        rintro e u1 ⟨rfl, f1⟩
        have n0 := HK.out _ f1
        have HF : Hid (Fr w (u1.alloc (.cells #[.int .i64 xo, .int .i64 xc, .int .i64 xs, .int .i64 xg, .bool xl] 89))) := (fW.trans f1).trans (Fr.alloc _ _)
        clear cL fW f1
        go_wp2_with fail
        go_ret
        exact ⟨ret_int HR.out.symm, HF.out⟩
  · cases T
    · have HR : Hid (R = 5) := by
        show R = 5
        rw [hR]
        simp 
      clear hR
      go_enter Tryz.func57, Tryz.ntmps57
      go_wp2_with fail
      refine (cL _ fW).mono ?_
      rintro e u1 ⟨rfl, f1⟩
      have n0 := HK.out _ f1
      have HF : Hid (Fr w (u1.alloc (.cells #[.int .i64 xo, .int .i64 xc, .int .i64 xs, .int .i64 xg, .bool xl] 89))) := (fW.trans f1).trans (Fr.alloc _ _)
      clear cL fW f1
      go_wp2_with fail
      go_ret
      exact ⟨ret_int HR.out.symm, HF.out⟩
    · cases ecap0 : (xc == 0)
      · have pcap0 : ¬ xc = 0 := beq_eq_false_iff_ne.1 ecap0
        cases eemp : (xs == xg)
        · have pemp : ¬ xs = xg := beq_eq_false_iff_ne.1 eemp
          have HR : Hid (R = 0) := by
            show R = 0
            rw [hR]
            simp [pcap0, pemp]
          clear hR pcap0 pemp
          go_enter Tryz.func57, Tryz.ntmps57
          go_wp2_with fail
          refine (cL _ fW).mono ?_
          rintro e u1 ⟨rfl, f1⟩
          have n0 := HK.out _ f1
          have HF : Hid (Fr w (u1.alloc (.cells #[.int .i64 xo, .int .i64 xc, .int .i64 xs, .int .i64 xg, .bool xl] 89))) := (fW.trans f1).trans (Fr.alloc _ _)
          clear cL fW f1
          go_wp2_with fail
          go_ret
          exact ⟨ret_int HR.out.symm, HF.out⟩
        · have pemp : xs = xg := beq_iff_eq.1 eemp
          have HR : Hid (R = 8) := by
            show R = 8
            rw [hR]
            simp [pcap0, pemp]
          clear hR pcap0 pemp
          go_enter Tryz.func57, Tryz.ntmps57
          go_wp2_with fail
          refine (cL _ fW).mono ?_
          rintro e u1 ⟨rfl, f1⟩
          have n0 := HK.out _ f1
          have HF : Hid (Fr w (u1.alloc (.cells #[.int .i64 xo, .int .i64 xc, .int .i64 xs, .int .i64 xg, .bool xl] 89))) := (fW.trans f1).trans (Fr.alloc _ _)
          clear cL fW f1
          go_wp2_with fail
          go_ret
          exact ⟨ret_int HR.out.symm, HF.out⟩
      · have pcap0 : xc = 0 := beq_iff_eq.1 ecap0
        have HR : Hid (R = 5) := by
          show R = 5
          rw [hR]
          simp [pcap0]
        clear hR pcap0
        go_enter Tryz.func57, Tryz.ntmps57
        go_wp2_with fail
        refine (cL _ fW).mono ?_
        rintro e u1 ⟨rfl, f1⟩
        have n0 := HK.out _ f1
        have HF : Hid (Fr w (u1.alloc (.cells #[.int .i64 xo, .int .i64 xc, .int .i64 xs, .int .i64 xg, .bool xl] 89))) := (fW.trans f1).trans (Fr.alloc _ _)
        clear cL fW f1
        go_wp2_with fail
        go_ret
        exact ⟨ret_int HR.out.symm, HF.out⟩
  · cases T
    · have HR : Hid (R = 5) := by
        show R = 5
        rw [hR]
        simp 
      clear hR
      go_enter Tryz.func57, Tryz.ntmps57
      go_wp2_with fail
      refine (cL _ fW).mono ?_
      rintro e u1 ⟨rfl, f1⟩
      have n0 := HK.out _ f1
      have HF : Hid (Fr w (u1.alloc (.cells #[.int .i64 xo, .int .i64 xc, .int .i64 xs, .int .i64 xg, .bool xl] 89))) := (fW.trans f1).trans (Fr.alloc _ _)
      clear cL fW f1
      go_wp2_with fail
      go_ret
      exact ⟨ret_int HR.out.symm, HF.out⟩
    · cases ecap0 : (xc == 0)
      · have pcap0 : ¬ xc = 0 := beq_eq_false_iff_ne.1 ecap0
        have HR : Hid (R = 5) := by
          show R = 5
          rw [hR]
          simp [pcap0]
        clear hR pcap0
        go_enter Tryz.func57, Tryz.ntmps57
        go_wp2_with fail
        refine (cL _ fW).mono ?_
        rintro e u1 ⟨rfl, f1⟩
        have n0 := HK.out _ f1
        have HF : Hid (Fr w (u1.alloc (.cells #[.int .i64 xo, .int .i64 xc, .int .i64 xs, .int .i64 xg, .bool xl] 89))) := (fW.trans f1).trans (Fr.alloc _ _)
        clear cL fW f1
        go_wp2_with fail
        go_ret
        exact ⟨ret_int HR.out.symm, HF.out⟩
      · have pcap0 : xc = 0 := beq_iff_eq.1 ecap0
        cases xl
        · have HR : Hid (R = 0) := by
            show R = 0
            rw [hR]
            simp [pcap0]
          clear hR pcap0
          go_enter Tryz.func57, Tryz.ntmps57
          go_wp2_with fail
          refine (cL _ fW).mono ?_
          rintro e u1 ⟨rfl, f1⟩
          have n0 := HK.out _ f1
          have HF : Hid (Fr w (u1.alloc (.cells #[.int .i64 xo, .int .i64 xc, .int .i64 xs, .int .i64 xg, .bool false] 89))) := (fW.trans f1).trans (Fr.alloc _ _)
          clear cL fW f1
          go_wp2_with fail
          go_ret
          exact ⟨ret_int HR.out.symm, HF.out⟩
        · have HR : Hid (R = 6) := by
            show R = 6
            rw [hR]
            simp [pcap0]
          clear hR pcap0
          go_enter Tryz.func57, Tryz.ntmps57
          go_wp2_with fail
          refine (cL _ fW).mono ?_
          rintro e u1 ⟨rfl, f1⟩
          have n0 := HK.out _ f1
          have HF : Hid (Fr w (u1.alloc (.cells #[.int .i64 xo, .int .i64 xc, .int .i64 xs, .int .i64 xg, .bool true] 89))) := (fW.trans f1).trans (Fr.alloc _ _)
          clear cL fW f1
          go_wp2_with fail
          go_ret
          exact ⟨ret_int HR.out.symm, HF.out⟩
  · cases T
    · have HR : Hid (R = 5) := by
        show R = 5
        rw [hR]
        simp 
      clear hR
      go_enter Tryz.func57, Tryz.ntmps57
      go_wp2_with fail
      refine (cL _ fW).mono ?_
      rintro e u1 ⟨rfl, f1⟩
      have n0 := HK.out _ f1
      have HF : Hid (Fr w (u1.alloc (.cells #[.int .i64 xo, .int .i64 xc, .int .i64 xs, .int .i64 xg, .bool xl] 89))) := (fW.trans f1).trans (Fr.alloc _ _)
      clear cL fW f1
      go_wp2_with fail
      go_ret
      exact ⟨ret_int HR.out.symm, HF.out⟩
    · cases xl
      · have HR : Hid (R = 0) := by
          show R = 0
          rw [hR]
          simp 
        clear hR
        go_enter Tryz.func57, Tryz.ntmps57
        go_wp2_with fail
        refine (cL _ fW).mono ?_
        rintro e u1 ⟨rfl, f1⟩
        have n0 := HK.out _ f1
        have HF : Hid (Fr w (u1.alloc (.cells #[.int .i64 xo, .int .i64 xc, .int .i64 xs, .int .i64 xg, .bool false] 89))) := (fW.trans f1).trans (Fr.alloc _ _)
        clear cL fW f1
        go_wp2_with fail
        go_ret
        exact ⟨ret_int HR.out.symm, HF.out⟩
      · have HR : Hid (R = 6) := by
          show R = 6
          rw [hR]
          simp 
        clear hR
        go_enter Tryz.func57, Tryz.ntmps57
        go_wp2_with fail
        refine (cL _ fW).mono ?_
        rintro e u1 ⟨rfl, f1⟩
        have n0 := HK.out _ f1
        have HF : Hid (Fr w (u1.alloc (.cells #[.int .i64 xo, .int .i64 xc, .int .i64 xs, .int .i64 xg, .bool true] 89))) := (fW.trans f1).trans (Fr.alloc _ _)
        clear cL fW f1
        go_wp2_with fail
        go_ret
        exact ⟨ret_int HR.out.symm, HF.out⟩
  · cases T
    · have HR : Hid (R = 5) := by
        show R = 5
        rw [hR]
        simp 
      clear hR
      go_enter Tryz.func57, Tryz.ntmps57
      go_wp2_with fail
      refine (cL _ fW).mono ?_
      rintro e u1 ⟨rfl, f1⟩
      have n0 := HK.out _ f1
      have HF : Hid (Fr w (u1.alloc (.cells #[.int .i64 xo, .int .i64 xc, .int .i64 xs, .int .i64 xg, .bool xl] 89))) := (fW.trans f1).trans (Fr.alloc _ _)
      clear cL fW f1
      go_wp2_with fail
      go_ret
      exact ⟨ret_int HR.out.symm, HF.out⟩
    · cases xl
      · have HR : Hid (R = 6) := by
          show R = 6
          rw [hR]
          simp 
        clear hR
        go_enter Tryz.func57, Tryz.ntmps57
        go_wp2_with fail
        refine (cL _ fW).mono ?_
        rintro e u1 ⟨rfl, f1⟩
        have n0 := HK.out _ f1
        have HF : Hid (Fr w (u1.alloc (.cells #[.int .i64 xo, .int .i64 xc, .int .i64 xs, .int .i64 xg, .bool false] 89))) := (fW.trans f1).trans (Fr.alloc _ _)
        clear cL fW f1
        go_wp2_with fail
        go_ret
        exact ⟨ret_int HR.out.symm, HF.out⟩
      · cases eemp : (xs == xg)
        · have pemp : ¬ xs = xg := beq_eq_false_iff_ne.1 eemp
          have HR : Hid (R = 8) := by
            show R = 8
            rw [hR]
            simp [pemp]
          clear hR pemp
          go_enter Tryz.func57, Tryz.ntmps57
          go_wp2_with fail
          refine (cL _ fW).mono ?_
          rintro e u1 ⟨rfl, f1⟩
          have n0 := HK.out _ f1
          have HF : Hid (Fr w (u1.alloc (.cells #[.int .i64 xo, .int .i64 xc, .int .i64 xs, .int .i64 xg, .bool true] 89))) := (fW.trans f1).trans (Fr.alloc _ _)
          clear cL fW f1
          go_wp2_with fail
          go_ret
          exact ⟨ret_int HR.out.symm, HF.out⟩
        · have pemp : xs = xg := beq_iff_eq.1 eemp
          have HR : Hid (R = 0) := by
            show R = 0
            rw [hR]
            simp [pemp]
          clear hR pemp
          go_enter Tryz.func57, Tryz.ntmps57
          go_wp2_with fail
          refine (cL _ fW).mono ?_
          rintro e u1 ⟨rfl, f1⟩
          have n0 := HK.out _ f1
          have HF : Hid (Fr w (u1.alloc (.cells #[.int .i64 xo, .int .i64 xc, .int .i64 xs, .int .i64 xg, .bool true] 89))) := (fW.trans f1).trans (Fr.alloc _ _)
          clear cL fW f1
          go_wp2_with fail
          go_ret
          exact ⟨ret_int HR.out.symm, HF.out⟩
end Go.Proofs.YtcofhmikdkkigaaGreatDoor
namespace Go.Proofs.YtcofhmikdkkigaaGreatDoor
open Go.RowKit

theorem evOk_k {e : Ev} (h : evOk e = true) : (1 ≤ e.k ∧ e.k ≤ 22) ∧ 0 ≤ e.g ∧ e.g ≤ 15 := by
  unfold evOk at h
  simp only [Bool.and_eq_true] at h
  have h1 := inB_true h.1.1.1.1.1.1.1
  have h2 := inB_true h.1.1.1.1.1.1.2
  exact ⟨h1, h2⟩
theorem ctB_in {c : Ct} (h : ctB c = true) : (0 ≤ c.o ∧ c.o ≤ 15) ∧ 1 ≤ c.n ∧ c.n ≤ 1000000 := by
  unfold ctB at h
  simp only [Bool.and_eq_true] at h
  exact ⟨inB_true h.1, inB_true h.2⟩
theorem count_in {m : Scn} (h : scB m = true) (o : Int) : 0 ≤ countOf m.gs o ∧ countOf m.gs o ≤ 1000000 := by
  have h3 := (scB_parts h).2.2.2.1
  unfold countOf
  cases hf : m.gs.find? fun l => l.o == o with
  | none => simp
  | some c =>
    have hm := List.mem_of_find?_eq_some hf
    have := (ctB_in (rowB_all h3 c hm)).2
    simp
    omega
theorem evOk_add {e : Ev} (h : evOk e = true) (hk : e.k = 12) : 1 ≤ e.s ∧ e.s ≤ 9 := by
  unfold evOk at h
  simp only [Bool.and_eq_true] at h
  have h4 := h.1.1.2
  unfold ev4 at h4
  rw [hk] at h4
  have : hasB 12 8 = true := by decide
  rw [this] at h4
  exact inB_true h4

set_option maxRecDepth 20000 in
set_option maxHeartbeats 8000000 in
theorem codeIn_any {B : Nat → Prop} (s : Sv) (m : Scn) (e : Ev) (w : World) (ho : I64 e.o) (h : ScR B w s m) :
    Calls Tryz.prog 14 #[.agg #[.int .i64 s.g, .slice s.lo s.ll s.lc, .slice s.co s.cl s.cc, .slice s.no s.nl s.nc, .slice s.oo s.ol s.oc], .agg #[.int .i64 e.k, .int .i64 e.g, .int .i64 e.o, .int .i64 e.w, .int .i64 e.l, .int .i64 e.s, .int .i64 e.f, .int .i64 e.t]] w fun x w' => x = .returned (.int .i64 (codeIn m e)) ∧ Fr w w' := by
  obtain ⟨k1, k2, fW, hz⟩ := box2 w s e
  have cE := fun u => specOk_any e u
  have cS := fun u (hf : Fr w u) => sceneOk_any s m u (h.fr hf)
  have cN := fun u (hf : Fr w u) => l4CountOf_any s m e.o u (h.fr hf)
  have cL := fun u (hf : Fr w u) hk => l4LockCode_any s m e u hk ho (h.fr hf)
  have cC := fun u (hf : Fr w u) hk hm => l4ChanCode_any s m e u hk hm (h.fr hf)
  have cO := fun u (hf : Fr w u) => l4In_any s.oo s.ol s.oc m.os e.o u h.ol.symm (h.fr hf).ons
  have HG : Hid (s.g = m.g) := h.g
  have hkk : evOk e = true → (1 ≤ e.k ∧ e.k ≤ 22) ∧ 0 ≤ e.g ∧ e.g ≤ 15 := evOk_k
  have hadd : evOk e = true → e.k = 12 → 1 ≤ e.s ∧ e.s ≤ 9 := evOk_add
  obtain ⟨R, hR⟩ : ∃ R, R = codeIn m e := ⟨_, rfl⟩
  rw [← hR]
  unfold codeIn at hR
  have hcnt := fun hm => count_in (m := m) hm e.o
  obtain ⟨C, hC⟩ : ∃ C, C = countOf m.gs e.o := ⟨_, rfl⟩
  have HC : Hid (C = countOf m.gs e.o) := hC
  simp only [← hC] at cN hcnt
  clear hC
  clear h
  obtain ⟨k, gr, o, wi, l, sz, f, t⟩ := e
  obtain ⟨g, lo, ll, lc, co, cl, cc, no, nl, nc, oo, ol, oc⟩ := s
  simp only at ho k1 k2 fW hz cE cS cN cL cC cO HG HC hkk hadd hcnt ⊢
  obtain ⟨EO, hEO⟩ : ∃ EO, EO = evOk ⟨k, gr, o, wi, l, sz, f, t⟩ := ⟨_, rfl⟩
  rw [← hEO] at hR hkk hadd
  simp only [← hEO] at cE
  clear hEO
  obtain ⟨SO, hSO⟩ : ∃ SO, SO = scB m := ⟨_, rfl⟩
  have HSO : Hid (SO = scB m) := hSO
  rw [← hSO] at hR
  simp only [← hSO] at cS hcnt cC
  clear hSO
  cases EO
  · have HR : Hid (R = 1) := by rw [if_pos (.inl rfl)] at hR; exact hR
    clear hR
    go_enter Tryz.func14, Tryz.ntmps14
    go_wp2_with fail
    refine (cE _).mono ?_
    rintro e u1 ⟨rfl, f1⟩
    go_wp2_with fail
    go_ret
    exact ⟨ret_int HR.out.symm, fW.trans f1⟩
  replace hkk := hkk rfl
  replace hadd := hadd rfl
  have HQ : Hid (∀ u (_ : Fr ((w.alloc (.cells #[.int .i64 g, .slice lo ll lc, .slice co cl cc, .slice no nl nc, .slice oo ol oc] 29)).alloc (.cells #[.int .i64 k, .int .i64 gr, .int .i64 o, .int .i64 wi, .int .i64 l, .int .i64 sz, .int .i64 f, .int .i64 t] 31)) u), ScB u w.heap.size ⟨g, lo, ll, lc, co, cl, cc, no, nl, nc, oo, ol, oc⟩ ∧ EvAt u (w.heap.size + 1) ⟨k, gr, o, wi, l, sz, f, t⟩) := fun u f => ⟨(k1.fr f).at, k2.at.fr f⟩
  clear k1 k2 hz
  cases SO
  · have HR : Hid (R = 1) := by rw [if_pos (.inr rfl)] at hR; exact hR
    clear hR
    go_enter Tryz.func14, Tryz.ntmps14
    go_wp2_with fail
    refine (cE _).mono ?_
    rintro e u1 ⟨rfl, f1⟩
    obtain ⟨⟨s0, s1, s2, s3, s4⟩, -⟩ := HQ.out _ f1
    simp only at s0 s1 s2 s3 s4
    go_wp2_with fail
    refine (cS _ (fW.trans f1)).mono ?_
    rintro e u2 ⟨rfl, f2⟩
    go_wp2_with fail
    go_ret
    exact ⟨ret_int HR.out.symm, (fW.trans f1).trans f2⟩
  replace hcnt := hcnt rfl
  replace cC := fun u hf hk => cC u hf hk rfl
  rw [if_neg (by simp)] at hR
  go_enter Tryz.func14, Tryz.ntmps14
  go_wp2_with fail
  refine (cE _).mono ?_
  rintro e u1 ⟨rfl, f1⟩
  obtain ⟨⟨s0, s1, s2, s3, s4⟩, -⟩ := HQ.out _ f1
  simp only at s0 s1 s2 s3 s4
  go_wp2_with fail
  refine (cS _ (fW.trans f1)).mono ?_
  rintro e u2 ⟨rfl, f2⟩
  have fA := f1.trans f2
  clear s0 s1 s2 s3 s4 cE cS f1 f2
  obtain ⟨⟨s0, s1, s2, s3, s4⟩, ⟨e0, e1, e2, e3, e4, e5, e6, e7⟩⟩ := HQ.out _ fA
  simp only at s0 s1 s2 s3 s4 e0 e1 e2 e3 e4 e5 e6 e7
  by_cases hg1 : g ≤ gr
  · have hd1 : decide (g ≤ gr) = true := decide_eq_true hg1
    have HR : Hid (R = 2) := by
      rw [if_pos] at hR
      · exact hR
      · left; rw [← HG.out]; exact hg1
    go_wp2_with fail
    go_ret
    exact ⟨ret_int HR.out.symm, fW.trans fA⟩
  have HG2 : Hid (gr < g) := (by omega : gr < g)
  have hd1 : decide (g ≤ gr) = false := decide_eq_false hg1
  clear hg1
  by_cases hk1 : k = 1
  · subst hk1
    cases ho1 : (o == g)
    · have ho3 : (o != g) = true := by rw [bne, ho1]; rfl
      have HR : Hid (R = 2) := by
        rw [if_pos] at hR
        · exact hR
        · right; left; exact ⟨rfl, by rw [← HG.out]; exact beq_eq_false_iff_ne.1 ho1⟩
      clear hR
      go_wp2_with fail
      go_ret
      exact ⟨ret_int HR.out.symm, fW.trans fA⟩
    · have ho3 : (o != g) = false := by rw [bne, ho1]; rfl
      have ho2 : o = g := beq_iff_eq.1 ho1
      rw [if_neg (by unfold gorBad; simp only; rw [← HG.out]; have := HG2.out; omega)] at hR
      clear ho2
      go_wp2_with fail
      refine (cN _ (fW.trans fA)).mono ?_
      rintro e u3 ⟨rfl, f3⟩
      have fB := fA.trans f3
      clear s0 s1 s2 s3 s4 e0 e1 e2 e3 e4 e5 e6 e7 cN f3 fA hd1
      obtain ⟨⟨s0, s1, s2, s3, s4⟩, ⟨e0, e1, e2, e3, e4, e5, e6, e7⟩⟩ := HQ.out _ fB
      simp only at s0 s1 s2 s3 s4 e0 e1 e2 e3 e4 e5 e6 e7
      have HR : Hid (R = 0) := by
        show R = 0
        rw [hR]
        simp [restCode]
      clear hR
      go_wp2_with fail
      go_ret
      exact ⟨ret_int HR.out.symm, fW.trans fB⟩
  have ek1 : (k == 1) = false := beq_eq_false_iff_ne.2 hk1
  by_cases hk9 : k = 9
  · subst hk9
    by_cases hw1 : g ≤ wi
    · have hw5 : decide (g ≤ wi) = true := decide_eq_true hw1
      have HR : Hid (R = 2) := by
        rw [if_pos] at hR
        · exact hR
        · right; right; exact ⟨rfl, .inl (by rw [← HG.out]; exact hw1)⟩
      clear hR
      go_wp2_with fail
      go_ret
      exact ⟨ret_int HR.out.symm, fW.trans fA⟩
    · have HW2 : Hid (wi < g) := (by omega : wi < g)
      have hw5 : decide (g ≤ wi) = false := decide_eq_false hw1
      clear hw1
      cases hw3 : (wi == gr)
      · have hw4 : wi ≠ gr := beq_eq_false_iff_ne.1 hw3
        rw [if_neg (by unfold gorBad; simp only; rw [← HG.out]; have := HG2.out; have := HW2.out; omega)] at hR
        clear hw4
        go_wp2_with fail
        refine (cN _ (fW.trans fA)).mono ?_
        rintro e u3 ⟨rfl, f3⟩
        have fB := fA.trans f3
        clear s0 s1 s2 s3 s4 e0 e1 e2 e3 e4 e5 e6 e7 cN f3 fA hd1
        obtain ⟨⟨s0, s1, s2, s3, s4⟩, ⟨e0, e1, e2, e3, e4, e5, e6, e7⟩⟩ := HQ.out _ fB
        simp only at s0 s1 s2 s3 s4 e0 e1 e2 e3 e4 e5 e6 e7
        have HR : Hid (R = chanCode m ⟨9, gr, o, wi, l, sz, f, t⟩) := by
          show R = chanCode m ⟨9, gr, o, wi, l, sz, f, t⟩
          rw [hR]
          simp [restCode]
        clear hR
        go_wp2_with fail
        refine (cC _ (fW.trans fB) ⟨by decide, by decide⟩).mono ?_
        rintro e u4 ⟨rfl, f4⟩
        go_wp2_with fail
        go_ret
        exact ⟨ret_int HR.out.symm, (fW.trans fB).trans f4⟩
      · have HR : Hid (R = 2) := by
          rw [if_pos] at hR
          · exact hR
          · right; right; exact ⟨rfl, .inr (beq_iff_eq.1 hw3)⟩
        clear hR
        go_wp2_with fail
        go_ret
        exact ⟨ret_int HR.out.symm, fW.trans fA⟩
  have ek9 : (k == 9) = false := beq_eq_false_iff_ne.2 hk9
  rw [if_neg (by unfold gorBad; simp only; rw [← HG.out]; have := HG2.out; omega)] at hR
  go_wp2_with fail
  refine (cN _ (fW.trans fA)).mono ?_
  rintro e u3 ⟨rfl, f3⟩
  have fB := fA.trans f3
  clear s0 s1 s2 s3 s4 e0 e1 e2 e3 e4 e5 e6 e7 cN f3 fA hd1
  obtain ⟨⟨s0, s1, s2, s3, s4⟩, ⟨e0, e1, e2, e3, e4, e5, e6, e7⟩⟩ := HQ.out _ fB
  simp only at s0 s1 s2 s3 s4 e0 e1 e2 e3 e4 e5 e6 e7
  rcases (show k = 2 ∨ k = 3 ∨ k = 4 ∨ k = 5 ∨ k = 6 ∨ k = 7 ∨ k = 8 ∨ k = 10 ∨ k = 11 ∨ k = 12 ∨ k = 13 ∨ k = 14 ∨ k = 15 ∨ k = 16 ∨ k = 17 ∨ k = 18 ∨ k = 19 ∨ k = 20 ∨ k = 21 ∨ k = 22 by omega) with rfl | rfl | rfl | rfl | rfl | rfl | rfl | rfl | rfl | rfl | rfl | rfl | rfl | rfl | rfl | rfl | rfl | rfl | rfl | rfl
  · clear hk1 hk9 ek1 ek9 hkk
    clear hadd
    have HR : Hid (R = lockCode m ⟨2, gr, o, wi, l, sz, f, t⟩) := by
      show R = lockCode m ⟨2, gr, o, wi, l, sz, f, t⟩
      rw [hR]
      simp [restCode]
    clear hR
    go_wp2_with fail
    refine (cL _ (fW.trans fB) ⟨by decide, by decide⟩).mono ?_
    rintro e u4 ⟨rfl, f4⟩
    go_wp2_with fail
    go_ret
    exact ⟨ret_int HR.out.symm, (fW.trans fB).trans f4⟩
  · clear hk1 hk9 ek1 ek9 hkk
    clear hadd
    have HR : Hid (R = lockCode m ⟨3, gr, o, wi, l, sz, f, t⟩) := by
      show R = lockCode m ⟨3, gr, o, wi, l, sz, f, t⟩
      rw [hR]
      simp [restCode]
    clear hR
    go_wp2_with fail
    refine (cL _ (fW.trans fB) ⟨by decide, by decide⟩).mono ?_
    rintro e u4 ⟨rfl, f4⟩
    go_wp2_with fail
    go_ret
    exact ⟨ret_int HR.out.symm, (fW.trans fB).trans f4⟩
  · clear hk1 hk9 ek1 ek9 hkk
    clear hadd
    have HR : Hid (R = lockCode m ⟨4, gr, o, wi, l, sz, f, t⟩) := by
      show R = lockCode m ⟨4, gr, o, wi, l, sz, f, t⟩
      rw [hR]
      simp [restCode]
    clear hR
    go_wp2_with fail
    refine (cL _ (fW.trans fB) ⟨by decide, by decide⟩).mono ?_
    rintro e u4 ⟨rfl, f4⟩
    go_wp2_with fail
    go_ret
    exact ⟨ret_int HR.out.symm, (fW.trans fB).trans f4⟩
  · clear hk1 hk9 ek1 ek9 hkk
    clear hadd
    have HR : Hid (R = lockCode m ⟨5, gr, o, wi, l, sz, f, t⟩) := by
      show R = lockCode m ⟨5, gr, o, wi, l, sz, f, t⟩
      rw [hR]
      simp [restCode]
    clear hR
    go_wp2_with fail
    refine (cL _ (fW.trans fB) ⟨by decide, by decide⟩).mono ?_
    rintro e u4 ⟨rfl, f4⟩
    go_wp2_with fail
    go_ret
    exact ⟨ret_int HR.out.symm, (fW.trans fB).trans f4⟩
  · clear hk1 hk9 ek1 ek9 hkk
    clear hadd
    have HR : Hid (R = chanCode m ⟨6, gr, o, wi, l, sz, f, t⟩) := by
      show R = chanCode m ⟨6, gr, o, wi, l, sz, f, t⟩
      rw [hR]
      simp [restCode]
    clear hR
    go_wp2_with fail
    refine (cC _ (fW.trans fB) ⟨by decide, by decide⟩).mono ?_
    rintro e u4 ⟨rfl, f4⟩
    go_wp2_with fail
    go_ret
    exact ⟨ret_int HR.out.symm, (fW.trans fB).trans f4⟩
  · clear hk1 hk9 ek1 ek9 hkk
    clear hadd
    have HR : Hid (R = chanCode m ⟨7, gr, o, wi, l, sz, f, t⟩) := by
      show R = chanCode m ⟨7, gr, o, wi, l, sz, f, t⟩
      rw [hR]
      simp [restCode]
    clear hR
    go_wp2_with fail
    refine (cC _ (fW.trans fB) ⟨by decide, by decide⟩).mono ?_
    rintro e u4 ⟨rfl, f4⟩
    go_wp2_with fail
    go_ret
    exact ⟨ret_int HR.out.symm, (fW.trans fB).trans f4⟩
  · clear hk1 hk9 ek1 ek9 hkk
    clear hadd
    have HR : Hid (R = chanCode m ⟨8, gr, o, wi, l, sz, f, t⟩) := by
      show R = chanCode m ⟨8, gr, o, wi, l, sz, f, t⟩
      rw [hR]
      simp [restCode]
    clear hR
    go_wp2_with fail
    refine (cC _ (fW.trans fB) ⟨by decide, by decide⟩).mono ?_
    rintro e u4 ⟨rfl, f4⟩
    go_wp2_with fail
    go_ret
    exact ⟨ret_int HR.out.symm, (fW.trans fB).trans f4⟩
  · clear hk1 hk9 ek1 ek9 hkk
    clear hadd
    have HR : Hid (R = chanCode m ⟨10, gr, o, wi, l, sz, f, t⟩) := by
      show R = chanCode m ⟨10, gr, o, wi, l, sz, f, t⟩
      rw [hR]
      simp [restCode]
    clear hR
    go_wp2_with fail
    refine (cC _ (fW.trans fB) ⟨by decide, by decide⟩).mono ?_
    rintro e u4 ⟨rfl, f4⟩
    go_wp2_with fail
    go_ret
    exact ⟨ret_int HR.out.symm, (fW.trans fB).trans f4⟩
  · clear hk1 hk9 ek1 ek9 hkk
    clear hadd
    have HR : Hid (R = chanCode m ⟨11, gr, o, wi, l, sz, f, t⟩) := by
      show R = chanCode m ⟨11, gr, o, wi, l, sz, f, t⟩
      rw [hR]
      simp [restCode]
    clear hR
    go_wp2_with fail
    refine (cC _ (fW.trans fB) ⟨by decide, by decide⟩).mono ?_
    rintro e u4 ⟨rfl, f4⟩
    go_wp2_with fail
    go_ret
    exact ⟨ret_int HR.out.symm, (fW.trans fB).trans f4⟩
  · clear hk1 hk9 ek1 ek9 hkk
    have hs := hadd rfl
    have hwr : IntKind.i64.wrap (C + sz) = C + sz := by rw [IntKind.wrap_i64]; omega
    by_cases hc : 1000000 < C + sz
    · have hd : decide (1000000 < C + sz) = true := decide_eq_true hc
      have HR : Hid (R = 9) := by
        show R = 9
        rw [hR]
        simp [restCode, ← HC.out, hc]
      clear hR hc
      go_wp2_with fail
      go_ret
      exact ⟨ret_int HR.out.symm, fW.trans fB⟩
    · have hc' : C + sz ≤ 1000000 := by omega
      have hd : decide (1000000 < C + sz) = false := decide_eq_false hc
      have HR : Hid (R = 0) := by
        show R = 0
        rw [hR]
        simp [restCode, ← HC.out, hc']
      clear hR hc hc'
      go_wp2_with fail
      go_ret
      exact ⟨ret_int HR.out.symm, fW.trans fB⟩
  · clear hk1 hk9 ek1 ek9 hkk
    clear hadd
    cases hc : (C == 0)
    · have hb : (C != 0) = true := by rw [bne, hc]; rfl
      have hc' := beq_eq_false_iff_ne.1 hc
      have HR : Hid (R = 0) := by
        show R = 0
        rw [hR]
        simp [restCode, ← HC.out, hc']
      clear hR hc'
      go_wp2_with fail
      go_ret
      exact ⟨ret_int HR.out.symm, fW.trans fB⟩
    · have hb : (C != 0) = false := by rw [bne, hc]; rfl
      have hc' := beq_iff_eq.1 hc
      have HR : Hid (R = 9) := by
        show R = 9
        rw [hR]
        simp [restCode, ← HC.out, hc']
      clear hR hc'
      go_wp2_with fail
      go_ret
      exact ⟨ret_int HR.out.symm, fW.trans fB⟩
  · clear hk1 hk9 ek1 ek9 hkk
    clear hadd
    cases hc : (C == 0)
    · have hb : (C != 0) = true := by rw [bne, hc]; rfl
      have hc' := beq_eq_false_iff_ne.1 hc
      have HR : Hid (R = 9) := by
        show R = 9
        rw [hR]
        simp [restCode, ← HC.out, hc']
      clear hR hc'
      go_wp2_with fail
      go_ret
      exact ⟨ret_int HR.out.symm, fW.trans fB⟩
    · have hb : (C != 0) = false := by rw [bne, hc]; rfl
      have hc' := beq_iff_eq.1 hc
      have HR : Hid (R = 0) := by
        show R = 0
        rw [hR]
        simp [restCode, ← HC.out, hc']
      clear hR hc'
      go_wp2_with fail
      go_ret
      exact ⟨ret_int HR.out.symm, fW.trans fB⟩
  · clear hk1 hk9 ek1 ek9 hkk
    clear hadd
    cases hm : memB m.os o
    · simp only [hm] at cO
      have HR : Hid (R = 0) := by
        show R = 0
        rw [hR]
        simp [restCode, hm]
      clear hR hm
      have := Later.some u3
      have cO := fun (s : Later u3) => cO s.u ((fW.trans fB).trans s.fr)
      have p4 : ∀ s : Later u3, s.u.cell? ⟨w.heap.size, 4, none⟩ = some (.slice oo ol oc) := fun s => s.fr.cell s4
      have q0 : ∀ s : Later u3, s.u.cell? ⟨w.heap.size + 1, 0, none⟩ = some (.int .i64 15) := fun s => s.fr.cell e0
      have q2 : ∀ s : Later u3, s.u.cell? ⟨w.heap.size + 1, 2, none⟩ = some (.int .i64 o) := fun s => s.fr.cell e2
      go_wp2_with fail
      refine wp_region_grown (by kernel_rfl) (by kernel_rfl) ?_
      repeat (go_big_quiet_step (with_reducible exact Calls.grown_same (cO _)))
      refine wpQuiet_nil ?_
      rintro _ ⟨x, rfl⟩
      go_wp2_with fail
      go_ret
      exact ⟨ret_int HR.out.symm, (fW.trans fB).trans x.fr⟩
    · simp only [hm] at cO
      have HR : Hid (R = 10) := by
        show R = 10
        rw [hR]
        simp [restCode, hm]
      clear hR hm
      have := Later.some u3
      have cO := fun (s : Later u3) => cO s.u ((fW.trans fB).trans s.fr)
      have p4 : ∀ s : Later u3, s.u.cell? ⟨w.heap.size, 4, none⟩ = some (.slice oo ol oc) := fun s => s.fr.cell s4
      have q0 : ∀ s : Later u3, s.u.cell? ⟨w.heap.size + 1, 0, none⟩ = some (.int .i64 15) := fun s => s.fr.cell e0
      have q2 : ∀ s : Later u3, s.u.cell? ⟨w.heap.size + 1, 2, none⟩ = some (.int .i64 o) := fun s => s.fr.cell e2
      go_wp2_with fail
      refine wp_region_grown (by kernel_rfl) (by kernel_rfl) ?_
      repeat (go_big_quiet_step (with_reducible exact Calls.grown_same (cO _)))
      refine wpQuiet_nil ?_
      rintro _ ⟨x, rfl⟩
      go_wp2_with fail
      go_ret
      exact ⟨ret_int HR.out.symm, (fW.trans fB).trans x.fr⟩
  · clear hk1 hk9 ek1 ek9 hkk
    clear hadd
    cases hm : memB m.os o
    · simp only [hm] at cO
      have HR : Hid (R = 10) := by
        show R = 10
        rw [hR]
        simp [restCode, hm]
      clear hR hm
      have := Later.some u3
      have cO := fun (s : Later u3) => cO s.u ((fW.trans fB).trans s.fr)
      have p4 : ∀ s : Later u3, s.u.cell? ⟨w.heap.size, 4, none⟩ = some (.slice oo ol oc) := fun s => s.fr.cell s4
      have q0 : ∀ s : Later u3, s.u.cell? ⟨w.heap.size + 1, 0, none⟩ = some (.int .i64 16) := fun s => s.fr.cell e0
      have q2 : ∀ s : Later u3, s.u.cell? ⟨w.heap.size + 1, 2, none⟩ = some (.int .i64 o) := fun s => s.fr.cell e2
      go_wp2_with fail
      refine wp_region_grown (by kernel_rfl) (by kernel_rfl) ?_
      repeat (go_big_quiet_step (with_reducible exact Calls.grown_same (cO _)))
      refine wpQuiet_nil ?_
      rintro _ ⟨x, rfl⟩
      go_wp2_with fail
      go_ret
      exact ⟨ret_int HR.out.symm, (fW.trans fB).trans x.fr⟩
    · simp only [hm] at cO
      have HR : Hid (R = 0) := by
        show R = 0
        rw [hR]
        simp [restCode, hm]
      clear hR hm
      have := Later.some u3
      have cO := fun (s : Later u3) => cO s.u ((fW.trans fB).trans s.fr)
      have p4 : ∀ s : Later u3, s.u.cell? ⟨w.heap.size, 4, none⟩ = some (.slice oo ol oc) := fun s => s.fr.cell s4
      have q0 : ∀ s : Later u3, s.u.cell? ⟨w.heap.size + 1, 0, none⟩ = some (.int .i64 16) := fun s => s.fr.cell e0
      have q2 : ∀ s : Later u3, s.u.cell? ⟨w.heap.size + 1, 2, none⟩ = some (.int .i64 o) := fun s => s.fr.cell e2
      go_wp2_with fail
      refine wp_region_grown (by kernel_rfl) (by kernel_rfl) ?_
      repeat (go_big_quiet_step (with_reducible exact Calls.grown_same (cO _)))
      refine wpQuiet_nil ?_
      rintro _ ⟨x, rfl⟩
      go_wp2_with fail
      go_ret
      exact ⟨ret_int HR.out.symm, (fW.trans fB).trans x.fr⟩
  · clear hk1 hk9 ek1 ek9 hkk
    clear hadd
    have HR : Hid (R = 0) := by
      show R = 0
      rw [hR]
      simp [restCode]
    clear hR
    go_wp2_with fail
    go_ret
    exact ⟨ret_int HR.out.symm, fW.trans fB⟩
  · clear hk1 hk9 ek1 ek9 hkk
    clear hadd
    have HR : Hid (R = 0) := by
      show R = 0
      rw [hR]
      simp [restCode]
    clear hR
    go_wp2_with fail
    go_ret
    exact ⟨ret_int HR.out.symm, fW.trans fB⟩
  · clear hk1 hk9 ek1 ek9 hkk
    clear hadd
    have HR : Hid (R = 0) := by
      show R = 0
      rw [hR]
      simp [restCode]
    clear hR
    go_wp2_with fail
    go_ret
    exact ⟨ret_int HR.out.symm, fW.trans fB⟩
  · clear hk1 hk9 ek1 ek9 hkk
    clear hadd
    have HR : Hid (R = 0) := by
      show R = 0
      rw [hR]
      simp [restCode]
    clear hR
    go_wp2_with fail
    go_ret
    exact ⟨ret_int HR.out.symm, fW.trans fB⟩
  · clear hk1 hk9 ek1 ek9 hkk
    clear hadd
    have HR : Hid (R = 0) := by
      show R = 0
      rw [hR]
      simp [restCode]
    clear hR
    go_wp2_with fail
    go_ret
    exact ⟨ret_int HR.out.symm, fW.trans fB⟩
  · clear hk1 hk9 ek1 ek9 hkk
    clear hadd
    have HR : Hid (R = 0) := by
      show R = 0
      rw [hR]
      simp [restCode]
    clear hR
    go_wp2_with fail
    go_ret
    exact ⟨ret_int HR.out.symm, fW.trans fB⟩
end Go.Proofs.YtcofhmikdkkigaaGreatDoor
