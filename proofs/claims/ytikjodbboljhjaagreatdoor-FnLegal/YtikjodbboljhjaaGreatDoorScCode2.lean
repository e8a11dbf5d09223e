/-
  Why an event of a channel can't be done: l4ChanCode.
-/
import Derived.Test.YtikjodbboljhjaaGreatDoorScCode
namespace Go.Proofs.YtikjodbboljhjaaGreatDoor
open Go.RowKit

theorem rowB_all {α : Type} {p : α → Bool} {o : α → Int} {xs : List α} (h : rowB p o xs = true) : ∀ x ∈ xs, p x = true := by
  intro x hx
  obtain ⟨j, hj, rfl⟩ := List.mem_iff_getElem.1 hx
  rw [rowB, List.all_eq_true] at h
  have := h j (List.mem_range.2 hj)
  cases hp : p xs[j] with
  | true => rfl
  | false => rw [rowAt_bad hj hp] at this; cases this
theorem scB_parts {m : Scn} (h : scB m = true) : inB 1 16 m.g = true ∧ rowB (lkB m.g) Lk.o m.ls = true ∧ rowB chB Ch.o m.cs = true ∧ rowB ctB Ct.o m.gs = true ∧ rowB (inB 0 15) (fun x => x) m.os = true := by
  unfold scB at h
  simp only [Bool.and_eq_true] at h
  exact ⟨h.1, h.2.1, h.2.2.1, h.2.2.2.1, h.2.2.2.2⟩
theorem chB_in {c : Ch} (h : chB c = true) : (0 ≤ c.o ∧ c.o ≤ 15) ∧ 0 ≤ c.cap ∧ c.cap ≤ 8 ∧ 0 ≤ c.sent ∧ c.sent ≤ 1000000 ∧ 0 ≤ c.got ∧ c.got ≤ c.sent ∧ c.sent ≤ c.got + c.cap := by
  unfold chB at h
  simp only [Bool.and_eq_true, decide_eq_true_eq] at h
  obtain ⟨h1, h2, h3, h4, h5⟩ := h
  have := inB_true h1
  have := inB_true h2
  have := inB_true h3
  have := inB_true h4
  omega
theorem chan_in {m : Scn} (h : scB m = true) (o : Int) : 0 ≤ (chanOf m.cs o).cap ∧ (chanOf m.cs o).cap ≤ 8 ∧ 0 ≤ (chanOf m.cs o).sent ∧ (chanOf m.cs o).sent ≤ 1000000 ∧ 0 ≤ (chanOf m.cs o).got ∧ (chanOf m.cs o).got ≤ (chanOf m.cs o).sent ∧ (chanOf m.cs o).sent ≤ (chanOf m.cs o).got + (chanOf m.cs o).cap := by
  have h3 := (scB_parts h).2.2.1
  unfold chanOf
  cases hf : m.cs.find? fun l => l.o == o with
  | none => simp
  | some c =>
    have hm := List.mem_of_find?_eq_some hf
    have := (chB_in (rowB_all h3 c hm)).2
    simpa using this

set_option maxRecDepth 20000 in
set_option maxHeartbeats 6000000 in
theorem l4ChanCode_any {B : Nat → Prop} (s : Sv) (m : Scn) (e : Ev) (w : World) (hk : 6 ≤ e.k ∧ e.k ≤ 11) (hm : scB m = true) (h : ScR B w s m) :
    Calls Tryz.prog 45 #[.agg #[.int .i64 s.g, .slice s.lo s.ll s.lc, .slice s.co s.cl s.cc, .slice s.no s.nl s.nc, .slice s.oo s.ol s.oc], .agg #[.int .i64 e.k, .int .i64 e.g, .int .i64 e.o, .int .i64 e.w, .int .i64 e.l, .int .i64 e.s, .int .i64 e.f, .int .i64 e.t]] w fun x w' => x = .returned (.int .i64 (chanCode m e)) ∧ Fr w w' := by
  obtain ⟨k1, k2, fW, hz⟩ := box2 w s e
  obtain ⟨k, gr, o, wi, l, sz, f, t⟩ := e
  obtain ⟨g, lo, ll, lc, co, cl, cc, no, nl, nc, oo, ol, oc⟩ := s
  simp only at hk k1 k2 fW hz ⊢
  have cL := fun u (hf : Fr w u) => l4ChanOf_any (B := B) ⟨g, lo, ll, lc, co, cl, cc, no, nl, nc, oo, ol, oc⟩ m o u (h.fr hf)
  simp only at cL
  have hin := chan_in hm o
  obtain ⟨R, hR⟩ : ∃ R, R = chanCode m ⟨k, gr, o, wi, l, sz, f, t⟩ := ⟨_, rfl⟩
  rw [← hR]
  unfold chanCode at hR
  simp only at hR
  obtain ⟨C, hC⟩ : ∃ C, C = chanOf m.cs o := ⟨_, rfl⟩
  obtain ⟨T, hT⟩ : ∃ T, T = isChan m.cs o := ⟨_, rfl⟩
  rw [← hC] at hin
  simp only [← hC, ← hT] at hR cL
  clear hC hT h hm k1
  obtain ⟨xo, xc, xs, xg, xl⟩ := C
  simp only at hin hR cL
  obtain ⟨i0, i1, i2, i3, i4, i5, i6⟩ := hin
  have HK : Hid (∀ u (_ : Fr ((w.alloc (.cells #[.int .i64 g, .slice lo ll lc, .slice co cl cc, .slice no nl nc, .slice oo ol oc] 29)).alloc (.cells #[.int .i64 k, .int .i64 gr, .int .i64 o, .int .i64 wi, .int .i64 l, .int .i64 sz, .int .i64 f, .int .i64 t] 31)) u), (u.alloc (.cells #[.int .i64 xo, .int .i64 xc, .int .i64 xs, .int .i64 xg, .bool xl] 82)).cell? ⟨w.heap.size + 1, 0, none⟩ = some (.int .i64 k)) := fun u f => (Fr.alloc u _).cell (f.cell k2.at.1)
  clear k2 hz
  rcases (show k = 6 ∨ k = 7 ∨ k = 8 ∨ k = 9 ∨ k = 10 ∨ k = 11 by omega) with rfl | rfl | rfl | rfl | rfl | rfl
  · cases T
    · have HR : Hid (R = 0) := by
        show R = 0
        rw [hR]
        simp 
      clear hR
      go_enter Tryz.func45, Tryz.ntmps45
      go_wp2_with fail
      refine (cL _ fW).mono ?_
      rintro e u1 ⟨rfl, f1⟩
      have n0 := HK.out _ f1
      have HF : Hid (Fr w (u1.alloc (.cells #[.int .i64 xo, .int .i64 xc, .int .i64 xs, .int .i64 xg, .bool xl] 82))) := (fW.trans f1).trans (Fr.alloc _ _)
      clear cL fW f1
      go_wp2_with fail
      go_ret
      exact ⟨ret_int HR.out.symm, HF.out⟩
    · have HR : Hid (R = 5) := by
        show R = 5
        rw [hR]
        simp 
      clear hR
      go_enter Tryz.func45, Tryz.ntmps45
      go_wp2_with fail
      refine (cL _ fW).mono ?_
      rintro e u1 ⟨rfl, f1⟩
      have n0 := HK.out _ f1
      have HF : Hid (Fr w (u1.alloc (.cells #[.int .i64 xo, .int .i64 xc, .int .i64 xs, .int .i64 xg, .bool xl] 82))) := (fW.trans f1).trans (Fr.alloc _ _)
      clear cL fW f1
      go_wp2_with fail
      go_ret
      exact ⟨ret_int HR.out.symm, HF.out⟩
  · cases T
    · have HR : Hid (R = 5) := by
        show R = 5
        rw [hR]
        simp 
      clear hR
      go_enter Tryz.func45, Tryz.ntmps45
      go_wp2_with fail
      refine (cL _ fW).mono ?_
      rintro e u1 ⟨rfl, f1⟩
      have n0 := HK.out _ f1
      have HF : Hid (Fr w (u1.alloc (.cells #[.int .i64 xo, .int .i64 xc, .int .i64 xs, .int .i64 xg, .bool xl] 82))) := (fW.trans f1).trans (Fr.alloc _ _)
      clear cL fW f1
      go_wp2_with fail
      go_ret
      exact ⟨ret_int HR.out.symm, HF.out⟩
    · cases ecap0 : (xc == 0)
      · have pcap0 : ¬ xc = 0 := beq_eq_false_iff_ne.1 ecap0
        cases xl
        · cases efull : (xs - xg == xc)
          · have pfull : ¬ xs - xg = xc := beq_eq_false_iff_ne.1 efull
            cases emax : (xs == 1000000)
            · have pmax : ¬ xs = 1000000 := beq_eq_false_iff_ne.1 emax
              have HR : Hid (R = 0) := by
                show R = 0
                rw [hR]
                simp [pcap0, pfull, pmax]
              clear hR pcap0 pfull pmax
              go_enter Tryz.func45, Tryz.ntmps45
              go_wp2_with fail
              refine (cL _ fW).mono ?_
              rintro e u1 ⟨rfl, f1⟩
              have n0 := HK.out _ f1
              have HF : Hid (Fr w (u1.alloc (.cells #[.int .i64 xo, .int .i64 xc, .int .i64 xs, .int .i64 xg, .bool false] 82))) := (fW.trans f1).trans (Fr.alloc _ _)
              clear cL fW f1
              go_wp2_with fail
              go_ret
              exact ⟨ret_int HR.out.symm, HF.out⟩
            · have pmax : xs = 1000000 := beq_iff_eq.1 emax
              have HR : Hid (R = 9) := by
                show R = 9
                rw [hR]
                simp [pcap0, pmax]
                omega
              clear hR pcap0 pfull pmax
              go_enter Tryz.func45, Tryz.ntmps45
              go_wp2_with fail
              refine (cL _ fW).mono ?_
              rintro e u1 ⟨rfl, f1⟩
              have n0 := HK.out _ f1
              have HF : Hid (Fr w (u1.alloc (.cells #[.int .i64 xo, .int .i64 xc, .int .i64 xs, .int .i64 xg, .bool false] 82))) := (fW.trans f1).trans (Fr.alloc _ _)
              clear cL fW f1
              go_wp2_with fail
              go_ret
              exact ⟨ret_int HR.out.symm, HF.out⟩
          · have pfull : xs - xg = xc := beq_iff_eq.1 efull
            have HR : Hid (R = 7) := by
              show R = 7
              rw [hR]
              simp [pcap0, pfull]
            clear hR pcap0 pfull
            go_enter Tryz.func45, Tryz.ntmps45
            go_wp2_with fail
            refine (cL _ fW).mono ?_
            rintro e u1 ⟨rfl, f1⟩
            have n0 := HK.out _ f1
            have HF : Hid (Fr w (u1.alloc (.cells #[.int .i64 xo, .int .i64 xc, .int .i64 xs, .int .i64 xg, .bool false] 82))) := (fW.trans f1).trans (Fr.alloc _ _)
            clear cL fW f1
            go_wp2_with fail
            go_ret
            exact ⟨ret_int HR.out.symm, HF.out⟩
        · have HR : Hid (R = 6) := by
            show R = 6
            rw [hR]
            simp [pcap0]
          clear hR pcap0
          go_enter Tryz.func45, Tryz.ntmps45
          go_wp2_with fail
          refine (cL _ fW).mono ?_
          rintro e u1 ⟨rfl, f1⟩
          have n0 := HK.out _ f1
          have HF : Hid (Fr w (u1.alloc (.cells #[.int .i64 xo, .int .i64 xc, .int .i64 xs, .int .i64 xg, .bool true] 82))) := (fW.trans f1).trans (Fr.alloc _ _)
          clear cL fW f1
          go_wp2_with fail
          go_ret
          exact ⟨ret_int HR.out.symm, HF.out⟩
      · have pcap0 : xc = 0 := beq_iff_eq.1 ecap0
        have HR : Hid (R = 5) := by
          show R = 5
          rw [hR]
          simp [pcap0]
        clear hR pcap0
        go_enter Tryz.func45, Tryz.ntmps45
        go_wp2_with fail
        refine (cL _ fW).mono ?_
        rintro e u1 ⟨rfl, f1⟩
        have n0 := HK.out _ f1
        have HF : Hid (Fr w (u1.alloc (.cells #[.int .i64 xo, .int .i64 xc, .int .i64 xs, .int .i64 xg, .bool xl] 82))) := (fW.trans f1).trans (Fr.alloc _ _)
        clear cL fW f1
        go_wp2_with fail
        go_ret
        exact ⟨ret_int HR.out.symm, HF.out⟩
  · cases T
    · have HR : Hid (R = 5) := by
        show R = 5
        rw [hR]
        simp 
      clear hR
      go_enter Tryz.func45, Tryz.ntmps45
      go_wp2_with fail
      refine (cL _ fW).mono ?_
      rintro e u1 ⟨rfl, f1⟩
      have n0 := HK.out _ f1
      have HF : Hid (Fr w (u1.alloc (.cells #[.int .i64 xo, .int .i64 xc, .int .i64 xs, .int .i64 xg, .bool xl] 82))) := (fW.trans f1).trans (Fr.alloc _ _)
      clear cL fW f1
      go_wp2_with fail
      go_ret
      exact ⟨ret_int HR.out.symm, HF.out⟩
    · cases ecap0 : (xc == 0)
      · have pcap0 : ¬ xc = 0 := beq_eq_false_iff_ne.1 ecap0
        cases eemp : (xs == xg)
        · have pemp : ¬ xs = xg := beq_eq_false_iff_ne.1 eemp
          have HR : Hid (R = 0) := by
            show R = 0
            rw [hR]
            simp [pcap0, pemp]
          clear hR pcap0 pemp
          go_enter Tryz.func45, Tryz.ntmps45
          go_wp2_with fail
          refine (cL _ fW).mono ?_
          rintro e u1 ⟨rfl, f1⟩
          have n0 := HK.out _ f1
          have HF : Hid (Fr w (u1.alloc (.cells #[.int .i64 xo, .int .i64 xc, .int .i64 xs, .int .i64 xg, .bool xl] 82))) := (fW.trans f1).trans (Fr.alloc _ _)
          clear cL fW f1
          go_wp2_with fail
          go_ret
          exact ⟨ret_int HR.out.symm, HF.out⟩
        · have pemp : xs = xg := beq_iff_eq.1 eemp
          have HR : Hid (R = 8) := by
            show R = 8
            rw [hR]
            simp [pcap0, pemp]
          clear hR pcap0 pemp
          go_enter Tryz.func45, Tryz.ntmps45
          go_wp2_with fail
          refine (cL _ fW).mono ?_
          rintro e u1 ⟨rfl, f1⟩
          have n0 := HK.out _ f1
          have HF : Hid (Fr w (u1.alloc (.cells #[.int .i64 xo, .int .i64 xc, .int .i64 xs, .int .i64 xg, .bool xl] 82))) := (fW.trans f1).trans (Fr.alloc _ _)
          clear cL fW f1
          go_wp2_with fail
          go_ret
          exact ⟨ret_int HR.out.symm, HF.out⟩
      · have pcap0 : xc = 0 := beq_iff_eq.1 ecap0
        have HR : Hid (R = 5) := by
          show R = 5
          rw [hR]
          simp [pcap0]
        clear hR pcap0
        go_enter Tryz.func45, Tryz.ntmps45
        go_wp2_with fail
        refine (cL _ fW).mono ?_
        rintro e u1 ⟨rfl, f1⟩
        have n0 := HK.out _ f1
        have HF : Hid (Fr w (u1.alloc (.cells #[.int .i64 xo, .int .i64 xc, .int .i64 xs, .int .i64 xg, .bool xl] 82))) := (fW.trans f1).trans (Fr.alloc _ _)
        clear cL fW f1
        go_wp2_with fail
        go_ret
        exact ⟨ret_int HR.out.symm, HF.out⟩
  · cases T
    · have HR : Hid (R = 5) := by
        show R = 5
        rw [hR]
        simp 
      clear hR
      go_enter Tryz.func45, Tryz.ntmps45
      go_wp2_with fail
      refine (cL _ fW).mono ?_
      rintro e u1 ⟨rfl, f1⟩
      have n0 := HK.out _ f1
      have HF : Hid (Fr w (u1.alloc (.cells #[.int .i64 xo, .int .i64 xc, .int .i64 xs, .int .i64 xg, .bool xl] 82))) := (fW.trans f1).trans (Fr.alloc _ _)
      clear cL fW f1
      go_wp2_with fail
      go_ret
      exact ⟨ret_int HR.out.symm, HF.out⟩
    · cases ecap0 : (xc == 0)
      · have pcap0 : ¬ xc = 0 := beq_eq_false_iff_ne.1 ecap0
        have HR : Hid (R = 5) := by
          show R = 5
          rw [hR]
          simp [pcap0]
        clear hR pcap0
        go_enter Tryz.func45, Tryz.ntmps45
        go_wp2_with fail
        refine (cL _ fW).mono ?_
        rintro e u1 ⟨rfl, f1⟩
        have n0 := HK.out _ f1
        have HF : Hid (Fr w (u1.alloc (.cells #[.int .i64 xo, .int .i64 xc, .int .i64 xs, .int .i64 xg, .bool xl] 82))) := (fW.trans f1).trans (Fr.alloc _ _)
        clear cL fW f1
        go_wp2_with fail
        go_ret
        exact ⟨ret_int HR.out.symm, HF.out⟩
      · have pcap0 : xc = 0 := beq_iff_eq.1 ecap0
        cases xl
        · have HR : Hid (R = 0) := by
            show R = 0
            rw [hR]
            simp [pcap0]
          clear hR pcap0
          go_enter Tryz.func45, Tryz.ntmps45
          go_wp2_with fail
          refine (cL _ fW).mono ?_
          rintro e u1 ⟨rfl, f1⟩
          have n0 := HK.out _ f1
          have HF : Hid (Fr w (u1.alloc (.cells #[.int .i64 xo, .int .i64 xc, .int .i64 xs, .int .i64 xg, .bool false] 82))) := (fW.trans f1).trans (Fr.alloc _ _)
          clear cL fW f1
          go_wp2_with fail
          go_ret
          exact ⟨ret_int HR.out.symm, HF.out⟩
        · have HR : Hid (R = 6) := by
            show R = 6
            rw [hR]
            simp [pcap0]
          clear hR pcap0
          go_enter Tryz.func45, Tryz.ntmps45
          go_wp2_with fail
          refine (cL _ fW).mono ?_
          rintro e u1 ⟨rfl, f1⟩
          have n0 := HK.out _ f1
          have HF : Hid (Fr w (u1.alloc (.cells #[.int .i64 xo, .int .i64 xc, .int .i64 xs, .int .i64 xg, .bool true] 82))) := (fW.trans f1).trans (Fr.alloc _ _)
          clear cL fW f1
          go_wp2_with fail
          go_ret
          exact ⟨ret_int HR.out.symm, HF.out⟩
  · cases T
    · have HR : Hid (R = 5) := by
        show R = 5
        rw [hR]
        simp 
      clear hR
      go_enter Tryz.func45, Tryz.ntmps45
      go_wp2_with fail
      refine (cL _ fW).mono ?_
      rintro e u1 ⟨rfl, f1⟩
      have n0 := HK.out _ f1
      have HF : Hid (Fr w (u1.alloc (.cells #[.int .i64 xo, .int .i64 xc, .int .i64 xs, .int .i64 xg, .bool xl] 82))) := (fW.trans f1).trans (Fr.alloc _ _)
      clear cL fW f1
      go_wp2_with fail
      go_ret
      exact ⟨ret_int HR.out.symm, HF.out⟩
    · cases xl
      · have HR : Hid (R = 0) := by
          show R = 0
          rw [hR]
          simp 
        clear hR
        go_enter Tryz.func45, Tryz.ntmps45
        go_wp2_with fail
        refine (cL _ fW).mono ?_
        rintro e u1 ⟨rfl, f1⟩
        have n0 := HK.out _ f1
        have HF : Hid (Fr w (u1.alloc (.cells #[.int .i64 xo, .int .i64 xc, .int .i64 xs, .int .i64 xg, .bool false] 82))) := (fW.trans f1).trans (Fr.alloc _ _)
        clear cL fW f1
        go_wp2_with fail
        go_ret
        exact ⟨ret_int HR.out.symm, HF.out⟩
      · have HR : Hid (R = 6) := by
          show R = 6
          rw [hR]
          simp 
        clear hR
        go_enter Tryz.func45, Tryz.ntmps45
        go_wp2_with fail
        refine (cL _ fW).mono ?_
        rintro e u1 ⟨rfl, f1⟩
        have n0 := HK.out _ f1
        have HF : Hid (Fr w (u1.alloc (.cells #[.int .i64 xo, .int .i64 xc, .int .i64 xs, .int .i64 xg, .bool true] 82))) := (fW.trans f1).trans (Fr.alloc _ _)
        clear cL fW f1
        go_wp2_with fail
        go_ret
        exact ⟨ret_int HR.out.symm, HF.out⟩
  · cases T
    · have HR : Hid (R = 5) := by
        show R = 5
        rw [hR]
        simp 
      clear hR
      go_enter Tryz.func45, Tryz.ntmps45
      go_wp2_with fail
      refine (cL _ fW).mono ?_
      rintro e u1 ⟨rfl, f1⟩
      have n0 := HK.out _ f1
      have HF : Hid (Fr w (u1.alloc (.cells #[.int .i64 xo, .int .i64 xc, .int .i64 xs, .int .i64 xg, .bool xl] 82))) := (fW.trans f1).trans (Fr.alloc _ _)
      clear cL fW f1
      go_wp2_with fail
      go_ret
      exact ⟨ret_int HR.out.symm, HF.out⟩
    · cases xl
      · have HR : Hid (R = 6) := by
          show R = 6
          rw [hR]
          simp 
        clear hR
        go_enter Tryz.func45, Tryz.ntmps45
        go_wp2_with fail
        refine (cL _ fW).mono ?_
        rintro e u1 ⟨rfl, f1⟩
        have n0 := HK.out _ f1
        have HF : Hid (Fr w (u1.alloc (.cells #[.int .i64 xo, .int .i64 xc, .int .i64 xs, .int .i64 xg, .bool false] 82))) := (fW.trans f1).trans (Fr.alloc _ _)
        clear cL fW f1
        go_wp2_with fail
        go_ret
        exact ⟨ret_int HR.out.symm, HF.out⟩
      · cases eemp : (xs == xg)
        · have pemp : ¬ xs = xg := beq_eq_false_iff_ne.1 eemp
          have HR : Hid (R = 8) := by
            show R = 8
            rw [hR]
            simp [pemp]
          clear hR pemp
          go_enter Tryz.func45, Tryz.ntmps45
          go_wp2_with fail
          refine (cL _ fW).mono ?_
          rintro e u1 ⟨rfl, f1⟩
          have n0 := HK.out _ f1
          have HF : Hid (Fr w (u1.alloc (.cells #[.int .i64 xo, .int .i64 xc, .int .i64 xs, .int .i64 xg, .bool true] 82))) := (fW.trans f1).trans (Fr.alloc _ _)
          clear cL fW f1
          go_wp2_with fail
          go_ret
          exact ⟨ret_int HR.out.symm, HF.out⟩
        · have pemp : xs = xg := beq_iff_eq.1 eemp
          have HR : Hid (R = 0) := by
            show R = 0
            rw [hR]
            simp [pemp]
          clear hR pemp
          go_enter Tryz.func45, Tryz.ntmps45
          go_wp2_with fail
          refine (cL _ fW).mono ?_
          rintro e u1 ⟨rfl, f1⟩
          have n0 := HK.out _ f1
          have HF : Hid (Fr w (u1.alloc (.cells #[.int .i64 xo, .int .i64 xc, .int .i64 xs, .int .i64 xg, .bool true] 82))) := (fW.trans f1).trans (Fr.alloc _ _)
          clear cL fW f1
          go_wp2_with fail
          go_ret
          exact ⟨ret_int HR.out.symm, HF.out⟩
end Go.Proofs.YtikjodbboljhjaaGreatDoor
