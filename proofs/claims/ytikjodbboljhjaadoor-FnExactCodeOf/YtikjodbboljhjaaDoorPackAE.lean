/-
  Is a scene right: SceneOk of the specification.
-/
import Derived.Test.YtikjodbboljhjaaDoorPackAD
import Derived.Test.YtikjodbboljhjaaDoorPackAC
import Derived.Test.YtikjodbboljhjaaDoorPackAA
namespace Go.Proofs.YtikjodbboljhjaaDoor
open Go.RowKit

set_option maxRecDepth 20000 in
set_option maxHeartbeats 3000000 in
theorem sceneOk_any {B : Nat → Prop} (s : Sv) (m : Scn) (w : World) (h : ScR B w s m) :
    Calls Tryd.prog 24 #[.agg #[.int .i64 s.g, .slice s.lo s.ll s.lc, .slice s.co s.cl s.cc, .slice s.no s.nl s.nc, .slice s.oo s.ol s.oc]] w fun e w' => e = .returned (.bool (scB m)) ∧ Fr w w' := by
  have hb0 := ScB.new w s
  have hR := h.fr (Fr.alloc w (.cells #[.int .i64 s.g, .slice s.lo s.ll s.lc, .slice s.co s.cl s.cc, .slice s.no s.nl s.nc, .slice s.oo s.ol s.oc] 34))
  have fW := Fr.alloc w (.cells #[.int .i64 s.g, .slice s.lo s.ll s.lc, .slice s.co s.cl s.cc, .slice s.no s.nl s.nc, .slice s.oo s.ol s.oc] 34)
  obtain ⟨g, lo, ll, lc, co, cl, cc, no, nl, nc, oo, ol, oc⟩ := s
  have eg := h.g
  simp only at eg hb0 hR fW ⊢
  have c0 := hb0.c0
  simp only at c0
  unfold scB
  obtain ⟨RC, hRC⟩ : ∃ RC, RC = (rowB chB Ch.o m.cs && (rowB ctB Ct.o m.gs && rowB (inB 0 15) (fun x => x) m.os)) := ⟨_, rfl⟩
  rw [← hRC]
  have HRC : Hid (RC = (rowB chB Ch.o m.cs && (rowB ctB Ct.o m.gs && rowB (inB 0 15) (fun x => x) m.os))) := hRC
  clear hRC
  rw [← eg]
  have HG : Hid (g = m.g) := eg
  clear eg
  cases hg : inB 1 16 g
  · go_enter Tryd.func24, Tryd.ntmps24
    go_wp2_with (go_at_call 51; refine (l1In_any _ _ _ _).mono ?_; rintro e w' ⟨rfl, rfl⟩)
    go_ret
    exact ⟨rfl, fW⟩
  have gr := inB_true hg
  go_enter Tryd.func24, Tryd.ntmps24
  go_wp2_with (go_at_call 51; refine (l1In_any _ _ _ _).mono ?_; rintro e w' ⟨rfl, rfl⟩)
  clear c0 hg h
  obtain ⟨W, hW⟩ : ∃ W, W = w.alloc (.cells #[.int .i64 g, .slice lo ll lc, .slice co cl cc, .slice no nl nc, .slice oo ol oc] 34) := ⟨_, rfl⟩
  rw [← hW] at hb0 hR fW ⊢
  obtain ⟨b0, hbb⟩ : ∃ b0, b0 = w.heap.size := ⟨_, rfl⟩
  rw [← hbb] at hb0 ⊢
  clear hW hbb
  go_loopw [3] (fun i wr => ∃ k : Nat, k ≤ ll ∧ i = .int .i64 k ∧ Hid (∀ j, j < k → rowAt (lkB g) Lk.o m.ls j = true) ∧ ScB wr b0 ⟨g, lo, ll, lc, co, cl, cc, no, nl, nc, oo, ol, oc⟩ ∧ ScR B wr ⟨g, lo, ll, lc, co, cl, cc, no, nl, nc, oo, ol, oc⟩ m ∧ Fr w wr) (fun i _ => ll - (intOf i).toNat)
  case atStart => exact ⟨0, Nat.zero_le _, rfl, fun j hj => by omega, hb0, hR, fW⟩
  case round =>
    clear hb0 hR fW
    obtain ⟨k, hk, rfl, HA, hb0, hR, fW⟩ := hrel
    obtain ⟨lvs, hr, hn, hL⟩ := hR.lks
    have hsl := hR.sl
    have hlen := hL.len
    simp only at hr hn
    have hll : ll ≤ 1048576 := by omega
    by_cases hlt : k < ll
    · have hk2 : k < m.ls.length := by omega
      have hk1 : k < lvs.length := by omega
      obtain ⟨b, off, rfl, d0, d1, d2⟩ := lv_at hr k hk1
      have hLk := hL.at_ k hk1 hk2
      have HO : Hid (lvs[k].o = m.ls[k].o) := hLk.o
      have cL := fun (s : Later wr) => l4Lock_any g lvs[k] m.ls[k] s.u gr.1 gr.2 (hLk.fr s.fr)
      obtain ⟨lv, hlv⟩ : ∃ lv, lv = lvs[k] := ⟨_, rfl⟩
      simp only [← hlv] at d0 d1 d2 HO cL
      clear hlv hLk
      have cc0 := hb0.c0
      have cc1 := hb0.c1
      simp only at cc0 cc1
      have q0 : ∀ s : Later wr, s.u.cell? ⟨b0, 0, none⟩ = some (.int .i64 g) := fun s => s.fr.cell cc0
      have q1 : ∀ s : Later wr, s.u.cell? ⟨b0, 1, none⟩ = some (.slice (some ⟨b, off, none⟩) ll lc) := fun s => s.fr.cell cc1
      have := Later.some wr
      cases hgood : lkB g m.ls[k]
      · have HF : Hid (rowB (lkB g) Lk.o m.ls = false) := rowB_no hk2 (rowAt_bad hk2 (hgood))
        simp only [hgood] at cL
        have p0 : ∀ s : Later wr, s.u.cell? ⟨b, off + k * 3, none⟩ = some (.int .i64 lv.o) := fun s => s.fr.cell d0
        have p1 : ∀ s : Later wr, s.u.cell? ⟨b, off + k * 3 + 1, none⟩ = some (.int .i64 lv.wr) := fun s => s.fr.cell d1
        have p2 : ∀ s : Later wr, s.u.cell? ⟨b, off + k * 3 + 2, none⟩ = some (.slice lv.ro lv.rn lv.rc) := fun s => s.fr.cell d2
        clear hn hlen hgood hr
        go_wp2_with fail
        refine wp_region_grown (by kernel_rfl) (by kernel_rfl) ?_
        repeat (go_big_quiet_step (with_reducible exact Calls.grown_of (cL _)))
        refine wpQuiet_nil ?_
        rintro _ ⟨s, rfl⟩
        go_wp2_with fail
        go_ret
        exact ⟨ret_bool (by rw [HF.out]; rfl), fW.trans s.fr⟩
      simp only [hgood] at cL
      cases k with
      | zero =>
        have HT : Hid (rowAt (lkB g) Lk.o m.ls 0 = true) := rowAt_zero hk2 (by exact hgood)
        simp only [Nat.zero_mul, Nat.add_zero] at d0 d1 d2
        have p0 : ∀ s : Later wr, s.u.cell? ⟨b, off, none⟩ = some (.int .i64 lv.o) := fun s => s.fr.cell d0
        have p1 : ∀ s : Later wr, s.u.cell? ⟨b, off + 1, none⟩ = some (.int .i64 lv.wr) := fun s => s.fr.cell d1
        have p2 : ∀ s : Later wr, s.u.cell? ⟨b, off + 2, none⟩ = some (.slice lv.ro lv.rn lv.rc) := fun s => s.fr.cell d2
        clear hn hlen hgood hr
        go_wp2_with fail
        have hd : decide ((0 : Int) < 0) = false := by decide
        refine wp_region_grown (by kernel_rfl) (by kernel_rfl) ?_
        repeat (go_big_quiet_step (with_reducible exact Calls.grown_of (cL _)))
        refine wpQuiet_nil ?_
        rintro _ ⟨s, rfl⟩
        go_wp2_with fail
        go_roundw
        case rel => exact ⟨1, by omega, by go_num, rowAt_next HA.out HT.out, hb0.keep s.fr (by simp), hR.fr s.fr, fW.trans s.fr⟩
        case measure => simp [intOf]; omega
      | succ k =>
        obtain ⟨b', off', e', t0, -, -⟩ := lv_at hr k (by omega)
        simp only [Option.some.injEq, Addr.mk.injEq, and_true] at e'
        obtain ⟨rfl, rfl⟩ := e'
        have HY : Hid (lvs[k].o = m.ls[k].o) := (hL.at_ k (by omega) (by omega)).o
        obtain ⟨y, hy⟩ : ∃ y, y = lvs[k].o := ⟨_, rfl⟩
        rw [← hy] at t0 HY
        clear hy
        have hwk : IntKind.i64.wrap (((k + 1 : Nat) : Int) - 1) = (k : Int) := by rw [IntKind.wrap_i64]; omega
        have t1 : ∀ s : Later wr, s.u.cell? ⟨b, off + k * 3, none⟩ = some (.int .i64 y) := fun s => s.fr.cell t0
        have p0 : ∀ s : Later wr, s.u.cell? ⟨b, off + (k + 1) * 3, none⟩ = some (.int .i64 lv.o) := fun s => s.fr.cell d0
        have p1 : ∀ s : Later wr, s.u.cell? ⟨b, off + (k + 1) * 3 + 1, none⟩ = some (.int .i64 lv.wr) := fun s => s.fr.cell d1
        have p2 : ∀ s : Later wr, s.u.cell? ⟨b, off + (k + 1) * 3 + 2, none⟩ = some (.slice lv.ro lv.rn lv.rc) := fun s => s.fr.cell d2
        by_cases hle : lv.o ≤ y
        · have HF : Hid (rowB (lkB g) Lk.o m.ls = false) := rowB_no hk2 (rowAt_down hk2 (by have := HO.out; have := HY.out; omega))
          clear hn hlen hgood hr HY
          go_wp2_with fail
          refine wp_region_grown (by kernel_rfl) (by kernel_rfl) ?_
          repeat (go_big_quiet_step (with_reducible exact Calls.grown_of (cL _)))
          refine wpQuiet_nil ?_
          rintro _ ⟨s, rfl⟩
          go_wp2_with fail
          go_ret
          exact ⟨ret_bool (by rw [HF.out]; rfl), fW.trans s.fr⟩
        · have HT : Hid (rowAt (lkB g) Lk.o m.ls (k + 1) = true) := rowAt_up hk2 (by exact hgood) (by have := HO.out; have := HY.out; omega)
          have hle' : y < lv.o := by omega
          clear hn hlen hgood hr HY
          go_wp2_with fail
          refine wp_region_grown (by kernel_rfl) (by kernel_rfl) ?_
          repeat (go_big_quiet_step (with_reducible exact Calls.grown_of (cL _)))
          refine wpQuiet_nil ?_
          rintro _ ⟨s, rfl⟩
          go_wp2_with fail
          go_roundw
          case rel => exact ⟨k + 2, by omega, by go_num, rowAt_next HA.out HT.out, hb0.keep s.fr (by simp), hR.fr s.fr, fW.trans s.fr⟩
          case measure => simp [intOf]; omega
    · have HT1 : Hid (rowB (lkB g) Lk.o m.ls = true) := rowB_yes (fun j hj => HA.out j (by omega))
      have ca := hb0.c0
      have cb := hb0.c1
      have cd := hb0.c2
      simp only at ca cb cd
      clear hr hn hL hlen
      go_wp2_with fail
      clear ca cb cd HA hlt hk
      go_loopw [4] (fun i wr => ∃ k : Nat, k ≤ cl ∧ i = .int .i64 k ∧ Hid (∀ j, j < k → rowAt chB Ch.o m.cs j = true) ∧ ScB wr b0 ⟨g, lo, ll, lc, co, cl, cc, no, nl, nc, oo, ol, oc⟩ ∧ ScR B wr ⟨g, lo, ll, lc, co, cl, cc, no, nl, nc, oo, ol, oc⟩ m ∧ Fr w wr) (fun i _ => cl - (intOf i).toNat)
      case atStart => exact ⟨0, Nat.zero_le _, rfl, fun j hj => by omega, hb0, hR, fW⟩
      case round =>
        clear hb0 hR fW
        obtain ⟨k, hk, rfl, HA, hb0, hR, fW⟩ := hrel
        have hn := hR.cl
        have hsl := hR.sc
        simp only at hn
        have hll : cl ≤ 1048576 := by omega
        by_cases hlt : k < cl
        · have hk2 : k < m.cs.length := by omega
          obtain ⟨b, off, rfl, d0, d1, d2, d3, d4⟩ := ch_at hR.chs k hk2
          obtain ⟨c, hc⟩ : ∃ c, c = m.cs[k] := ⟨_, rfl⟩
          rw [← hc] at d0 d1 d2 d3 d4
          have HZ : Hid (c = m.cs[k]) := hc
          have cC := fun w => l4Chan_any c w
          clear hc
          have cc0 := hb0.c0
          have cc1 := hb0.c2
          simp only at cc0 cc1
          have q0 : ∀ s : Later wr, s.u.cell? ⟨b0, 0, none⟩ = some (.int .i64 g) := fun s => s.fr.cell cc0
          have q1 : ∀ s : Later wr, s.u.cell? ⟨b0, 2, none⟩ = some (.slice (some ⟨b, off, none⟩) cl cc) := fun s => s.fr.cell cc1
          have := Later.some wr
          cases hgood : chB c
          · have HF : Hid (rowB chB Ch.o m.cs = false) := rowB_no hk2 (rowAt_bad hk2 (by rw [← HZ.out]; exact hgood))
            simp only [hgood] at cC
            have p0 : ∀ s : Later wr, s.u.cell? ⟨b, off + k * 5, none⟩ = some (.int .i64 c.o) := fun s => s.fr.cell d0
            have p1 : ∀ s : Later wr, s.u.cell? ⟨b, off + k * 5 + 1, none⟩ = some (.int .i64 c.cap) := fun s => s.fr.cell d1
            have p2 : ∀ s : Later wr, s.u.cell? ⟨b, off + k * 5 + 2, none⟩ = some (.int .i64 c.sent) := fun s => s.fr.cell d2
            have p3 : ∀ s : Later wr, s.u.cell? ⟨b, off + k * 5 + 3, none⟩ = some (.int .i64 c.got) := fun s => s.fr.cell d3
            have p4 : ∀ s : Later wr, s.u.cell? ⟨b, off + k * 5 + 4, none⟩ = some (.bool c.cl) := fun s => s.fr.cell d4
            clear hn hgood
            go_wp2_with fail
            refine wp_region_grown (by kernel_rfl) (by kernel_rfl) ?_
            repeat (go_big_quiet_step (with_reducible exact Calls.grown_of (cC _)))
            refine wpQuiet_nil ?_
            rintro _ ⟨s, rfl⟩
            go_wp2_with fail
            go_ret
            exact ⟨ret_bool (by rw [HRC.out, HT1.out, HF.out]; rfl), fW.trans s.fr⟩
          simp only [hgood] at cC
          cases k with
          | zero =>
            have HT : Hid (rowAt chB Ch.o m.cs 0 = true) := rowAt_zero hk2 (by rw [← HZ.out]; exact hgood)
            simp only [Nat.zero_mul, Nat.add_zero] at d0 d1 d2 d3 d4
            have p0 : ∀ s : Later wr, s.u.cell? ⟨b, off, none⟩ = some (.int .i64 c.o) := fun s => s.fr.cell d0
            have p1 : ∀ s : Later wr, s.u.cell? ⟨b, off + 1, none⟩ = some (.int .i64 c.cap) := fun s => s.fr.cell d1
            have p2 : ∀ s : Later wr, s.u.cell? ⟨b, off + 2, none⟩ = some (.int .i64 c.sent) := fun s => s.fr.cell d2
            have p3 : ∀ s : Later wr, s.u.cell? ⟨b, off + 3, none⟩ = some (.int .i64 c.got) := fun s => s.fr.cell d3
            have p4 : ∀ s : Later wr, s.u.cell? ⟨b, off + 4, none⟩ = some (.bool c.cl) := fun s => s.fr.cell d4
            clear hn hgood
            go_wp2_with fail
            have hd : decide ((0 : Int) < 0) = false := by decide
            refine wp_region_grown (by kernel_rfl) (by kernel_rfl) ?_
            repeat (go_big_quiet_step (with_reducible exact Calls.grown_of (cC _)))
            refine wpQuiet_nil ?_
            rintro _ ⟨s, rfl⟩
            go_wp2_with fail
            go_roundw
            case rel => exact ⟨1, by omega, by go_num, rowAt_next HA.out HT.out, hb0.keep s.fr (by simp), hR.fr s.fr, fW.trans s.fr⟩
            case measure => simp [intOf]; omega
          | succ k =>
            obtain ⟨b', off', e', t0, -⟩ := ch_at hR.chs k (by omega)
            simp only [Option.some.injEq, Addr.mk.injEq, and_true] at e'
            obtain ⟨rfl, rfl⟩ := e'
            obtain ⟨y, hy⟩ : ∃ y, y = (m.cs[k]'(by omega)).o := ⟨_, rfl⟩
            rw [← hy] at t0
            have HY : Hid (y = (m.cs[k]'(by omega)).o) := hy
            clear hy
            have hwk : IntKind.i64.wrap (((k + 1 : Nat) : Int) - 1) = (k : Int) := by rw [IntKind.wrap_i64]; omega
            have t1 : ∀ s : Later wr, s.u.cell? ⟨b, off + k * 5, none⟩ = some (.int .i64 y) := fun s => s.fr.cell t0
            have p0 : ∀ s : Later wr, s.u.cell? ⟨b, off + (k + 1) * 5, none⟩ = some (.int .i64 c.o) := fun s => s.fr.cell d0
            have p1 : ∀ s : Later wr, s.u.cell? ⟨b, off + (k + 1) * 5 + 1, none⟩ = some (.int .i64 c.cap) := fun s => s.fr.cell d1
            have p2 : ∀ s : Later wr, s.u.cell? ⟨b, off + (k + 1) * 5 + 2, none⟩ = some (.int .i64 c.sent) := fun s => s.fr.cell d2
            have p3 : ∀ s : Later wr, s.u.cell? ⟨b, off + (k + 1) * 5 + 3, none⟩ = some (.int .i64 c.got) := fun s => s.fr.cell d3
            have p4 : ∀ s : Later wr, s.u.cell? ⟨b, off + (k + 1) * 5 + 4, none⟩ = some (.bool c.cl) := fun s => s.fr.cell d4
            by_cases hle : c.o ≤ y
            · have HF : Hid (rowB chB Ch.o m.cs = false) := rowB_no hk2 (rowAt_down hk2 (by have := HY.out; rw [← HZ.out, ← HY.out]; omega))
              clear hn hgood HY
              go_wp2_with fail
              refine wp_region_grown (by kernel_rfl) (by kernel_rfl) ?_
              repeat (go_big_quiet_step (with_reducible exact Calls.grown_of (cC _)))
              refine wpQuiet_nil ?_
              rintro _ ⟨s, rfl⟩
              go_wp2_with fail
              go_ret
              exact ⟨ret_bool (by rw [HRC.out, HT1.out, HF.out]; rfl), fW.trans s.fr⟩
            · have HT : Hid (rowAt chB Ch.o m.cs (k + 1) = true) := rowAt_up hk2 (by rw [← HZ.out]; exact hgood) (by have := HY.out; rw [← HZ.out, ← HY.out]; omega)
              have hle' : y < c.o := by omega
              clear hn hgood HY
              go_wp2_with fail
              refine wp_region_grown (by kernel_rfl) (by kernel_rfl) ?_
              repeat (go_big_quiet_step (with_reducible exact Calls.grown_of (cC _)))
              refine wpQuiet_nil ?_
              rintro _ ⟨s, rfl⟩
              go_wp2_with fail
              go_roundw
              case rel => exact ⟨k + 2, by omega, by go_num, rowAt_next HA.out HT.out, hb0.keep s.fr (by simp), hR.fr s.fr, fW.trans s.fr⟩
              case measure => simp [intOf]; omega
        · have HT2 : Hid (rowB chB Ch.o m.cs = true) := rowB_yes (fun j hj => HA.out j (by omega))
          have ca := hb0.c0
          have cb := hb0.c2
          have cd := hb0.c3
          simp only at ca cb cd
          clear hn
          go_wp2_with fail
          clear ca cb cd HA hlt hk
          go_loopw [5] (fun i wr => ∃ k : Nat, k ≤ nl ∧ i = .int .i64 k ∧ Hid (∀ j, j < k → rowAt ctB Ct.o m.gs j = true) ∧ ScB wr b0 ⟨g, lo, ll, lc, co, cl, cc, no, nl, nc, oo, ol, oc⟩ ∧ ScR B wr ⟨g, lo, ll, lc, co, cl, cc, no, nl, nc, oo, ol, oc⟩ m ∧ Fr w wr) (fun i _ => nl - (intOf i).toNat)
          case atStart => exact ⟨0, Nat.zero_le _, rfl, fun j hj => by omega, hb0, hR, fW⟩
          case round =>
            clear hb0 hR fW
            obtain ⟨k, hk, rfl, HA, hb0, hR, fW⟩ := hrel
            have hn := hR.nl
            have hsl := hR.sn
            simp only at hn
            have hll : nl ≤ 1048576 := by omega
            by_cases hlt : k < nl
            · have hk2 : k < m.gs.length := by omega
              obtain ⟨b, off, rfl, d0, d1⟩ := ct_at hR.cts k hk2
              obtain ⟨c, hc⟩ : ∃ c, c = m.gs[k] := ⟨_, rfl⟩
              rw [← hc] at d0 d1
              have HZ : Hid (c = m.gs[k]) := hc
              have cO := fun w => l4Obj_any c.o w
              have cN := fun w => l1In_any c.n 1 1000000 w
              clear hc
              have cc0 := hb0.c0
              have cc1 := hb0.c3
              simp only at cc0 cc1
              have q0 : ∀ s : Later wr, s.u.cell? ⟨b0, 0, none⟩ = some (.int .i64 g) := fun s => s.fr.cell cc0
              have q1 : ∀ s : Later wr, s.u.cell? ⟨b0, 3, none⟩ = some (.slice (some ⟨b, off, none⟩) nl nc) := fun s => s.fr.cell cc1
              have := Later.some wr
              cases hg1 : inB 0 15 c.o
              · have HF : Hid (rowB ctB Ct.o m.gs = false) := rowB_no hk2 (rowAt_bad hk2 (by rw [← HZ.out, ctB, hg1]; rfl))
                first | simp only [hg2] at cN | simp only [hg1] at cO
                have p0 : ∀ s : Later wr, s.u.cell? ⟨b, off + k * 2, none⟩ = some (.int .i64 c.o) := fun s => s.fr.cell d0
                have p1 : ∀ s : Later wr, s.u.cell? ⟨b, off + k * 2 + 1, none⟩ = some (.int .i64 c.n) := fun s => s.fr.cell d1
                clear hn hg1
                go_wp2_with fail
                refine wp_region_grown (by kernel_rfl) (by kernel_rfl) ?_
                repeat (go_big_quiet_step (first | with_reducible exact Calls.grown_same (cO _) | with_reducible exact Calls.grown_same (cN _)))
                refine wpQuiet_nil ?_
                rintro _ ⟨s, rfl⟩
                go_wp2_with fail
                go_ret
                exact ⟨ret_bool (by rw [HRC.out, HT2.out, HT1.out, HF.out]; rfl), fW.trans s.fr⟩
              simp only [hg1] at cO
              cases hg2 : inB 1 1000000 c.n
              · have HF : Hid (rowB ctB Ct.o m.gs = false) := rowB_no hk2 (rowAt_bad hk2 (by rw [← HZ.out, ctB, hg1, hg2]; rfl))
                first | simp only [hg2] at cN | simp only [hg1] at cO
                have p0 : ∀ s : Later wr, s.u.cell? ⟨b, off + k * 2, none⟩ = some (.int .i64 c.o) := fun s => s.fr.cell d0
                have p1 : ∀ s : Later wr, s.u.cell? ⟨b, off + k * 2 + 1, none⟩ = some (.int .i64 c.n) := fun s => s.fr.cell d1
                clear hn hg1
                go_wp2_with fail
                refine wp_region_grown (by kernel_rfl) (by kernel_rfl) ?_
                repeat (go_big_quiet_step (first | with_reducible exact Calls.grown_same (cO _) | with_reducible exact Calls.grown_same (cN _)))
                refine wpQuiet_nil ?_
                rintro _ ⟨s, rfl⟩
                go_wp2_with fail
                go_ret
                exact ⟨ret_bool (by rw [HRC.out, HT2.out, HT1.out, HF.out]; rfl), fW.trans s.fr⟩
              simp only [hg2] at cN
              cases k with
              | zero =>
                have HT : Hid (rowAt ctB Ct.o m.gs 0 = true) := rowAt_zero hk2 (by rw [← HZ.out, ctB, hg1, hg2]; rfl)
                simp only [Nat.zero_mul, Nat.add_zero] at d0 d1
                have p0 : ∀ s : Later wr, s.u.cell? ⟨b, off, none⟩ = some (.int .i64 c.o) := fun s => s.fr.cell d0
                have p1 : ∀ s : Later wr, s.u.cell? ⟨b, off + 1, none⟩ = some (.int .i64 c.n) := fun s => s.fr.cell d1
                clear hn hg1
                go_wp2_with fail
                have hd : decide ((0 : Int) < 0) = false := by decide
                refine wp_region_grown (by kernel_rfl) (by kernel_rfl) ?_
                repeat (go_big_quiet_step (first | with_reducible exact Calls.grown_same (cO _) | with_reducible exact Calls.grown_same (cN _)))
                refine wpQuiet_nil ?_
                rintro _ ⟨s, rfl⟩
                go_wp2_with fail
                go_roundw
                case rel => exact ⟨1, by omega, by go_num, rowAt_next HA.out HT.out, hb0.keep s.fr (by simp), hR.fr s.fr, fW.trans s.fr⟩
                case measure => simp [intOf]; omega
              | succ k =>
                obtain ⟨b', off', e', t0, -⟩ := ct_at hR.cts k (by omega)
                simp only [Option.some.injEq, Addr.mk.injEq, and_true] at e'
                obtain ⟨rfl, rfl⟩ := e'
                obtain ⟨y, hy⟩ : ∃ y, y = (m.gs[k]'(by omega)).o := ⟨_, rfl⟩
                rw [← hy] at t0
                have HY : Hid (y = (m.gs[k]'(by omega)).o) := hy
                clear hy
                have hwk : IntKind.i64.wrap (((k + 1 : Nat) : Int) - 1) = (k : Int) := by rw [IntKind.wrap_i64]; omega
                have t1 : ∀ s : Later wr, s.u.cell? ⟨b, off + k * 2, none⟩ = some (.int .i64 y) := fun s => s.fr.cell t0
                have p0 : ∀ s : Later wr, s.u.cell? ⟨b, off + (k + 1) * 2, none⟩ = some (.int .i64 c.o) := fun s => s.fr.cell d0
                have p1 : ∀ s : Later wr, s.u.cell? ⟨b, off + (k + 1) * 2 + 1, none⟩ = some (.int .i64 c.n) := fun s => s.fr.cell d1
                by_cases hle : c.o ≤ y
                · have HF : Hid (rowB ctB Ct.o m.gs = false) := rowB_no hk2 (rowAt_down hk2 (by have := HY.out; rw [← HZ.out, ← HY.out]; omega))
                  clear hn hg1 HY
                  go_wp2_with fail
                  refine wp_region_grown (by kernel_rfl) (by kernel_rfl) ?_
                  repeat (go_big_quiet_step (first | with_reducible exact Calls.grown_same (cO _) | with_reducible exact Calls.grown_same (cN _)))
                  refine wpQuiet_nil ?_
                  rintro _ ⟨s, rfl⟩
                  go_wp2_with fail
                  go_ret
                  exact ⟨ret_bool (by rw [HRC.out, HT2.out, HT1.out, HF.out]; rfl), fW.trans s.fr⟩
                · have HT : Hid (rowAt ctB Ct.o m.gs (k + 1) = true) := rowAt_up hk2 (by rw [← HZ.out, ctB, hg1, hg2]; rfl) (by have := HY.out; rw [← HZ.out, ← HY.out]; omega)
                  have hle' : y < c.o := by omega
                  clear hn hg1 HY
                  go_wp2_with fail
                  refine wp_region_grown (by kernel_rfl) (by kernel_rfl) ?_
                  repeat (go_big_quiet_step (first | with_reducible exact Calls.grown_same (cO _) | with_reducible exact Calls.grown_same (cN _)))
                  refine wpQuiet_nil ?_
                  rintro _ ⟨s, rfl⟩
                  go_wp2_with fail
                  go_roundw
                  case rel => exact ⟨k + 2, by omega, by go_num, rowAt_next HA.out HT.out, hb0.keep s.fr (by simp), hR.fr s.fr, fW.trans s.fr⟩
                  case measure => simp [intOf]; omega
            · have HT3 : Hid (rowB ctB Ct.o m.gs = true) := rowB_yes (fun j hj => HA.out j (by omega))
              have ca := hb0.c0
              have cb := hb0.c3
              have cd := hb0.c4
              simp only at ca cb cd
              clear hn
              go_wp2_with fail
              clear ca cb cd HA hlt hk
              go_loopw [6] (fun i wr => ∃ k : Nat, k ≤ ol ∧ i = .int .i64 k ∧ Hid (∀ j, j < k → rowAt (inB 0 15) (fun x => x) m.os j = true) ∧ ScB wr b0 ⟨g, lo, ll, lc, co, cl, cc, no, nl, nc, oo, ol, oc⟩ ∧ ScR B wr ⟨g, lo, ll, lc, co, cl, cc, no, nl, nc, oo, ol, oc⟩ m ∧ Fr w wr) (fun i _ => ol - (intOf i).toNat)
              case atStart => exact ⟨0, Nat.zero_le _, rfl, fun j hj => by omega, hb0, hR, fW⟩
              case round =>
                clear hb0 hR fW
                obtain ⟨k, hk, rfl, HA, hb0, hR, fW⟩ := hrel
                have hn := hR.ol
                have hsl := hR.so
                simp only at hn
                have hll : ol ≤ 1048576 := by omega
                by_cases hlt : k < ol
                · have hk2 : k < m.os.length := by omega
                  obtain ⟨b, off, rfl, hc⟩ := hR.ons.at_ k hk2
                  have d0 := hc k hk2
                  rw [getD_at hk2] at d0
                  have HO : Hid (m.os[k] = m.os[k]) := rfl
                  obtain ⟨z, hz⟩ : ∃ z, z = m.os[k] := ⟨_, rfl⟩
                  rw [← hz] at d0
                  have HZ : Hid (z = m.os[k]) := hz
                  have cO := fun w => l4Obj_any z w
                  clear hz HO
                  have cc0 := hb0.c0
                  have cc1 := hb0.c4
                  simp only at cc0 cc1
                  have q0 : ∀ s : Later wr, s.u.cell? ⟨b0, 0, none⟩ = some (.int .i64 g) := fun s => s.fr.cell cc0
                  have q1 : ∀ s : Later wr, s.u.cell? ⟨b0, 4, none⟩ = some (.slice (some ⟨b, off, none⟩) ol oc) := fun s => s.fr.cell cc1
                  have := Later.some wr
                  cases hgood : inB 0 15 z
                  · have HF : Hid (rowB (inB 0 15) (fun x => x) m.os = false) := rowB_no hk2 (rowAt_bad hk2 (by rw [← HZ.out]; exact hgood))
                    simp only [hgood] at cO
                    have p0 : ∀ s : Later wr, s.u.cell? ⟨b, off + k, none⟩ = some (.int .i64 z) := fun s => s.fr.cell d0
                    clear hn hgood hc
                    go_wp2_with fail
                    refine wp_region_grown (by kernel_rfl) (by kernel_rfl) ?_
                    repeat (go_big_quiet_step (with_reducible exact Calls.grown_same (cO _)))
                    refine wpQuiet_nil ?_
                    rintro _ ⟨s, rfl⟩
                    go_wp2_with fail
                    go_ret
                    exact ⟨ret_bool (by rw [HRC.out, HT3.out, HT2.out, HT1.out, HF.out]; rfl), fW.trans s.fr⟩
                  simp only [hgood] at cO
                  cases k with
                  | zero =>
                    have HT : Hid (rowAt (inB 0 15) (fun x => x) m.os 0 = true) := rowAt_zero hk2 (by rw [← HZ.out]; exact hgood)
                    simp only [Nat.add_zero] at d0
                    have p0 : ∀ s : Later wr, s.u.cell? ⟨b, off, none⟩ = some (.int .i64 z) := fun s => s.fr.cell d0
                    clear hn hgood hc
                    go_wp2_with fail
                    have hd : decide ((0 : Int) < 0) = false := by decide
                    refine wp_region_grown (by kernel_rfl) (by kernel_rfl) ?_
                    repeat (go_big_quiet_step (with_reducible exact Calls.grown_same (cO _)))
                    refine wpQuiet_nil ?_
                    rintro _ ⟨s, rfl⟩
                    go_wp2_with fail
                    go_roundw
                    case rel => exact ⟨1, by omega, by go_num, rowAt_next HA.out HT.out, hb0.keep s.fr (by simp), hR.fr s.fr, fW.trans s.fr⟩
                    case measure => simp [intOf]; omega
                  | succ k =>
                    have t0 := hc k (by omega)
                    obtain ⟨y, hy⟩ : ∃ y, y = m.os.getD k 0 := ⟨_, rfl⟩
                    rw [← hy] at t0
                    rw [getD_at (show k < m.os.length by omega)] at hy
                    have HY : Hid (y = m.os[k]) := hy
                    clear hy
                    have hwk : IntKind.i64.wrap (((k + 1 : Nat) : Int) - 1) = (k : Int) := by rw [IntKind.wrap_i64]; omega
                    have t1 : ∀ s : Later wr, s.u.cell? ⟨b, off + k, none⟩ = some (.int .i64 y) := fun s => s.fr.cell t0
                    have p0 : ∀ s : Later wr, s.u.cell? ⟨b, off + (k + 1), none⟩ = some (.int .i64 z) := fun s => s.fr.cell d0
                    by_cases hle : z ≤ y
                    · have HF : Hid (rowB (inB 0 15) (fun x => x) m.os = false) := rowB_no hk2 (rowAt_down hk2 (by have := HZ.out; have := HY.out; omega))
                      clear hn hgood hc HY
                      go_wp2_with fail
                      refine wp_region_grown (by kernel_rfl) (by kernel_rfl) ?_
                      repeat (go_big_quiet_step (with_reducible exact Calls.grown_same (cO _)))
                      refine wpQuiet_nil ?_
                      rintro _ ⟨s, rfl⟩
                      go_wp2_with fail
                      go_ret
                      exact ⟨ret_bool (by rw [HRC.out, HT3.out, HT2.out, HT1.out, HF.out]; rfl), fW.trans s.fr⟩
                    · have HT : Hid (rowAt (inB 0 15) (fun x => x) m.os (k + 1) = true) := rowAt_up hk2 (by rw [← HZ.out]; exact hgood) (by have := HZ.out; have := HY.out; omega)
                      have hle' : y < z := by omega
                      clear hn hgood hc HY
                      go_wp2_with fail
                      refine wp_region_grown (by kernel_rfl) (by kernel_rfl) ?_
                      repeat (go_big_quiet_step (with_reducible exact Calls.grown_same (cO _)))
                      refine wpQuiet_nil ?_
                      rintro _ ⟨s, rfl⟩
                      go_wp2_with fail
                      go_roundw
                      case rel => exact ⟨k + 2, by omega, by go_num, rowAt_next HA.out HT.out, hb0.keep s.fr (by simp), hR.fr s.fr, fW.trans s.fr⟩
                      case measure => simp [intOf]; omega
                · have HT4 : Hid (rowB (inB 0 15) (fun x => x) m.os = true) := rowB_yes (fun j hj => HA.out j (by omega))
                  have ca := hb0.c4
                  simp only at ca
                  go_wp2_with fail
                  go_ret
                  exact ⟨ret_bool (by rw [HRC.out, HT4.out, HT3.out, HT2.out, HT1.out]; rfl), fW⟩
end Go.Proofs.YtikjodbboljhjaaDoor
/-
  The program's locksOk, chansOk, groupsOk and SceneOk.
-/
namespace Go.Proofs.YtikjodbboljhjaaDoor
open Go.RowKit

/-- A lock as the program asks: a writer and no readers, or readers that rise and no writer. -/
def lk2 (g : Int) (l : Lk) : Bool := (decide (l.rd.length = 0) && inB 0 (g - 1) l.wr) || (decide (0 < l.rd.length) && (l.wr == -1) && upFrom (g - 1) (-1) l.rd)
def ch2 (c : Ch) : Bool := inB 0 8 c.cap && inB 0 1000000 c.sent && inB 0 c.sent c.got && decide (c.sent - c.got ≤ c.cap)
theorem all_take {α : Type} {p : α → Bool} {xs : List α} (h : ∀ j (hj : j < xs.length), p xs[j] = true) : xs.all p = true := by
  rw [List.all_eq_true]
  intro x hx
  obtain ⟨j, hj, rfl⟩ := List.mem_iff_getElem.1 hx
  exact h j hj
theorem all_bad {α : Type} {p : α → Bool} {xs : List α} {k : Nat} (hk : k < xs.length) (h : p xs[k] = false) : xs.all p = false := by
  rw [List.all_eq_false]
  exact ⟨xs[k], List.getElem_mem hk, by simp [h]⟩
theorem upto_good {α : Type} {p : α → Bool} {xs : List α} {k : Nat} (h : ∀ j (hj : j < xs.length), j < k → p xs[j] = true) (hk : k < xs.length) (he : p xs[k] = true) : ∀ j (hj : j < xs.length), j < k + 1 → p xs[j] = true := by
  intro j hj hjk
  by_cases e : j = k
  · subst e; exact he
  · exact h j hj (by omega)

end Go.Proofs.YtikjodbboljhjaaDoor
/-
  The program's locksOk and SceneOk; both SceneOks answer the same.
-/
namespace Go.Proofs.YtikjodbboljhjaaDoor
open Go.RowKit

theorem lvs_o {B : Nat → Prop} {w : World} {lvs : List Lv} {ls : List Lk} (h : LksR B w lvs ls) : lvs.map Lv.o = ls.map Lk.o := by
  apply List.ext_getElem
  · simpa using h.len
  · intro j h1 h2
    simp only [List.length_map] at h1 h2
    simp only [List.getElem_map]
    exact (h.at_ j h1 h2).o

/-- What the program asks of a scene. -/
def scB2 (m : Scn) : Bool := inB 1 16 m.g && ((m.ls.all (lk2 m.g) && upFrom 15 (-1) (m.ls.map Lk.o)) && ((m.cs.all ch2 && upFrom 15 (-1) (m.cs.map Ch.o)) && ((m.gs.all (fun c => inB 1 1000000 c.n) && upFrom 15 (-1) (m.gs.map Ct.o)) && upFrom 15 (-1) m.os)))

theorem upFrom_iff (most : Int) (xs : List Int) : ∀ last, upFrom most last xs = true ↔ (∀ x ∈ xs, last < x ∧ x ≤ most) ∧ xs.Pairwise (· < ·) := by
  induction xs with
  | nil => intro last; simp [upFrom]
  | cons x xs ih =>
    intro last
    rw [upFrom, Bool.and_eq_true, Bool.and_eq_true, decide_eq_true_eq, decide_eq_true_eq, ih x, List.pairwise_cons]
    constructor
    · rintro ⟨⟨h1, h2⟩, h3, h4⟩
      refine ⟨fun y hy => ?_, fun y hy => (h3 y hy).1, h4⟩
      rcases List.mem_cons.1 hy with rfl | hy
      · exact ⟨h1, h2⟩
      · have := h3 y hy; exact ⟨by omega, this.2⟩
    · rintro ⟨h1, h2, h3⟩
      have hx := h1 x (List.mem_cons_self ..)
      exact ⟨hx, fun y hy => ⟨h2 y hy, (h1 y (List.mem_cons_of_mem _ hy)).2⟩, h3⟩
theorem adj_iff {α : Type} (o : α → Int) (xs : List α) : (∀ j (hj : j + 1 < xs.length), o xs[j] < o xs[j + 1]) ↔ (xs.map o).Pairwise (· < ·) := by
  rw [List.pairwise_iff_getElem]
  constructor
  · intro h i j hi hj hij
    simp only [List.length_map] at hi hj
    simp only [List.getElem_map]
    induction j with
    | zero => omega
    | succ j ih =>
      have h1 := h j hj
      by_cases e : i = j
      · subst e; exact h1
      · have := ih (by omega) (by omega); omega
  · intro h j hj
    have := h j (j + 1) (by simp; omega) (by simpa using hj) (by omega)
    simpa using this
theorem rowB_iff {α : Type} (p : α → Bool) (o : α → Int) (xs : List α) : rowB p o xs = true ↔ (∀ x ∈ xs, p x = true) ∧ (xs.map o).Pairwise (· < ·) := by
  rw [← adj_iff]
  constructor
  · intro h
    refine ⟨fun x hx => ?_, fun j hj => ?_⟩
    · obtain ⟨j, hj, rfl⟩ := List.mem_iff_getElem.1 hx
      rw [rowB, List.all_eq_true] at h
      have := h j (List.mem_range.2 hj)
      cases hp : p xs[j] with
      | true => rfl
      | false => rw [rowAt_bad hj hp] at this; cases this
    · rw [rowB, List.all_eq_true] at h
      have h2 := h (j + 1) (List.mem_range.2 hj)
      by_cases hle : o xs[j + 1] ≤ o xs[j]
      · rw [rowAt_down hj hle] at h2; cases h2
      · omega
  · rintro ⟨h1, h2⟩
    refine rowB_yes fun j hj => ?_
    cases j with
    | zero => exact rowAt_zero hj (h1 _ (List.getElem_mem hj))
    | succ j => exact rowAt_up hj (h1 _ (List.getElem_mem hj)) (h2 j hj)
theorem rdB_iff (g : Int) (xs : List Int) : rdB g xs = true ↔ (∀ x ∈ xs, 0 ≤ x ∧ x ≤ g - 1) ∧ xs.Pairwise (· < ·) := by
  have hm : xs.map (fun x => x) = xs := by simp
  have ha := adj_iff (fun x : Int => x) xs
  rw [hm] at ha
  rw [← ha]
  constructor
  · intro h
    rw [rdB, List.all_eq_true] at h
    have h1 : ∀ j (hj : j < xs.length), (0 ≤ xs[j] ∧ xs[j] ≤ g - 1) ∧ (0 < j → xs.getD (j - 1) 0 < xs[j]) := by
      intro j hj
      have h2 := h j (List.mem_range.2 hj)
      unfold rdAt at h2
      simp only [Bool.and_eq_true, Bool.or_eq_true, decide_eq_true_eq, getD_at hj] at h2
      refine ⟨inB_true h2.1, fun h0 => ?_⟩
      rcases h2.2 with h4 | h4
      · omega
      · exact h4
    refine ⟨fun x hx => ?_, fun j hj => ?_⟩
    · obtain ⟨j, hj, rfl⟩ := List.mem_iff_getElem.1 hx
      exact (h1 j hj).1
    · have := (h1 (j + 1) hj).2 (by omega)
      rwa [Nat.add_sub_cancel, getD_at (by omega)] at this
  · rintro ⟨h1, h2⟩
    refine rdB_yes fun j hj => ?_
    have h3 := h1 _ (List.getElem_mem hj)
    unfold rdAt
    rw [getD_at hj, inB_mk h3.1 h3.2]
    cases j with
    | zero => simp
    | succ j =>
      have := h2 j hj
      rw [Nat.add_sub_cancel, getD_at (by omega), decide_eq_true this]
      simp
theorem lk_iff {g : Int} (l : Lk) : lkB g l = true ↔ lk2 g l = true ∧ 0 ≤ l.o ∧ l.o ≤ 15 := by
  unfold lkB lk2
  simp only [Bool.and_eq_true, Bool.or_eq_true, decide_eq_true_eq, Bool.not_eq_true', beq_eq_false_iff_ne, beq_iff_eq, rdB_iff, upFrom_iff, inB, ne_eq, decide_eq_decide]
  constructor
  · rintro ⟨⟨h1, h2⟩, ⟨h3, h4⟩, ⟨h5, h6⟩, h7⟩
    refine ⟨?_, h3, h4⟩
    by_cases h8 : l.rd.length = 0
    · exact .inl ⟨h8, by omega, h6⟩
    · exact .inr ⟨⟨by omega, by omega⟩, fun x hx => ⟨by have := h1 x hx; omega, (h1 x hx).2⟩, h2⟩
  · rintro ⟨h1 | h1, h3, h4⟩
    · obtain ⟨h5, h6, h7⟩ := h1
      have hn : l.rd = [] := List.eq_nil_of_length_eq_zero h5
      refine ⟨⟨?_, ?_⟩, ⟨h3, h4⟩, ⟨by omega, h7⟩, by omega⟩
      · rw [hn]; simp
      · rw [hn]; exact List.Pairwise.nil
    · obtain ⟨⟨h5, h6⟩, h7, h8⟩ := h1
      obtain ⟨x, hx⟩ := List.exists_mem_of_length_pos h5
      have := h7 x hx
      exact ⟨⟨fun x hx => ⟨by have := h7 x hx; omega, (h7 x hx).2⟩, h8⟩, ⟨h3, h4⟩, ⟨by omega, by omega⟩, by omega⟩
theorem ch_iff (c : Ch) : chB c = true ↔ ch2 c = true ∧ 0 ≤ c.o ∧ c.o ≤ 15 := by
  unfold chB ch2
  simp only [Bool.and_eq_true, decide_eq_true_eq, inB]
  constructor
  · rintro ⟨h1, h2, h3, h4, h5⟩
    exact ⟨⟨⟨⟨h2, h3⟩, h4⟩, by omega⟩, h1⟩
  · rintro ⟨⟨⟨⟨h2, h3⟩, h4⟩, h5⟩, h1⟩
    exact ⟨h1, h2, h3, h4, by omega⟩
theorem ct_iff (c : Ct) : ctB c = true ↔ inB 1 1000000 c.n = true ∧ 0 ≤ c.o ∧ c.o ≤ 15 := by
  unfold ctB
  simp only [Bool.and_eq_true, decide_eq_true_eq, inB]
  constructor
  · rintro ⟨h1, h2⟩; exact ⟨h2, h1⟩
  · rintro ⟨h1, h2⟩; exact ⟨h2, h1⟩
theorem row_iff {α : Type} (p q : α → Bool) (o : α → Int) (xs : List α) (h : ∀ x, p x = true ↔ q x = true ∧ 0 ≤ o x ∧ o x ≤ 15) : rowB p o xs = (xs.all q && upFrom 15 (-1) (xs.map o)) := by
  rw [Bool.eq_iff_iff, rowB_iff, Bool.and_eq_true, List.all_eq_true, upFrom_iff]
  constructor
  · rintro ⟨h1, h2⟩
    refine ⟨fun x hx => ((h x).1 (h1 x hx)).1, fun y hy => ?_, h2⟩
    obtain ⟨x, hx, rfl⟩ := List.mem_map.1 hy
    have := ((h x).1 (h1 x hx)).2
    exact ⟨by omega, this.2⟩
  · rintro ⟨h1, h2, h3⟩
    refine ⟨fun x hx => (h x).2 ⟨h1 x hx, ?_⟩, h3⟩
    have := h2 (o x) (List.mem_map.2 ⟨x, hx, rfl⟩)
    exact ⟨by omega, this.2⟩
theorem scB_same (m : Scn) : scB2 m = scB m := by
  unfold scB2 scB
  rw [row_iff (lkB m.g) (lk2 m.g) Lk.o m.ls lk_iff, row_iff chB ch2 Ch.o m.cs ch_iff, row_iff ctB (fun c => inB 1 1000000 c.n) Ct.o m.gs ct_iff]
  have h5 : rowB (inB 0 15) (fun x => x) m.os = upFrom 15 (-1) m.os := by
    rw [row_iff (inB 0 15) (fun _ => true) (fun x => x) m.os (fun x => by simp [inB])]
    simp
  rw [h5]
end Go.Proofs.YtikjodbboljhjaaDoor
/-
  The program's SceneOk answers as the specification's.
-/
namespace Go.Proofs.YtikjodbboljhjaaDoor
open Go.RowKit

end Go.Proofs.YtikjodbboljhjaaDoor
/-
  The scene with one goroutine: NewScene of the specification.
-/
namespace Go.Proofs.YtikjodbboljhjaaDoor
open Go.RowKit

def scn0 : Scn := ⟨1, [], [], [], []⟩
theorem inB_none (B : Nat → Prop) : InB B none := fun b hb => by simp [blk] at hb
theorem scR_new (B : Nat → Prop) (w : World) : ScR B w ⟨1, none, 0, 0, none, 0, 0, none, 0, 0, none, 0, 0⟩ scn0 where
  g := rfl
  ig := ⟨by decide, by decide⟩
  lks := ⟨[], ReadsG.nil _ _ _, rfl, LksR.nil _ _⟩
  chs := ReadsG.nil _ _ _
  cl := rfl
  cts := ReadsG.nil _ _ _
  nl := rfl
  ons := Reads.nil _ _
  ol := rfl
  bl := inB_none _
  bc := inB_none _
  bn := inB_none _
  bo := inB_none _
  zo _ := rfl
  sl := by simp [scn0]
  sc := by simp [scn0]
  sn := by simp [scn0]
  so := by simp [scn0]
  ic c hc := by simp [scn0] at hc
  inn c hc := by simp [scn0] at hc

theorem newScene_any (B : Nat → Prop) (w : World) :
    Calls Tryd.prog 17 #[] w fun e w' => ∃ s : Sv, e = .returned (.agg #[.int .i64 s.g, .slice s.lo s.ll s.lc, .slice s.co s.cl s.cc, .slice s.no s.nl s.nc, .slice s.oo s.ol s.oc]) ∧ ScR B w' s scn0 ∧ Fr w w' := by
  go_enter Tryd.func17, Tryd.ntmps17
  go_wp2
  refine bodyPost_ret (v := .agg #[.int .i64 1, .slice none 0 0, .slice none 0 0, .slice none 0 0, .slice none 0 0]) (by simp [results, Tryd.results17, go_sem]) rfl ⟨⟨1, none, 0, 0, none, 0, 0, none, 0, 0, none, 0, 0⟩, rfl, scR_new _ _, Fr.alloc _ _⟩
end Go.Proofs.YtikjodbboljhjaaDoor
/-
  What can be done in a scene, and what comes of it: the model.
-/
namespace Go.Proofs.YtikjodbboljhjaaDoor
open Go.RowKit

def lockCode (m : Scn) (e : Ev) : Int :=
  if e.k = 2 then (if 0 ≤ (lockOf m.ls e.o).wr ∨ 0 < (lockOf m.ls e.o).rd.length then 3 else 0)
  else if e.k = 4 then (if 0 ≤ (lockOf m.ls e.o).wr ∨ memB (lockOf m.ls e.o).rd e.g = true then 3 else 0)
  else if e.k = 3 then (if (lockOf m.ls e.o).wr = e.g then 0 else 4)
  else if e.k = 5 then (if memB (lockOf m.ls e.o).rd e.g = true then 0 else 4)
  else 0
def chanCode (m : Scn) (e : Ev) : Int :=
  if isChan m.cs e.o = decide (e.k = 6) then 5
  else if ((e.k = 7 ∨ e.k = 8) ∧ (chanOf m.cs e.o).cap = 0) ∨ (e.k = 9 ∧ (chanOf m.cs e.o).cap ≠ 0) then 5
  else if ((e.k = 7 ∨ e.k = 9 ∨ e.k = 10) ∧ (chanOf m.cs e.o).cl = true) ∨ (e.k = 11 ∧ (chanOf m.cs e.o).cl = false) then 6
  else if e.k = 7 ∧ (chanOf m.cs e.o).sent - (chanOf m.cs e.o).got = (chanOf m.cs e.o).cap then 7
  else if (e.k = 8 ∧ (chanOf m.cs e.o).sent = (chanOf m.cs e.o).got) ∨ (e.k = 11 ∧ (chanOf m.cs e.o).sent ≠ (chanOf m.cs e.o).got) then 8
  else if e.k = 7 ∧ (chanOf m.cs e.o).sent = 1000000 then 9
  else 0
/-- Gor, Obj of a go, With of a meeting: is one of them no goroutine that it can be? -/
def gorBad (m : Scn) (e : Ev) : Prop := m.g ≤ e.g ∨ (e.k = 1 ∧ e.o ≠ m.g) ∨ (e.k = 9 ∧ (m.g ≤ e.w ∨ e.w = e.g))
instance (m : Scn) (e : Ev) : Decidable (gorBad m e) := by unfold gorBad; exact inferInstance
def restCode (m : Scn) (e : Ev) : Int :=
  if 2 ≤ e.k ∧ e.k ≤ 5 then lockCode m e
  else if 6 ≤ e.k ∧ e.k ≤ 11 then chanCode m e
  else if e.k = 13 then (if countOf m.gs e.o = 0 then 9 else 0)
  else if e.k = 14 then (if countOf m.gs e.o = 0 then 0 else 9)
  else if e.k = 12 then (if 1000000 < countOf m.gs e.o + e.s then 9 else 0)
  else if e.k = 15 ∨ e.k = 16 then (if memB m.os e.o = decide (e.k = 15) then 10 else 0)
  else 0
def codeIn (m : Scn) (e : Ev) : Int :=
  if evOk e = false ∨ scB m = false then 1 else if gorBad m e then 2 else restCode m e

/-- One put in its place in a list that rises by key: in the place of the one that has it, if there is one. -/
def setS {α : Type} (key : α → Int) (x : α) (a : List α × Bool) (y : α) : List α × Bool :=
  let a1 := if !a.2 && decide (key x ≤ key y) then (a.1 ++ [x], true) else a
  if key y = key x then a1 else (a1.1 ++ [y], a1.2)
def setP {α : Type} (key : α → Int) (x : α) (put : Bool) (xs : List α) : List α × Bool := xs.foldl (setS key x) ([], put)
def setL {α : Type} (key : α → Int) (x : α) (put : Bool) (xs : List α) : List α := if (setP key x put xs).2 then (setP key x put xs).1 else (setP key x put xs).1 ++ [x]
theorem setP_step {α : Type} (key : α → Int) (x : α) (put : Bool) (xs : List α) (k : Nat) (hk : k < xs.length) : setP key x put (xs.take (k + 1)) = setS key x (setP key x put (xs.take k)) xs[k] := by
  rw [setP, List.take_succ_eq_append_getElem hk, List.foldl_append]
  rfl
/-- The four ways of a round. -/
theorem setS_in {α : Type} {key : α → Int} {x y : α} {out : List α} (h : key x < key y) : setS key x (out, false) y = (out ++ [x] ++ [y], true) := by
  unfold setS
  have h1 : key x ≤ key y := by omega
  have h2 : ¬ key y = key x := by omega
  simp [h1, h2]
theorem setS_at {α : Type} {key : α → Int} {x y : α} {out : List α} (h : key y = key x) : setS key x (out, false) y = (out ++ [x], true) := by
  unfold setS
  simp [h]
theorem setS_on {α : Type} {key : α → Int} {x y : α} {out : List α} (h : key y < key x) : setS key x (out, false) y = (out ++ [y], false) := by
  unfold setS
  have h1 : ¬ key x ≤ key y := by omega
  have h2 : ¬ key y = key x := by omega
  simp [h1, h2]
theorem setS_by {α : Type} {key : α → Int} {x y : α} {out : List α} (h : key y = key x) : setS key x (out, true) y = (out, true) := by
  unfold setS
  simp [h]
theorem setS_go {α : Type} {key : α → Int} {x y : α} {out : List α} (h : key y ≠ key x) : setS key x (out, true) y = (out ++ [y], true) := by
  unfold setS
  simp [h]
theorem setS_len {α : Type} (key : α → Int) (x : α) (a : List α × Bool) (y : α) : (setS key x a y).1.length ≤ a.1.length + 2 := by
  unfold setS
  dsimp only
  split <;> split <;> simp
theorem setP_len {α : Type} (key : α → Int) (x : α) (put : Bool) (xs : List α) (k : Nat) (hk : k ≤ xs.length) : (setP key x put (xs.take k)).1.length ≤ 2 * k := by
  induction k with
  | zero => simp [setP]
  | succ k ih =>
    have := ih (by omega)
    have h2 := setS_len key x (setP key x put (xs.take k)) (xs[k]'(by omega))
    rw [setP_step key x put xs k (by omega)]
    omega

/-- A channel after an event; a lock after one. -/
def chanTo (m : Scn) (e : Ev) : Ch :=
  if e.k = 6 then { chanOf m.cs e.o with cap := e.s }
  else if e.k = 7 then { chanOf m.cs e.o with sent := (chanOf m.cs e.o).sent + 1 }
  else if e.k = 8 then { chanOf m.cs e.o with got := (chanOf m.cs e.o).got + 1 }
  else { chanOf m.cs e.o with cl := true }
def lockTo (m : Scn) (e : Ev) : Lk :=
  if e.k = 2 then { lockOf m.ls e.o with wr := e.g }
  else if e.k = 3 then { lockOf m.ls e.o with wr := -1 }
  else if e.k = 4 then { lockOf m.ls e.o with rd := withL (lockOf m.ls e.o).rd e.g }
  else { lockOf m.ls e.o with rd := outL (lockOf m.ls e.o).rd e.g }
/-- Nobody has it. -/
def lkFree (l : Lk) : Bool := decide (l.wr < 0) && decide (l.rd.length = 0)
def setLk (m : Scn) (l : Lk) : Scn := { m with ls := setL Lk.o l (lkFree l) m.ls }
def setCh (m : Scn) (c : Ch) : Scn := { m with cs := setL Ch.o c false m.cs }
def setCt (m : Scn) (o n : Int) : Scn := { m with gs := setL Ct.o ⟨o, n⟩ (n == 0) m.gs }
/-- What an event makes of a scene. -/
def doS (m : Scn) (e : Ev) : Scn :=
  if e.k = 1 then { m with g := m.g + 1 }
  else if 2 ≤ e.k ∧ e.k ≤ 5 then setLk m (lockTo m e)
  else if 6 ≤ e.k ∧ e.k ≤ 8 ∨ e.k = 10 then setCh m (chanTo m e)
  else if e.k = 12 then setCt m e.o (countOf m.gs e.o + e.s)
  else if e.k = 13 then setCt m e.o (countOf m.gs e.o - 1)
  else if e.k = 15 then { m with os := withL m.os e.o }
  else m
end Go.Proofs.YtikjodbboljhjaaDoor
/-
  The laws' own copy of an event.
-/
namespace Go.Proofs.YtikjodbboljhjaaDoor
open Go.RowKit

/-- An event's eight cells. -/
def EvAt (w : World) (b : Nat) (e : Ev) : Prop :=
  w.cell? ⟨b, 0, none⟩ = some (.int .i64 e.k) ∧ w.cell? ⟨b, 1, none⟩ = some (.int .i64 e.g) ∧ w.cell? ⟨b, 2, none⟩ = some (.int .i64 e.o) ∧ w.cell? ⟨b, 3, none⟩ = some (.int .i64 e.w) ∧ w.cell? ⟨b, 4, none⟩ = some (.int .i64 e.l) ∧ w.cell? ⟨b, 5, none⟩ = some (.int .i64 e.s) ∧ w.cell? ⟨b, 6, none⟩ = some (.int .i64 e.f) ∧ w.cell? ⟨b, 7, none⟩ = some (.int .i64 e.t)
theorem EvAt.fr {w w' : World} {b : Nat} {e : Ev} (h : EvAt w b e) (k : Fr w w') : EvAt w' b e := by
  obtain ⟨c0, c1, c2, c3, c4, c5, c6, c7⟩ := h
  exact ⟨k.cell c0, k.cell c1, k.cell c2, k.cell c3, k.cell c4, k.cell c5, k.cell c6, k.cell c7⟩
theorem EvAt.new (w : World) (e : Ev) (t : TypeId) : EvAt (w.alloc (.cells #[.int .i64 e.k, .int .i64 e.g, .int .i64 e.o, .int .i64 e.w, .int .i64 e.l, .int .i64 e.s, .int .i64 e.f, .int .i64 e.t] t)) w.heap.size e := by
  refine ⟨?_, ?_, ?_, ?_, ?_, ?_, ?_, ?_⟩ <;> rw [cell_of_row _ _ _ _ _ _ (heap_alloc_new w _)] <;> rfl

set_option maxHeartbeats 1000000 in
theorem toEvent_any (e : Ev) (w : World) :
    Calls Tryd.prog 13 #[.agg #[.int .i64 e.k, .int .i64 e.g, .int .i64 e.o, .int .i64 e.w, .int .i64 e.l, .int .i64 e.s, .int .i64 e.f, .int .i64 e.t]] w fun x w' => x = .returned (.agg #[.int .i64 e.k, .int .i64 e.g, .int .i64 e.o, .int .i64 e.w, .int .i64 e.l, .int .i64 e.s, .int .i64 e.f, .int .i64 e.t]) ∧ Fr w w' := by
  obtain ⟨k, g, o, wi, l, sz, f, t⟩ := e
  simp only
  go_enter Tryd.func13, Tryd.ntmps13
  go_wp2_with fail
  refine bodyPost_ret (v := .agg #[.int .i64 k, .int .i64 g, .int .i64 o, .int .i64 wi, .int .i64 l, .int .i64 sz, .int .i64 f, .int .i64 t]) (by simp [results, Tryd.results13, go_sem]) rfl ⟨rfl, ?_⟩
  exact ((Fr.alloc _ _).trans (Fr.alloc _ _)).trans (Fr.alloc _ _)

/-- An event that lies in a block of its own. -/
def EvB (w : World) (b : Nat) (e : Ev) : Prop := w.heap[b]? = some (.cells #[.int .i64 e.k, .int .i64 e.g, .int .i64 e.o, .int .i64 e.w, .int .i64 e.l, .int .i64 e.s, .int .i64 e.f, .int .i64 e.t] 38 (0, 0))

theorem EvB.lt {w : World} {b : Nat} {e : Ev} (h : EvB w b e) : b < w.heap.size := (Array.getElem?_eq_some_iff.1 h).1
theorem EvB.keep {w w' : World} {b : Nat} {e : Ev} {row : Option Nat} (h : EvB w b e) (k : w.grownBy w' row) (hr : row ≠ some b) : EvB w' b e := (k.block b h.lt (fun q => hr q.symm)).trans h
theorem EvB.new (w : World) (e : Ev) : EvB (w.alloc (.cells #[.int .i64 e.k, .int .i64 e.g, .int .i64 e.o, .int .i64 e.w, .int .i64 e.l, .int .i64 e.s, .int .i64 e.f, .int .i64 e.t] 38)) w.heap.size e := heap_alloc_new w _
theorem EvB.at {w : World} {b : Nat} {e : Ev} (h : EvB w b e) : EvAt w b e := by
  refine ⟨?_, ?_, ?_, ?_, ?_, ?_, ?_, ?_⟩ <;> rw [cell_of_row _ _ _ _ _ _ h] <;> rfl
theorem EvB.free {w : World} {b : Nat} {e : Ev} (h : EvB w b e) (i : Nat) : w.frozen? ⟨b, i, none⟩ = false := frozen_of_row w b i _ _ h
theorem EvB.setK {w : World} {b : Nat} {e : Ev} (h : EvB w b e) (x : Int) : EvB (w.setCell ⟨b, 0, none⟩ (.int .i64 x)) b { e with k := x } := by
  have h1 := heap_setCell_same w b 0 _ _ (.int .i64 x) h
  exact h1
theorem EvB.setG {w : World} {b : Nat} {e : Ev} (h : EvB w b e) (x : Int) : EvB (w.setCell ⟨b, 1, none⟩ (.int .i64 x)) b { e with g := x } := by
  have h1 := heap_setCell_same w b 1 _ _ (.int .i64 x) h
  exact h1
theorem EvB.setO {w : World} {b : Nat} {e : Ev} (h : EvB w b e) (x : Int) : EvB (w.setCell ⟨b, 2, none⟩ (.int .i64 x)) b { e with o := x } := by
  have h1 := heap_setCell_same w b 2 _ _ (.int .i64 x) h
  exact h1
theorem EvB.setW {w : World} {b : Nat} {e : Ev} (h : EvB w b e) (x : Int) : EvB (w.setCell ⟨b, 3, none⟩ (.int .i64 x)) b { e with w := x } := by
  have h1 := heap_setCell_same w b 3 _ _ (.int .i64 x) h
  exact h1
theorem EvB.setL {w : World} {b : Nat} {e : Ev} (h : EvB w b e) (x : Int) : EvB (w.setCell ⟨b, 4, none⟩ (.int .i64 x)) b { e with l := x } := by
  have h1 := heap_setCell_same w b 4 _ _ (.int .i64 x) h
  exact h1
theorem EvB.setS {w : World} {b : Nat} {e : Ev} (h : EvB w b e) (x : Int) : EvB (w.setCell ⟨b, 5, none⟩ (.int .i64 x)) b { e with s := x } := by
  have h1 := heap_setCell_same w b 5 _ _ (.int .i64 x) h
  exact h1
theorem EvB.setF {w : World} {b : Nat} {e : Ev} (h : EvB w b e) (x : Int) : EvB (w.setCell ⟨b, 6, none⟩ (.int .i64 x)) b { e with f := x } := by
  have h1 := heap_setCell_same w b 6 _ _ (.int .i64 x) h
  exact h1
theorem EvB.setT {w : World} {b : Nat} {e : Ev} (h : EvB w b e) (x : Int) : EvB (w.setCell ⟨b, 7, none⟩ (.int .i64 x)) b { e with t := x } := by
  have h1 := heap_setCell_same w b 7 _ _ (.int .i64 x) h
  exact h1
end Go.Proofs.YtikjodbboljhjaaDoor
