/-
  Pack AL: ScIs.
-/
import Derived.Test.YtcofhmikdkkigaaGreatDoorPfAF
namespace Go.Proofs.YtcofhmikdkkigaaGreatDoor
open Go.RowKit

set_option maxRecDepth 20000 in
set_option maxHeartbeats 3000000 in
theorem sceneOk_any {B : Nat → Prop} (s : Sv) (m : Scn) (w : World) (h : ScR B w s m) :
    Calls Tryz.prog 16 #[.agg #[.int .i64 s.g, .slice s.lo s.ll s.lc, .slice s.co s.cl s.cc, .slice s.no s.nl s.nc, .slice s.oo s.ol s.oc]] w fun e w' => e = .returned (.bool (scB m)) ∧ Fr w w' := by
  have hb0 := ScB.new w s
  have hR := h.fr (Fr.alloc w (.cells #[.int .i64 s.g, .slice s.lo s.ll s.lc, .slice s.co s.cl s.cc, .slice s.no s.nl s.nc, .slice s.oo s.ol s.oc] 29))
  have fW := Fr.alloc w (.cells #[.int .i64 s.g, .slice s.lo s.ll s.lc, .slice s.co s.cl s.cc, .slice s.no s.nl s.nc, .slice s.oo s.ol s.oc] 29)
  obtain ⟨g, lo, ll, lc, co, cl, cc, no, nl, nc, oo, ol, oc⟩ := s
  have eg := h.g
  simp only at eg hb0 hR fW ⊢
  have c0 := hb0.c0
  simp only at c0
  unfold scB
  obtain ⟨RC, hRC⟩ : ∃ RC, RC = (rowB chB Ch.o m.cs && (rowB ctB Ct.o m.gs && rowB (inB 0 15) (fun x => x) m.os)) := ⟨_, rfl⟩
  rw [← hRC]
  have HRC : Hid (RC = (rowB chB Ch.o m.cs && (rowB ctB Ct.o m.gs && rowB (inB 0 15) (fun x => x) m.os))) := hRC
  clear hRC
  rw [← eg]
  have HG : Hid (g = m.g) := eg
  clear eg
  cases hg : inB 1 16 g
  · go_enter Tryz.func16, Tryz.ntmps16
    go_wp2_with (go_at_call 60; refine (l1In_any _ _ _ _).mono ?_; rintro e w' ⟨rfl, rfl⟩)
    go_ret
    exact ⟨rfl, fW⟩
  have gr := inB_true hg
  go_enter Tryz.func16, Tryz.ntmps16
  go_wp2_with (go_at_call 60; refine (l1In_any _ _ _ _).mono ?_; rintro e w' ⟨rfl, rfl⟩)
  clear c0 hg h
  obtain ⟨W, hW⟩ : ∃ W, W = w.alloc (.cells #[.int .i64 g, .slice lo ll lc, .slice co cl cc, .slice no nl nc, .slice oo ol oc] 29) := ⟨_, rfl⟩
  rw [← hW] at hb0 hR fW ⊢
  obtain ⟨b0, hbb⟩ : ∃ b0, b0 = w.heap.size := ⟨_, rfl⟩
  rw [← hbb] at hb0 ⊢
  clear hW hbb
  go_loopw [3] (fun i wr => ∃ k : Nat, k ≤ ll ∧ i = .int .i64 k ∧ Hid (∀ j, j < k → rowAt (lkB g) Lk.o m.ls j = true) ∧ ScB wr b0 ⟨g, lo, ll, lc, co, cl, cc, no, nl, nc, oo, ol, oc⟩ ∧ ScR B wr ⟨g, lo, ll, lc, co, cl, cc, no, nl, nc, oo, ol, oc⟩ m ∧ Fr w wr) (fun i _ => ll - (intOf i).toNat)
  case atStart => exact ⟨0, Nat.zero_le _, rfl, fun j hj => by omega, hb0, hR, fW⟩
  case round =>
    clear hb0 hR fW
    obtain ⟨k, hk, rfl, HA, hb0, hR, fW⟩ := hrel
    obtain ⟨lvs, hr, hn, hL⟩ := hR.lks
    have hsl := hR.sl
    have hlen := hL.len
    simp only at hr hn
    have hll : ll ≤ 1048576 := by omega
    by_cases hlt : k < ll
    · have hk2 : k < m.ls.length := by omega
      have hk1 : k < lvs.length := by omega
      obtain ⟨b, off, rfl, d0, d1, d2⟩ := lv_at hr k hk1
      have hLk := hL.at_ k hk1 hk2
      have HO : Hid (lvs[k].o = m.ls[k].o) := hLk.o
      have cL := fun (s : Later wr) => l4Lock_any g lvs[k] m.ls[k] s.u gr.1 gr.2 (hLk.fr s.fr)
      obtain ⟨lv, hlv⟩ : ∃ lv, lv = lvs[k] := ⟨_, rfl⟩
      simp only [← hlv] at d0 d1 d2 HO cL
      clear hlv hLk
      have cc0 := hb0.c0
      have cc1 := hb0.c1
      simp only at cc0 cc1
      have q0 : ∀ s : Later wr, s.u.cell? ⟨b0, 0, none⟩ = some (.int .i64 g) := fun s => s.fr.cell cc0
      have q1 : ∀ s : Later wr, s.u.cell? ⟨b0, 1, none⟩ = some (.slice (some ⟨b, off, none⟩) ll lc) := fun s => s.fr.cell cc1
      have := Later.some wr
      cases hgood : lkB g m.ls[k]
      · have HF : Hid (rowB (lkB g) Lk.o m.ls = false) := rowB_no hk2 (rowAt_bad hk2 (hgood))
        simp only [hgood] at cL
        have p0 : ∀ s : Later wr, s.u.cell? ⟨b, off + k * 3, none⟩ = some (.int .i64 lv.o) := fun s => s.fr.cell d0
        have p1 : ∀ s : Later wr, s.u.cell? ⟨b, off + k * 3 + 1, none⟩ = some (.int .i64 lv.wr) := fun s => s.fr.cell d1
        have p2 : ∀ s : Later wr, s.u.cell? ⟨b, off + k * 3 + 2, none⟩ = some (.slice lv.ro lv.rn lv.rc) := fun s => s.fr.cell d2
        clear hn hlen hgood hr
        go_wp2_with fail
        refine wp_region_grown (by kernel_rfl) (by kernel_rfl) ?_
        repeat (go_big_quiet_step (with_reducible exact Calls.grown_of (cL _)))
        refine wpQuiet_nil ?_
        rintro _ ⟨s, rfl⟩
        go_wp2_with fail
        go_ret
        exact ⟨ret_bool (by rw [HF.out]; rfl), fW.trans s.fr⟩
      simp only [hgood] at cL
      cases k with
      | zero =>
        have HT : Hid (rowAt (lkB g) Lk.o m.ls 0 = true) := rowAt_zero hk2 (by exact hgood)
        simp only [Nat.zero_mul, Nat.add_zero] at d0 d1 d2
        have p0 : ∀ s : Later wr, s.u.cell? ⟨b, off, none⟩ = some (.int .i64 lv.o) := fun s => s.fr.cell d0
        have p1 : ∀ s : Later wr, s.u.cell? ⟨b, off + 1, none⟩ = some (.int .i64 lv.wr) := fun s => s.fr.cell d1
        have p2 : ∀ s : Later wr, s.u.cell? ⟨b, off + 2, none⟩ = some (.slice lv.ro lv.rn lv.rc) := fun s => s.fr.cell d2
        clear hn hlen hgood hr
        go_wp2_with fail
        have hd : decide ((0 : Int) < 0) = false := by decide
        refine wp_region_grown (by kernel_rfl) (by kernel_rfl) ?_
        repeat (go_big_quiet_step (with_reducible exact Calls.grown_of (cL _)))
        refine wpQuiet_nil ?_
        rintro _ ⟨s, rfl⟩
        go_wp2_with fail
        go_roundw
        case rel => exact ⟨1, by omega, by go_num, rowAt_next HA.out HT.out, hb0.keep s.fr (by simp), hR.fr s.fr, fW.trans s.fr⟩
        case measure => simp [intOf]; omega
      | succ k =>
        obtain ⟨b', off', e', t0, -, -⟩ := lv_at hr k (by omega)
        simp only [Option.some.injEq, Addr.mk.injEq, and_true] at e'
        obtain ⟨rfl, rfl⟩ := e'
        have HY : Hid (lvs[k].o = m.ls[k].o) := (hL.at_ k (by omega) (by omega)).o
        obtain ⟨y, hy⟩ : ∃ y, y = lvs[k].o := ⟨_, rfl⟩
        rw [← hy] at t0 HY
        clear hy
        have hwk : IntKind.i64.wrap (((k + 1 : Nat) : Int) - 1) = (k : Int) := by rw [IntKind.wrap_i64]; omega
        have t1 : ∀ s : Later wr, s.u.cell? ⟨b, off + k * 3, none⟩ = some (.int .i64 y) := fun s => s.fr.cell t0
        have p0 : ∀ s : Later wr, s.u.cell? ⟨b, off + (k + 1) * 3, none⟩ = some (.int .i64 lv.o) := fun s => s.fr.cell d0
        have p1 : ∀ s : Later wr, s.u.cell? ⟨b, off + (k + 1) * 3 + 1, none⟩ = some (.int .i64 lv.wr) := fun s => s.fr.cell d1
        have p2 : ∀ s : Later wr, s.u.cell? ⟨b, off + (k + 1) * 3 + 2, none⟩ = some (.slice lv.ro lv.rn lv.rc) := fun s => s.fr.cell d2
        by_cases hle : lv.o ≤ y
        · have HF : Hid (rowB (lkB g) Lk.o m.ls = false) := rowB_no hk2 (rowAt_down hk2 (by have := HO.out; have := HY.out; omega))
          clear hn hlen hgood hr HY
          go_wp2_with fail
          refine wp_region_grown (by kernel_rfl) (by kernel_rfl) ?_
          repeat (go_big_quiet_step (with_reducible exact Calls.grown_of (cL _)))
          refine wpQuiet_nil ?_
          rintro _ ⟨s, rfl⟩
          go_wp2_with fail
          go_ret
          exact ⟨ret_bool (by rw [HF.out]; rfl), fW.trans s.fr⟩
        · have HT : Hid (rowAt (lkB g) Lk.o m.ls (k + 1) = true) := rowAt_up hk2 (by exact hgood) (by have := HO.out; have := HY.out; omega)
          have hle' : y < lv.o := by omega
          clear hn hlen hgood hr HY
          go_wp2_with fail
          refine wp_region_grown (by kernel_rfl) (by kernel_rfl) ?_
          repeat (go_big_quiet_step (with_reducible exact Calls.grown_of (cL _)))
          refine wpQuiet_nil ?_
          rintro _ ⟨s, rfl⟩
          go_wp2_with fail
          go_roundw
          case rel => exact ⟨k + 2, by omega, by go_num, rowAt_next HA.out HT.out, hb0.keep s.fr (by simp), hR.fr s.fr, fW.trans s.fr⟩
          case measure => simp [intOf]; omega
    · have HT1 : Hid (rowB (lkB g) Lk.o m.ls = true) := rowB_yes (fun j hj => HA.out j (by omega))
      have ca := hb0.c0
      have cb := hb0.c1
      have cd := hb0.c2
      simp only at ca cb cd
      clear hr hn hL hlen
      go_wp2_with fail
      clear ca cb cd HA hlt hk
      go_loopw [4] (fun i wr => ∃ k : Nat, k ≤ cl ∧ i = .int .i64 k ∧ Hid (∀ j, j < k → rowAt chB Ch.o m.cs j = true) ∧ ScB wr b0 ⟨g, lo, ll, lc, co, cl, cc, no, nl, nc, oo, ol, oc⟩ ∧ ScR B wr ⟨g, lo, ll, lc, co, cl, cc, no, nl, nc, oo, ol, oc⟩ m ∧ Fr w wr) (fun i _ => cl - (intOf i).toNat)
      case atStart => exact ⟨0, Nat.zero_le _, rfl, fun j hj => by omega, hb0, hR, fW⟩
      case round =>
        clear hb0 hR fW
        obtain ⟨k, hk, rfl, HA, hb0, hR, fW⟩ := hrel
        have hn := hR.cl
        have hsl := hR.sc
        simp only at hn
        have hll : cl ≤ 1048576 := by omega
        by_cases hlt : k < cl
        · have hk2 : k < m.cs.length := by omega
          obtain ⟨b, off, rfl, d0, d1, d2, d3, d4⟩ := ch_at hR.chs k hk2
          obtain ⟨c, hc⟩ : ∃ c, c = m.cs[k] := ⟨_, rfl⟩
          rw [← hc] at d0 d1 d2 d3 d4
          have HZ : Hid (c = m.cs[k]) := hc
          have cC := fun w => l4Chan_any c w
          clear hc
          have cc0 := hb0.c0
          have cc1 := hb0.c2
          simp only at cc0 cc1
          have q0 : ∀ s : Later wr, s.u.cell? ⟨b0, 0, none⟩ = some (.int .i64 g) := fun s => s.fr.cell cc0
          have q1 : ∀ s : Later wr, s.u.cell? ⟨b0, 2, none⟩ = some (.slice (some ⟨b, off, none⟩) cl cc) := fun s => s.fr.cell cc1
          have := Later.some wr
          cases hgood : chB c
          · have HF : Hid (rowB chB Ch.o m.cs = false) := rowB_no hk2 (rowAt_bad hk2 (by rw [← HZ.out]; exact hgood))
            simp only [hgood] at cC
            have p0 : ∀ s : Later wr, s.u.cell? ⟨b, off + k * 5, none⟩ = some (.int .i64 c.o) := fun s => s.fr.cell d0
            have p1 : ∀ s : Later wr, s.u.cell? ⟨b, off + k * 5 + 1, none⟩ = some (.int .i64 c.cap) := fun s => s.fr.cell d1
            have p2 : ∀ s : Later wr, s.u.cell? ⟨b, off + k * 5 + 2, none⟩ = some (.int .i64 c.sent) := fun s => s.fr.cell d2
            have p3 : ∀ s : Later wr, s.u.cell? ⟨b, off + k * 5 + 3, none⟩ = some (.int .i64 c.got) := fun s => s.fr.cell d3
            have p4 : ∀ s : Later wr, s.u.cell? ⟨b, off + k * 5 + 4, none⟩ = some (.bool c.cl) := fun s => s.fr.cell d4
            clear hn hgood
            go_wp2_with fail
            refine wp_region_grown (by kernel_rfl) (by kernel_rfl) ?_
            repeat (go_big_quiet_step (with_reducible exact Calls.grown_of (cC _)))
            refine wpQuiet_nil ?_
            rintro _ ⟨s, rfl⟩
            go_wp2_with fail
            go_ret
            exact ⟨ret_bool (by rw [HRC.out, HT1.out, HF.out]; rfl), fW.trans s.fr⟩
          simp only [hgood] at cC
          cases k with
          | zero =>
            have HT : Hid (rowAt chB Ch.o m.cs 0 = true) := rowAt_zero hk2 (by rw [← HZ.out]; exact hgood)
            simp only [Nat.zero_mul, Nat.add_zero] at d0 d1 d2 d3 d4
            have p0 : ∀ s : Later wr, s.u.cell? ⟨b, off, none⟩ = some (.int .i64 c.o) := fun s => s.fr.cell d0
            have p1 : ∀ s : Later wr, s.u.cell? ⟨b, off + 1, none⟩ = some (.int .i64 c.cap) := fun s => s.fr.cell d1
            have p2 : ∀ s : Later wr, s.u.cell? ⟨b, off + 2, none⟩ = some (.int .i64 c.sent) := fun s => s.fr.cell d2
            have p3 : ∀ s : Later wr, s.u.cell? ⟨b, off + 3, none⟩ = some (.int .i64 c.got) := fun s => s.fr.cell d3
            have p4 : ∀ s : Later wr, s.u.cell? ⟨b, off + 4, none⟩ = some (.bool c.cl) := fun s => s.fr.cell d4
            clear hn hgood
            go_wp2_with fail
            have hd : decide ((0 : Int) < 0) = false := by decide
            refine wp_region_grown (by kernel_rfl) (by kernel_rfl) ?_
            repeat (go_big_quiet_step (with_reducible exact Calls.grown_of (cC _)))
            refine wpQuiet_nil ?_
            rintro _ ⟨s, rfl⟩
            go_wp2_with fail
            go_roundw
            case rel => exact ⟨1, by omega, by go_num, rowAt_next HA.out HT.out, hb0.keep s.fr (by simp), hR.fr s.fr, fW.trans s.fr⟩
            case measure => simp [intOf]; omega
          | succ k =>
            obtain ⟨b', off', e', t0, -⟩ := ch_at hR.chs k (by omega)
            simp only [Option.some.injEq, Addr.mk.injEq, and_true] at e'
            obtain ⟨rfl, rfl⟩ := e'
            obtain ⟨y, hy⟩ : ∃ y, y = (m.cs[k]'(by omega)).o := ⟨_, rfl⟩
            rw [← hy] at t0
            have HY : Hid (y = (m.cs[k]'(by omega)).o) := hy
            clear hy
            have hwk : IntKind.i64.wrap (((k + 1 : Nat) : Int) - 1) = (k : Int) := by rw [IntKind.wrap_i64]; omega
            have t1 : ∀ s : Later wr, s.u.cell? ⟨b, off + k * 5, none⟩ = some (.int .i64 y) := fun s => s.fr.cell t0
            have p0 : ∀ s : Later wr, s.u.cell? ⟨b, off + (k + 1) * 5, none⟩ = some (.int .i64 c.o) := fun s => s.fr.cell d0
            have p1 : ∀ s : Later wr, s.u.cell? ⟨b, off + (k + 1) * 5 + 1, none⟩ = some (.int .i64 c.cap) := fun s => s.fr.cell d1
            have p2 : ∀ s : Later wr, s.u.cell? ⟨b, off + (k + 1) * 5 + 2, none⟩ = some (.int .i64 c.sent) := fun s => s.fr.cell d2
            have p3 : ∀ s : Later wr, s.u.cell? ⟨b, off + (k + 1) * 5 + 3, none⟩ = some (.int .i64 c.got) := fun s => s.fr.cell d3
            have p4 : ∀ s : Later wr, s.u.cell? ⟨b, off + (k + 1) * 5 + 4, none⟩ = some (.bool c.cl) := fun s => s.fr.cell d4
            by_cases hle : c.o ≤ y
            · have HF : Hid (rowB chB Ch.o m.cs = false) := rowB_no hk2 (rowAt_down hk2 (by have := HY.out; rw [← HZ.out, ← HY.out]; omega))
              clear hn hgood HY
              go_wp2_with fail
              refine wp_region_grown (by kernel_rfl) (by kernel_rfl) ?_
              repeat (go_big_quiet_step (with_reducible exact Calls.grown_of (cC _)))
              refine wpQuiet_nil ?_
              rintro _ ⟨s, rfl⟩
              go_wp2_with fail
              go_ret
              exact ⟨ret_bool (by rw [HRC.out, HT1.out, HF.out]; rfl), fW.trans s.fr⟩
            · have HT : Hid (rowAt chB Ch.o m.cs (k + 1) = true) := rowAt_up hk2 (by rw [← HZ.out]; exact hgood) (by have := HY.out; rw [← HZ.out, ← HY.out]; omega)
              have hle' : y < c.o := by omega
              clear hn hgood HY
              go_wp2_with fail
              refine wp_region_grown (by kernel_rfl) (by kernel_rfl) ?_
              repeat (go_big_quiet_step (with_reducible exact Calls.grown_of (cC _)))
              refine wpQuiet_nil ?_
              rintro _ ⟨s, rfl⟩
              go_wp2_with fail
              go_roundw
              case rel => exact ⟨k + 2, by omega, by go_num, rowAt_next HA.out HT.out, hb0.keep s.fr (by simp), hR.fr s.fr, fW.trans s.fr⟩
              case measure => simp [intOf]; omega
        · have HT2 : Hid (rowB chB Ch.o m.cs = true) := rowB_yes (fun j hj => HA.out j (by omega))
          have ca := hb0.c0
          have cb := hb0.c2
          have cd := hb0.c3
          simp only at ca cb cd
          clear hn
          go_wp2_with fail
          clear ca cb cd HA hlt hk
          go_loopw [5] (fun i wr => ∃ k : Nat, k ≤ nl ∧ i = .int .i64 k ∧ Hid (∀ j, j < k → rowAt ctB Ct.o m.gs j = true) ∧ ScB wr b0 ⟨g, lo, ll, lc, co, cl, cc, no, nl, nc, oo, ol, oc⟩ ∧ ScR B wr ⟨g, lo, ll, lc, co, cl, cc, no, nl, nc, oo, ol, oc⟩ m ∧ Fr w wr) (fun i _ => nl - (intOf i).toNat)
          case atStart => exact ⟨0, Nat.zero_le _, rfl, fun j hj => by omega, hb0, hR, fW⟩
          case round =>
            clear hb0 hR fW
            obtain ⟨k, hk, rfl, HA, hb0, hR, fW⟩ := hrel
            have hn := hR.nl
            have hsl := hR.sn
            simp only at hn
            have hll : nl ≤ 1048576 := by omega
            by_cases hlt : k < nl
            · have hk2 : k < m.gs.length := by omega
              obtain ⟨b, off, rfl, d0, d1⟩ := ct_at hR.cts k hk2
              obtain ⟨c, hc⟩ : ∃ c, c = m.gs[k] := ⟨_, rfl⟩
              rw [← hc] at d0 d1
              have HZ : Hid (c = m.gs[k]) := hc
              have cO := fun w => l4Obj_any c.o w
              have cN := fun w => l1In_any c.n 1 1000000 w
              clear hc
              have cc0 := hb0.c0
              have cc1 := hb0.c3
              simp only at cc0 cc1
              have q0 : ∀ s : Later wr, s.u.cell? ⟨b0, 0, none⟩ = some (.int .i64 g) := fun s => s.fr.cell cc0
              have q1 : ∀ s : Later wr, s.u.cell? ⟨b0, 3, none⟩ = some (.slice (some ⟨b, off, none⟩) nl nc) := fun s => s.fr.cell cc1
              have := Later.some wr
              cases hg1 : inB 0 15 c.o
              · have HF : Hid (rowB ctB Ct.o m.gs = false) := rowB_no hk2 (rowAt_bad hk2 (by rw [← HZ.out, ctB, hg1]; rfl))
                first | simp only [hg2] at cN | simp only [hg1] at cO
                have p0 : ∀ s : Later wr, s.u.cell? ⟨b, off + k * 2, none⟩ = some (.int .i64 c.o) := fun s => s.fr.cell d0
                have p1 : ∀ s : Later wr, s.u.cell? ⟨b, off + k * 2 + 1, none⟩ = some (.int .i64 c.n) := fun s => s.fr.cell d1
                clear hn hg1
                go_wp2_with fail
                refine wp_region_grown (by kernel_rfl) (by kernel_rfl) ?_
                repeat (go_big_quiet_step (first | with_reducible exact Calls.grown_same (cO _) | with_reducible exact Calls.grown_same (cN _)))
                refine wpQuiet_nil ?_
                rintro _ ⟨s, rfl⟩
                go_wp2_with fail
                go_ret
                exact ⟨ret_bool (by rw [HRC.out, HT2.out, HT1.out, HF.out]; rfl), fW.trans s.fr⟩
              simp only [hg1] at cO
              cases hg2 : inB 1 1000000 c.n
              · have HF : Hid (rowB ctB Ct.o m.gs = false) := rowB_no hk2 (rowAt_bad hk2 (by rw [← HZ.out, ctB, hg1, hg2]; rfl))
                first | simp only [hg2] at cN | simp only [hg1] at cO
                have p0 : ∀ s : Later wr, s.u.cell? ⟨b, off + k * 2, none⟩ = some (.int .i64 c.o) := fun s => s.fr.cell d0
                have p1 : ∀ s : Later wr, s.u.cell? ⟨b, off + k * 2 + 1, none⟩ = some (.int .i64 c.n) := fun s => s.fr.cell d1
                clear hn hg1
                go_wp2_with fail
                refine wp_region_grown (by kernel_rfl) (by kernel_rfl) ?_
                repeat (go_big_quiet_step (first | with_reducible exact Calls.grown_same (cO _) | with_reducible exact Calls.grown_same (cN _)))
                refine wpQuiet_nil ?_
                rintro _ ⟨s, rfl⟩
                go_wp2_with fail
                go_ret
                exact ⟨ret_bool (by rw [HRC.out, HT2.out, HT1.out, HF.out]; rfl), fW.trans s.fr⟩
              simp only [hg2] at cN
              cases k with
              | zero =>
                have HT : Hid (rowAt ctB Ct.o m.gs 0 = true) := rowAt_zero hk2 (by rw [← HZ.out, ctB, hg1, hg2]; rfl)
                simp only [Nat.zero_mul, Nat.add_zero] at d0 d1
                have p0 : ∀ s : Later wr, s.u.cell? ⟨b, off, none⟩ = some (.int .i64 c.o) := fun s => s.fr.cell d0
                have p1 : ∀ s : Later wr, s.u.cell? ⟨b, off + 1, none⟩ = some (.int .i64 c.n) := fun s => s.fr.cell d1
                clear hn hg1
                go_wp2_with fail
                have hd : decide ((0 : Int) < 0) = false := by decide
                refine wp_region_grown (by kernel_rfl) (by kernel_rfl) ?_
                repeat (go_big_quiet_step (first | with_reducible exact Calls.grown_same (cO _) | with_reducible exact Calls.grown_same (cN _)))
                refine wpQuiet_nil ?_
                rintro _ ⟨s, rfl⟩
                go_wp2_with fail
                go_roundw
                case rel => exact ⟨1, by omega, by go_num, rowAt_next HA.out HT.out, hb0.keep s.fr (by simp), hR.fr s.fr, fW.trans s.fr⟩
                case measure => simp [intOf]; omega
              | succ k =>
                obtain ⟨b', off', e', t0, -⟩ := ct_at hR.cts k (by omega)
                simp only [Option.some.injEq, Addr.mk.injEq, and_true] at e'
                obtain ⟨rfl, rfl⟩ := e'
                obtain ⟨y, hy⟩ : ∃ y, y = (m.gs[k]'(by omega)).o := ⟨_, rfl⟩
                rw [← hy] at t0
                have HY : Hid (y = (m.gs[k]'(by omega)).o) := hy
                clear hy
                have hwk : IntKind.i64.wrap (((k + 1 : Nat) : Int) - 1) = (k : Int) := by rw [IntKind.wrap_i64]; omega
                have t1 : ∀ s : Later wr, s.u.cell? ⟨b, off + k * 2, none⟩ = some (.int .i64 y) := fun s => s.fr.cell t0
                have p0 : ∀ s : Later wr, s.u.cell? ⟨b, off + (k + 1) * 2, none⟩ = some (.int .i64 c.o) := fun s => s.fr.cell d0
                have p1 : ∀ s : Later wr, s.u.cell? ⟨b, off + (k + 1) * 2 + 1, none⟩ = some (.int .i64 c.n) := fun s => s.fr.cell d1
                by_cases hle : c.o ≤ y
                · have HF : Hid (rowB ctB Ct.o m.gs = false) := rowB_no hk2 (rowAt_down hk2 (by have := HY.out; rw [← HZ.out, ← HY.out]; omega))
                  clear hn hg1 HY
                  go_wp2_with fail
                  refine wp_region_grown (by kernel_rfl) (by kernel_rfl) ?_
                  repeat (go_big_quiet_step (first | with_reducible exact Calls.grown_same (cO _) | with_reducible exact Calls.grown_same (cN _)))
                  refine wpQuiet_nil ?_
                  rintro _ ⟨s, rfl⟩
                  go_wp2_with fail
                  go_ret
                  exact ⟨ret_bool (by rw [HRC.out, HT2.out, HT1.out, HF.out]; rfl), fW.trans s.fr⟩
                · have HT : Hid (rowAt ctB Ct.o m.gs (k + 1) = true) := rowAt_up hk2 (by rw [← HZ.out, ctB, hg1, hg2]; rfl) (by have := HY.out; rw [← HZ.out, ← HY.out]; omega)
                  have hle' : y < c.o := by omega
                  clear hn hg1 HY
                  go_wp2_with fail
                  refine wp_region_grown (by kernel_rfl) (by kernel_rfl) ?_
                  repeat (go_big_quiet_step (first | with_reducible exact Calls.grown_same (cO _) | with_reducible exact Calls.grown_same (cN _)))
                  refine wpQuiet_nil ?_
                  rintro _ ⟨s, rfl⟩
                  go_wp2_with fail
                  go_roundw
                  case rel => exact ⟨k + 2, by omega, by go_num, rowAt_next HA.out HT.out, hb0.keep s.fr (by simp), hR.fr s.fr, fW.trans s.fr⟩
                  case measure => simp [intOf]; omega
            · have HT3 : Hid (rowB ctB Ct.o m.gs = true) := rowB_yes (fun j hj => HA.out j (by omega))
              have ca := hb0.c0
              have cb := hb0.c3
              have cd := hb0.c4
              simp only at ca cb cd
              clear hn
              go_wp2_with fail
              clear ca cb cd HA hlt hk
              go_loopw [6] (fun i wr => ∃ k : Nat, k ≤ ol ∧ i = .int .i64 k ∧ Hid (∀ j, j < k → rowAt (inB 0 15) (fun x => x) m.os j = true) ∧ ScB wr b0 ⟨g, lo, ll, lc, co, cl, cc, no, nl, nc, oo, ol, oc⟩ ∧ ScR B wr ⟨g, lo, ll, lc, co, cl, cc, no, nl, nc, oo, ol, oc⟩ m ∧ Fr w wr) (fun i _ => ol - (intOf i).toNat)
              case atStart => exact ⟨0, Nat.zero_le _, rfl, fun j hj => by omega, hb0, hR, fW⟩
              case round =>
                clear hb0 hR fW
                obtain ⟨k, hk, rfl, HA, hb0, hR, fW⟩ := hrel
                have hn := hR.ol
                have hsl := hR.so
                simp only at hn
                have hll : ol ≤ 1048576 := by omega
                by_cases hlt : k < ol
                · have hk2 : k < m.os.length := by omega
                  obtain ⟨b, off, rfl, hc⟩ := hR.ons.at_ k hk2
                  have d0 := hc k hk2
                  rw [getD_at hk2] at d0
                  have HO : Hid (m.os[k] = m.os[k]) := rfl
                  obtain ⟨z, hz⟩ : ∃ z, z = m.os[k] := ⟨_, rfl⟩
                  rw [← hz] at d0
                  have HZ : Hid (z = m.os[k]) := hz
                  have cO := fun w => l4Obj_any z w
                  clear hz HO
                  have cc0 := hb0.c0
                  have cc1 := hb0.c4
                  simp only at cc0 cc1
                  have q0 : ∀ s : Later wr, s.u.cell? ⟨b0, 0, none⟩ = some (.int .i64 g) := fun s => s.fr.cell cc0
                  have q1 : ∀ s : Later wr, s.u.cell? ⟨b0, 4, none⟩ = some (.slice (some ⟨b, off, none⟩) ol oc) := fun s => s.fr.cell cc1
                  have := Later.some wr
                  cases hgood : inB 0 15 z
                  · have HF : Hid (rowB (inB 0 15) (fun x => x) m.os = false) := rowB_no hk2 (rowAt_bad hk2 (by rw [← HZ.out]; exact hgood))
                    simp only [hgood] at cO
                    have p0 : ∀ s : Later wr, s.u.cell? ⟨b, off + k, none⟩ = some (.int .i64 z) := fun s => s.fr.cell d0
                    clear hn hgood hc
                    go_wp2_with fail
                    refine wp_region_grown (by kernel_rfl) (by kernel_rfl) ?_
                    repeat (go_big_quiet_step (with_reducible exact Calls.grown_same (cO _)))
                    refine wpQuiet_nil ?_
                    rintro _ ⟨s, rfl⟩
                    go_wp2_with fail
                    go_ret
                    exact ⟨ret_bool (by rw [HRC.out, HT3.out, HT2.out, HT1.out, HF.out]; rfl), fW.trans s.fr⟩
                  simp only [hgood] at cO
                  cases k with
                  | zero =>
                    have HT : Hid (rowAt (inB 0 15) (fun x => x) m.os 0 = true) := rowAt_zero hk2 (by rw [← HZ.out]; exact hgood)
                    simp only [Nat.add_zero] at d0
                    have p0 : ∀ s : Later wr, s.u.cell? ⟨b, off, none⟩ = some (.int .i64 z) := fun s => s.fr.cell d0
                    clear hn hgood hc
                    go_wp2_with fail
                    have hd : decide ((0 : Int) < 0) = false := by decide
                    refine wp_region_grown (by kernel_rfl) (by kernel_rfl) ?_
                    repeat (go_big_quiet_step (with_reducible exact Calls.grown_same (cO _)))
                    refine wpQuiet_nil ?_
                    rintro _ ⟨s, rfl⟩
                    go_wp2_with fail
                    go_roundw
                    case rel => exact ⟨1, by omega, by go_num, rowAt_next HA.out HT.out, hb0.keep s.fr (by simp), hR.fr s.fr, fW.trans s.fr⟩
                    case measure => simp [intOf]; omega
                  | succ k =>
                    have t0 := hc k (by omega)
                    obtain ⟨y, hy⟩ : ∃ y, y = m.os.getD k 0 := ⟨_, rfl⟩
                    rw [← hy] at t0
                    rw [getD_at (show k < m.os.length by omega)] at hy
                    have HY : Hid (y = m.os[k]) := hy
                    clear hy
                    have hwk : IntKind.i64.wrap (((k + 1 : Nat) : Int) - 1) = (k : Int) := by rw [IntKind.wrap_i64]; omega
                    have t1 : ∀ s : Later wr, s.u.cell? ⟨b, off + k, none⟩ = some (.int .i64 y) := fun s => s.fr.cell t0
                    have p0 : ∀ s : Later wr, s.u.cell? ⟨b, off + (k + 1), none⟩ = some (.int .i64 z) := fun s => s.fr.cell d0
                    by_cases hle : z ≤ y
                    · have HF : Hid (rowB (inB 0 15) (fun x => x) m.os = false) := rowB_no hk2 (rowAt_down hk2 (by have := HZ.out; have := HY.out; omega))
                      clear hn hgood hc HY
                      go_wp2_with fail
                      refine wp_region_grown (by kernel_rfl) (by kernel_rfl) ?_
                      repeat (go_big_quiet_step (with_reducible exact Calls.grown_same (cO _)))
                      refine wpQuiet_nil ?_
                      rintro _ ⟨s, rfl⟩
                      go_wp2_with fail
                      go_ret
                      exact ⟨ret_bool (by rw [HRC.out, HT3.out, HT2.out, HT1.out, HF.out]; rfl), fW.trans s.fr⟩
                    · have HT : Hid (rowAt (inB 0 15) (fun x => x) m.os (k + 1) = true) := rowAt_up hk2 (by rw [← HZ.out]; exact hgood) (by have := HZ.out; have := HY.out; omega)
                      have hle' : y < z := by omega
                      clear hn hgood hc HY
                      go_wp2_with fail
                      refine wp_region_grown (by kernel_rfl) (by kernel_rfl) ?_
                      repeat (go_big_quiet_step (with_reducible exact Calls.grown_same (cO _)))
                      refine wpQuiet_nil ?_
                      rintro _ ⟨s, rfl⟩
                      go_wp2_with fail
                      go_roundw
                      case rel => exact ⟨k + 2, by omega, by go_num, rowAt_next HA.out HT.out, hb0.keep s.fr (by simp), hR.fr s.fr, fW.trans s.fr⟩
                      case measure => simp [intOf]; omega
                · have HT4 : Hid (rowB (inB 0 15) (fun x => x) m.os = true) := rowB_yes (fun j hj => HA.out j (by omega))
                  have ca := hb0.c4
                  simp only at ca
                  go_wp2_with fail
                  go_ret
                  exact ⟨ret_bool (by rw [HRC.out, HT4.out, HT3.out, HT2.out, HT1.out]; rfl), fW⟩
end Go.Proofs.YtcofhmikdkkigaaGreatDoor
