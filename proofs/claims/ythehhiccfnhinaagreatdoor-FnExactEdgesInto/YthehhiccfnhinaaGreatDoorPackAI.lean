/-
  Is a scene right: SceneOk of the specification.
-/
import Derived.Test.YthehhiccfnhinaaGreatDoorPackAB
import Derived.Test.YthehhiccfnhinaaGreatDoorPackAC
import Derived.Test.YthehhiccfnhinaaGreatDoorPackAH
namespace Go.Proofs.YthehhiccfnhinaaGreatDoor
open Go.RowKit

set_option maxRecDepth 20000 in
set_option maxHeartbeats 3000000 in
theorem sceneOk_any {B : Nat → Prop} (s : Sv) (m : Scn) (w : World) (h : ScR B w s m) :
    Calls Tryz.prog 17 #[.agg #[.int .i64 s.g, .slice s.lo s.ll s.lc, .slice s.co s.cl s.cc, .slice s.no s.nl s.nc, .slice s.oo s.ol s.oc]] w fun e w' => e = .returned (.bool (scB m)) ∧ Fr w w' := by
  have hb0 := ScB.new w s
  have hR := h.fr (Fr.alloc w (.cells #[.int .i64 s.g, .slice s.lo s.ll s.lc, .slice s.co s.cl s.cc, .slice s.no s.nl s.nc, .slice s.oo s.ol s.oc] 29))
  have fW := Fr.alloc w (.cells #[.int .i64 s.g, .slice s.lo s.ll s.lc, .slice s.co s.cl s.cc, .slice s.no s.nl s.nc, .slice s.oo s.ol s.oc] 29)
  obtain ⟨g, lo, ll, lc, co, cl, cc, no, nl, nc, oo, ol, oc⟩ := s
  have eg := h.g
  simp only at eg hb0 hR fW ⊢
  have c0 := hb0.c0
  simp only at c0
  unfold scB
  obtain ⟨RC, hRC⟩ : ∃ RC, RC = (rowB chB Ch.o m.cs && (rowB ctB Ct.o m.gs && rowB (inB 0 15) (fun x => x) m.os)) := ⟨_, rfl⟩
  rw [← hRC]
  have HRC : Hid (RC = (rowB chB Ch.o m.cs && (rowB ctB Ct.o m.gs && rowB (inB 0 15) (fun x => x) m.os))) := hRC
  clear hRC
  rw [← eg]
  have HG : Hid (g = m.g) := eg
  clear eg
  cases hg : inB 1 16 g
  · go_enter Tryz.func17, Tryz.ntmps17
    go_wp2_with (go_at_call 59; refine (l1In_any _ _ _ _).mono ?_; rintro e w' ⟨rfl, rfl⟩)
    go_ret
    exact ⟨rfl, fW⟩
  have gr := inB_true hg
  go_enter Tryz.func17, Tryz.ntmps17
  go_wp2_with (go_at_call 59; refine (l1In_any _ _ _ _).mono ?_; rintro e w' ⟨rfl, rfl⟩)
  clear c0 hg h
  obtain ⟨W, hW⟩ : ∃ W, W = w.alloc (.cells #[.int .i64 g, .slice lo ll lc, .slice co cl cc, .slice no nl nc, .slice oo ol oc] 29) := ⟨_, rfl⟩
  rw [← hW] at hb0 hR fW ⊢
  obtain ⟨b0, hbb⟩ : ∃ b0, b0 = w.heap.size := ⟨_, rfl⟩
  rw [← hbb] at hb0 ⊢
  clear hW hbb
  go_loopw [3] (fun i wr => ∃ k : Nat, k ≤ ll ∧ i = .int .i64 k ∧ Hid (∀ j, j < k → rowAt (lkB g) Lk.o m.ls j = true) ∧ ScB wr b0 ⟨g, lo, ll, lc, co, cl, cc, no, nl, nc, oo, ol, oc⟩ ∧ ScR B wr ⟨g, lo, ll, lc, co, cl, cc, no, nl, nc, oo, ol, oc⟩ m ∧ Fr w wr) (fun i _ => ll - (intOf i).toNat)
  case atStart => exact ⟨0, Nat.zero_le _, rfl, fun j hj => by omega, hb0, hR, fW⟩
  case round =>
    clear hb0 hR fW
    obtain ⟨k, hk, rfl, HA, hb0, hR, fW⟩ := hrel
    obtain ⟨lvs, hr, hn, hL⟩ := hR.lks
    have hsl := hR.sl
    have hlen := hL.len
    simp only at hr hn
    have hll : ll ≤ 1048576 := by omega
    by_cases hlt : k < ll
    · have hk2 : k < m.ls.length := by omega
      have hk1 : k < lvs.length := by omega
      obtain ⟨b, off, rfl, d0, d1, d2⟩ := lv_at hr k hk1
      have hLk := hL.at_ k hk1 hk2
      have HO : Hid (lvs[k].o = m.ls[k].o) := hLk.o
      have cL := fun (s : Later wr) => l4Lock_any g lvs[k] m.ls[k] s.u gr.1 gr.2 (hLk.fr s.fr)
      obtain ⟨lv, hlv⟩ : ∃ lv, lv = lvs[k] := ⟨_, rfl⟩
      simp only [← hlv] at d0 d1 d2 HO cL
      clear hlv hLk
      have cc0 := hb0.c0
      have cc1 := hb0.c1
      simp only at cc0 cc1
      have q0 : ∀ s : Later wr, s.u.cell? ⟨b0, 0, none⟩ = some (.int .i64 g) := fun s => s.fr.cell cc0
      have q1 : ∀ s : Later wr, s.u.cell? ⟨b0, 1, none⟩ = some (.slice (some ⟨b, off, none⟩) ll lc) := fun s => s.fr.cell cc1
      have := Later.some wr
      cases hgood : lkB g m.ls[k]
      · have HF : Hid (rowB (lkB g) Lk.o m.ls = false) := rowB_no hk2 (rowAt_bad hk2 (hgood))
        simp only [hgood] at cL
        have p0 : ∀ s : Later wr, s.u.cell? ⟨b, off + k * 3, none⟩ = some (.int .i64 lv.o) := fun s => s.fr.cell d0
        have p1 : ∀ s : Later wr, s.u.cell? ⟨b, off + k * 3 + 1, none⟩ = some (.int .i64 lv.wr) := fun s => s.fr.cell d1
        have p2 : ∀ s : Later wr, s.u.cell? ⟨b, off + k * 3 + 2, none⟩ = some (.slice lv.ro lv.rn lv.rc) := fun s => s.fr.cell d2
        clear hn hlen hgood hr
        go_wp2_with fail
        refine wp_region_grown (by kernel_rfl) (by kernel_rfl) ?_
        repeat (go_big_quiet_step (with_reducible exact Calls.grown_of (cL _)))
        refine wpQuiet_nil ?_
        rintro _ ⟨s, rfl⟩
        go_wp2_with fail
        go_ret
        exact ⟨ret_bool (by rw [HF.out]; rfl), fW.trans s.fr⟩
      simp only [hgood] at cL
      cases k with
      | zero =>
        have HT : Hid (rowAt (lkB g) Lk.o m.ls 0 = true) := rowAt_zero hk2 (by exact hgood)
        simp only [Nat.zero_mul, Nat.add_zero] at d0 d1 d2
        have p0 : ∀ s : Later wr, s.u.cell? ⟨b, off, none⟩ = some (.int .i64 lv.o) := fun s => s.fr.cell d0
        have p1 : ∀ s : Later wr, s.u.cell? ⟨b, off + 1, none⟩ = some (.int .i64 lv.wr) := fun s => s.fr.cell d1
        have p2 : ∀ s : Later wr, s.u.cell? ⟨b, off + 2, none⟩ = some (.slice lv.ro lv.rn lv.rc) := fun s => s.fr.cell d2
        clear hn hlen hgood hr
        go_wp2_with fail
        have hd : decide ((0 : Int) < 0) = false := by decide
        refine wp_region_grown (by kernel_rfl) (by kernel_rfl) ?_
        repeat (go_big_quiet_step (with_reducible exact Calls.grown_of (cL _)))
        refine wpQuiet_nil ?_
        rintro _ ⟨s, rfl⟩
        go_wp2_with fail
        go_roundw
        case rel => exact ⟨1, by omega, by go_num, rowAt_next HA.out HT.out, hb0.keep s.fr (by simp), hR.fr s.fr, fW.trans s.fr⟩
        case measure => simp [intOf]; omega
      | succ k =>
        obtain ⟨b', off', e', t0, -, -⟩ := lv_at hr k (by omega)
        simp only [Option.some.injEq, Addr.mk.injEq, and_true] at e'
        obtain ⟨rfl, rfl⟩ := e'
        have HY : Hid (lvs[k].o = m.ls[k].o) := (hL.at_ k (by omega) (by omega)).o
        obtain ⟨y, hy⟩ : ∃ y, y = lvs[k].o := ⟨_, rfl⟩
        rw [← hy] at t0 HY
        clear hy
        have hwk : IntKind.i64.wrap (((k + 1 : Nat) : Int) - 1) = (k : Int) := by rw [IntKind.wrap_i64]; omega
        have t1 : ∀ s : Later wr, s.u.cell? ⟨b, off + k * 3, none⟩ = some (.int .i64 y) := fun s => s.fr.cell t0
        have p0 : ∀ s : Later wr, s.u.cell? ⟨b, off + (k + 1) * 3, none⟩ = some (.int .i64 lv.o) := fun s => s.fr.cell d0
        have p1 : ∀ s : Later wr, s.u.cell? ⟨b, off + (k + 1) * 3 + 1, none⟩ = some (.int .i64 lv.wr) := fun s => s.fr.cell d1
        have p2 : ∀ s : Later wr, s.u.cell? ⟨b, off + (k + 1) * 3 + 2, none⟩ = some (.slice lv.ro lv.rn lv.rc) := fun s => s.fr.cell d2
        by_cases hle : lv.o ≤ y
        · have HF : Hid (rowB (lkB g) Lk.o m.ls = false) := rowB_no hk2 (rowAt_down hk2 (by have := HO.out; have := HY.out; omega))
          clear hn hlen hgood hr HY
          go_wp2_with fail
          refine wp_region_grown (by kernel_rfl) (by kernel_rfl) ?_
          repeat (go_big_quiet_step (with_reducible exact Calls.grown_of (cL _)))
          refine wpQuiet_nil ?_
          rintro _ ⟨s, rfl⟩
          go_wp2_with fail
          go_ret
          exact ⟨ret_bool (by rw [HF.out]; rfl), fW.trans s.fr⟩
        · have HT : Hid (rowAt (lkB g) Lk.o m.ls (k + 1) = true) := rowAt_up hk2 (by exact hgood) (by have := HO.out; have := HY.out; omega)
          have hle' : y < lv.o := by omega
          clear hn hlen hgood hr HY
          go_wp2_with fail
          refine wp_region_grown (by kernel_rfl) (by kernel_rfl) ?_
          repeat (go_big_quiet_step (with_reducible exact Calls.grown_of (cL _)))
          refine wpQuiet_nil ?_
          rintro _ ⟨s, rfl⟩
          go_wp2_with fail
          go_roundw
          case rel => exact ⟨k + 2, by omega, by go_num, rowAt_next HA.out HT.out, hb0.keep s.fr (by simp), hR.fr s.fr, fW.trans s.fr⟩
          case measure => simp [intOf]; omega
    · have HT1 : Hid (rowB (lkB g) Lk.o m.ls = true) := rowB_yes (fun j hj => HA.out j (by omega))
      have ca := hb0.c0
      have cb := hb0.c1
      have cd := hb0.c2
      simp only at ca cb cd
      clear hr hn hL hlen
      go_wp2_with fail
      clear ca cb cd HA hlt hk
      go_loopw [4] (fun i wr => ∃ k : Nat, k ≤ cl ∧ i = .int .i64 k ∧ Hid (∀ j, j < k → rowAt chB Ch.o m.cs j = true) ∧ ScB wr b0 ⟨g, lo, ll, lc, co, cl, cc, no, nl, nc, oo, ol, oc⟩ ∧ ScR B wr ⟨g, lo, ll, lc, co, cl, cc, no, nl, nc, oo, ol, oc⟩ m ∧ Fr w wr) (fun i _ => cl - (intOf i).toNat)
      case atStart => exact ⟨0, Nat.zero_le _, rfl, fun j hj => by omega, hb0, hR, fW⟩
      case round =>
        clear hb0 hR fW
        obtain ⟨k, hk, rfl, HA, hb0, hR, fW⟩ := hrel
        have hn := hR.cl
        have hsl := hR.sc
        simp only at hn
        have hll : cl ≤ 1048576 := by omega
        by_cases hlt : k < cl
        · have hk2 : k < m.cs.length := by omega
          obtain ⟨b, off, rfl, d0, d1, d2, d3, d4⟩ := ch_at hR.chs k hk2
          obtain ⟨c, hc⟩ : ∃ c, c = m.cs[k] := ⟨_, rfl⟩
          rw [← hc] at d0 d1 d2 d3 d4
          have HZ : Hid (c = m.cs[k]) := hc
          have cC := fun w => l4Chan_any c w
          clear hc
          have cc0 := hb0.c0
          have cc1 := hb0.c2
          simp only at cc0 cc1
          have q0 : ∀ s : Later wr, s.u.cell? ⟨b0, 0, none⟩ = some (.int .i64 g) := fun s => s.fr.cell cc0
          have q1 : ∀ s : Later wr, s.u.cell? ⟨b0, 2, none⟩ = some (.slice (some ⟨b, off, none⟩) cl cc) := fun s => s.fr.cell cc1
          have := Later.some wr
          cases hgood : chB c
          · have HF : Hid (rowB chB Ch.o m.cs = false) := rowB_no hk2 (rowAt_bad hk2 (by rw [← HZ.out]; exact hgood))
            simp only [hgood] at cC
            have p0 : ∀ s : Later wr, s.u.cell? ⟨b, off + k * 5, none⟩ = some (.int .i64 c.o) := fun s => s.fr.cell d0
            have p1 : ∀ s : Later wr, s.u.cell? ⟨b, off + k * 5 + 1, none⟩ = some (.int .i64 c.cap) := fun s => s.fr.cell d1
            have p2 : ∀ s : Later wr, s.u.cell? ⟨b, off + k * 5 + 2, none⟩ = some (.int .i64 c.sent) := fun s => s.fr.cell d2
            have p3 : ∀ s : Later wr, s.u.cell? ⟨b, off + k * 5 + 3, none⟩ = some (.int .i64 c.got) := fun s => s.fr.cell d3
            have p4 : ∀ s : Later wr, s.u.cell? ⟨b, off + k * 5 + 4, none⟩ = some (.bool c.cl) := fun s => s.fr.cell d4
            clear hn hgood
            go_wp2_with fail
            refine wp_region_grown (by kernel_rfl) (by kernel_rfl) ?_
            repeat (go_big_quiet_step (with_reducible exact Calls.grown_of (cC _)))
            refine wpQuiet_nil ?_
            rintro _ ⟨s, rfl⟩
            go_wp2_with fail
            go_ret
            exact ⟨ret_bool (by rw [HRC.out, HT1.out, HF.out]; rfl), fW.trans s.fr⟩
          simp only [hgood] at cC
          cases k with
          | zero =>
            have HT : Hid (rowAt chB Ch.o m.cs 0 = true) := rowAt_zero hk2 (by rw [← HZ.out]; exact hgood)
            simp only [Nat.zero_mul, Nat.add_zero] at d0 d1 d2 d3 d4
            have p0 : ∀ s : Later wr, s.u.cell? ⟨b, off, none⟩ = some (.int .i64 c.o) := fun s => s.fr.cell d0
            have p1 : ∀ s : Later wr, s.u.cell? ⟨b, off + 1, none⟩ = some (.int .i64 c.cap) := fun s => s.fr.cell d1
            have p2 : ∀ s : Later wr, s.u.cell? ⟨b, off + 2, none⟩ = some (.int .i64 c.sent) := fun s => s.fr.cell d2
            have p3 : ∀ s : Later wr, s.u.cell? ⟨b, off + 3, none⟩ = some (.int .i64 c.got) := fun s => s.fr.cell d3
            have p4 : ∀ s : Later wr, s.u.cell? ⟨b, off + 4, none⟩ = some (.bool c.cl) := fun s => s.fr.cell d4
            clear hn hgood
            go_wp2_with fail
            have hd : decide ((0 : Int) < 0) = false := by decide
            refine wp_region_grown (by kernel_rfl) (by kernel_rfl) ?_
            repeat (go_big_quiet_step (with_reducible exact Calls.grown_of (cC _)))
            refine wpQuiet_nil ?_
            rintro _ ⟨s, rfl⟩
            go_wp2_with fail
            go_roundw
            case rel => exact ⟨1, by omega, by go_num, rowAt_next HA.out HT.out, hb0.keep s.fr (by simp), hR.fr s.fr, fW.trans s.fr⟩
            case measure => simp [intOf]; omega
          | succ k =>
            obtain ⟨b', off', e', t0, -⟩ := ch_at hR.chs k (by omega)
            simp only [Option.some.injEq, Addr.mk.injEq, and_true] at e'
            obtain ⟨rfl, rfl⟩ := e'
            obtain ⟨y, hy⟩ : ∃ y, y = (m.cs[k]'(by omega)).o := ⟨_, rfl⟩
            rw [← hy] at t0
            have HY : Hid (y = (m.cs[k]'(by omega)).o) := hy
            clear hy
            have hwk : IntKind.i64.wrap (((k + 1 : Nat) : Int) - 1) = (k : Int) := by rw [IntKind.wrap_i64]; omega
            have t1 : ∀ s : Later wr, s.u.cell? ⟨b, off + k * 5, none⟩ = some (.int .i64 y) := fun s => s.fr.cell t0
            have p0 : ∀ s : Later wr, s.u.cell? ⟨b, off + (k + 1) * 5, none⟩ = some (.int .i64 c.o) := fun s => s.fr.cell d0
            have p1 : ∀ s : Later wr, s.u.cell? ⟨b, off + (k + 1) * 5 + 1, none⟩ = some (.int .i64 c.cap) := fun s => s.fr.cell d1
            have p2 : ∀ s : Later wr, s.u.cell? ⟨b, off + (k + 1) * 5 + 2, none⟩ = some (.int .i64 c.sent) := fun s => s.fr.cell d2
            have p3 : ∀ s : Later wr, s.u.cell? ⟨b, off + (k + 1) * 5 + 3, none⟩ = some (.int .i64 c.got) := fun s => s.fr.cell d3
            have p4 : ∀ s : Later wr, s.u.cell? ⟨b, off + (k + 1) * 5 + 4, none⟩ = some (.bool c.cl) := fun s => s.fr.cell d4
            by_cases hle : c.o ≤ y
            · have HF : Hid (rowB chB Ch.o m.cs = false) := rowB_no hk2 (rowAt_down hk2 (by have := HY.out; rw [← HZ.out, ← HY.out]; omega))
              clear hn hgood HY
              go_wp2_with fail
              refine wp_region_grown (by kernel_rfl) (by kernel_rfl) ?_
              repeat (go_big_quiet_step (with_reducible exact Calls.grown_of (cC _)))
              refine wpQuiet_nil ?_
              rintro _ ⟨s, rfl⟩
              go_wp2_with fail
              go_ret
              exact ⟨ret_bool (by rw [HRC.out, HT1.out, HF.out]; rfl), fW.trans s.fr⟩
            · have HT : Hid (rowAt chB Ch.o m.cs (k + 1) = true) := rowAt_up hk2 (by rw [← HZ.out]; exact hgood) (by have := HY.out; rw [← HZ.out, ← HY.out]; omega)
              have hle' : y < c.o := by omega
              clear hn hgood HY
              go_wp2_with fail
              refine wp_region_grown (by kernel_rfl) (by kernel_rfl) ?_
              repeat (go_big_quiet_step (with_reducible exact Calls.grown_of (cC _)))
              refine wpQuiet_nil ?_
              rintro _ ⟨s, rfl⟩
              go_wp2_with fail
              go_roundw
              case rel => exact ⟨k + 2, by omega, by go_num, rowAt_next HA.out HT.out, hb0.keep s.fr (by simp), hR.fr s.fr, fW.trans s.fr⟩
              case measure => simp [intOf]; omega
        · have HT2 : Hid (rowB chB Ch.o m.cs = true) := rowB_yes (fun j hj => HA.out j (by omega))
          have ca := hb0.c0
          have cb := hb0.c2
          have cd := hb0.c3
          simp only at ca cb cd
          clear hn
          go_wp2_with fail
          clear ca cb cd HA hlt hk
          go_loopw [5] (fun i wr => ∃ k : Nat, k ≤ nl ∧ i = .int .i64 k ∧ Hid (∀ j, j < k → rowAt ctB Ct.o m.gs j = true) ∧ ScB wr b0 ⟨g, lo, ll, lc, co, cl, cc, no, nl, nc, oo, ol, oc⟩ ∧ ScR B wr ⟨g, lo, ll, lc, co, cl, cc, no, nl, nc, oo, ol, oc⟩ m ∧ Fr w wr) (fun i _ => nl - (intOf i).toNat)
          case atStart => exact ⟨0, Nat.zero_le _, rfl, fun j hj => by omega, hb0, hR, fW⟩
          case round =>
            clear hb0 hR fW
            obtain ⟨k, hk, rfl, HA, hb0, hR, fW⟩ := hrel
            have hn := hR.nl
            have hsl := hR.sn
            simp only at hn
            have hll : nl ≤ 1048576 := by omega
            by_cases hlt : k < nl
            · have hk2 : k < m.gs.length := by omega
              obtain ⟨b, off, rfl, d0, d1⟩ := ct_at hR.cts k hk2
              obtain ⟨c, hc⟩ : ∃ c, c = m.gs[k] := ⟨_, rfl⟩
              rw [← hc] at d0 d1
              have HZ : Hid (c = m.gs[k]) := hc
              have cO := fun w => l4Obj_any c.o w
              have cN := fun w => l1In_any c.n 1 1000000 w
              clear hc
              have cc0 := hb0.c0
              have cc1 := hb0.c3
              simp only at cc0 cc1
              have q0 : ∀ s : Later wr, s.u.cell? ⟨b0, 0, none⟩ = some (.int .i64 g) := fun s => s.fr.cell cc0
              have q1 : ∀ s : Later wr, s.u.cell? ⟨b0, 3, none⟩ = some (.slice (some ⟨b, off, none⟩) nl nc) := fun s => s.fr.cell cc1
              have := Later.some wr
              cases hg1 : inB 0 15 c.o
              · have HF : Hid (rowB ctB Ct.o m.gs = false) := rowB_no hk2 (rowAt_bad hk2 (by rw [← HZ.out, ctB, hg1]; rfl))
                first | simp only [hg2] at cN | simp only [hg1] at cO
                have p0 : ∀ s : Later wr, s.u.cell? ⟨b, off + k * 2, none⟩ = some (.int .i64 c.o) := fun s => s.fr.cell d0
                have p1 : ∀ s : Later wr, s.u.cell? ⟨b, off + k * 2 + 1, none⟩ = some (.int .i64 c.n) := fun s => s.fr.cell d1
                clear hn hg1
                go_wp2_with fail
                refine wp_region_grown (by kernel_rfl) (by kernel_rfl) ?_
                repeat (go_big_quiet_step (first | with_reducible exact Calls.grown_same (cO _) | with_reducible exact Calls.grown_same (cN _)))
                refine wpQuiet_nil ?_
                rintro _ ⟨s, rfl⟩
                go_wp2_with fail
                go_ret
                exact ⟨ret_bool (by rw [HRC.out, HT2.out, HT1.out, HF.out]; rfl), fW.trans s.fr⟩
              simp only [hg1] at cO
              cases hg2 : inB 1 1000000 c.n
              · have HF : Hid (rowB ctB Ct.o m.gs = false) := rowB_no hk2 (rowAt_bad hk2 (by rw [← HZ.out, ctB, hg1, hg2]; rfl))
                first | simp only [hg2] at cN | simp only [hg1] at cO
                have p0 : ∀ s : Later wr, s.u.cell? ⟨b, off + k * 2, none⟩ = some (.int .i64 c.o) := fun s => s.fr.cell d0
                have p1 : ∀ s : Later wr, s.u.cell? ⟨b, off + k * 2 + 1, none⟩ = some (.int .i64 c.n) := fun s => s.fr.cell d1
                clear hn hg1
                go_wp2_with fail
                refine wp_region_grown (by kernel_rfl) (by kernel_rfl) ?_
                repeat (go_big_quiet_step (first | with_reducible exact Calls.grown_same (cO _) | with_reducible exact Calls.grown_same (cN _)))
                refine wpQuiet_nil ?_
                rintro _ ⟨s, rfl⟩
                go_wp2_with fail
                go_ret
                exact ⟨ret_bool (by rw [HRC.out, HT2.out, HT1.out, HF.out]; rfl), fW.trans s.fr⟩
              simp only [hg2] at cN
              cases k with
              | zero =>
                have HT : Hid (rowAt ctB Ct.o m.gs 0 = true) := rowAt_zero hk2 (by rw [← HZ.out, ctB, hg1, hg2]; rfl)
                simp only [Nat.zero_mul, Nat.add_zero] at d0 d1
                have p0 : ∀ s : Later wr, s.u.cell? ⟨b, off, none⟩ = some (.int .i64 c.o) := fun s => s.fr.cell d0
                have p1 : ∀ s : Later wr, s.u.cell? ⟨b, off + 1, none⟩ = some (.int .i64 c.n) := fun s => s.fr.cell d1
                clear hn hg1
                go_wp2_with fail
                have hd : decide ((0 : Int) < 0) = false := by decide
                refine wp_region_grown (by kernel_rfl) (by kernel_rfl) ?_
                repeat (go_big_quiet_step (first | with_reducible exact Calls.grown_same (cO _) | with_reducible exact Calls.grown_same (cN _)))
                refine wpQuiet_nil ?_
                rintro _ ⟨s, rfl⟩
                go_wp2_with fail
                go_roundw
                case rel => exact ⟨1, by omega, by go_num, rowAt_next HA.out HT.out, hb0.keep s.fr (by simp), hR.fr s.fr, fW.trans s.fr⟩
                case measure => simp [intOf]; omega
              | succ k =>
                obtain ⟨b', off', e', t0, -⟩ := ct_at hR.cts k (by omega)
                simp only [Option.some.injEq, Addr.mk.injEq, and_true] at e'
                obtain ⟨rfl, rfl⟩ := e'
                obtain ⟨y, hy⟩ : ∃ y, y = (m.gs[k]'(by omega)).o := ⟨_, rfl⟩
                rw [← hy] at t0
                have HY : Hid (y = (m.gs[k]'(by omega)).o) := hy
                clear hy
                have hwk : IntKind.i64.wrap (((k + 1 : Nat) : Int) - 1) = (k : Int) := by rw [IntKind.wrap_i64]; omega
                have t1 : ∀ s : Later wr, s.u.cell? ⟨b, off + k * 2, none⟩ = some (.int .i64 y) := fun s => s.fr.cell t0
                have p0 : ∀ s : Later wr, s.u.cell? ⟨b, off + (k + 1) * 2, none⟩ = some (.int .i64 c.o) := fun s => s.fr.cell d0
                have p1 : ∀ s : Later wr, s.u.cell? ⟨b, off + (k + 1) * 2 + 1, none⟩ = some (.int .i64 c.n) := fun s => s.fr.cell d1
                by_cases hle : c.o ≤ y
                · have HF : Hid (rowB ctB Ct.o m.gs = false) := rowB_no hk2 (rowAt_down hk2 (by have := HY.out; rw [← HZ.out, ← HY.out]; omega))
                  clear hn hg1 HY
                  go_wp2_with fail
                  refine wp_region_grown (by kernel_rfl) (by kernel_rfl) ?_
                  repeat (go_big_quiet_step (first | with_reducible exact Calls.grown_same (cO _) | with_reducible exact Calls.grown_same (cN _)))
                  refine wpQuiet_nil ?_
                  rintro _ ⟨s, rfl⟩
                  go_wp2_with fail
                  go_ret
                  exact ⟨ret_bool (by rw [HRC.out, HT2.out, HT1.out, HF.out]; rfl), fW.trans s.fr⟩
                · have HT : Hid (rowAt ctB Ct.o m.gs (k + 1) = true) := rowAt_up hk2 (by rw [← HZ.out, ctB, hg1, hg2]; rfl) (by have := HY.out; rw [← HZ.out, ← HY.out]; omega)
                  have hle' : y < c.o := by omega
                  clear hn hg1 HY
                  go_wp2_with fail
                  refine wp_region_grown (by kernel_rfl) (by kernel_rfl) ?_
                  repeat (go_big_quiet_step (first | with_reducible exact Calls.grown_same (cO _) | with_reducible exact Calls.grown_same (cN _)))
                  refine wpQuiet_nil ?_
                  rintro _ ⟨s, rfl⟩
                  go_wp2_with fail
                  go_roundw
                  case rel => exact ⟨k + 2, by omega, by go_num, rowAt_next HA.out HT.out, hb0.keep s.fr (by simp), hR.fr s.fr, fW.trans s.fr⟩
                  case measure => simp [intOf]; omega
            · have HT3 : Hid (rowB ctB Ct.o m.gs = true) := rowB_yes (fun j hj => HA.out j (by omega))
              have ca := hb0.c0
              have cb := hb0.c3
              have cd := hb0.c4
              simp only at ca cb cd
              clear hn
              go_wp2_with fail
              clear ca cb cd HA hlt hk
              go_loopw [6] (fun i wr => ∃ k : Nat, k ≤ ol ∧ i = .int .i64 k ∧ Hid (∀ j, j < k → rowAt (inB 0 15) (fun x => x) m.os j = true) ∧ ScB wr b0 ⟨g, lo, ll, lc, co, cl, cc, no, nl, nc, oo, ol, oc⟩ ∧ ScR B wr ⟨g, lo, ll, lc, co, cl, cc, no, nl, nc, oo, ol, oc⟩ m ∧ Fr w wr) (fun i _ => ol - (intOf i).toNat)
              case atStart => exact ⟨0, Nat.zero_le _, rfl, fun j hj => by omega, hb0, hR, fW⟩
              case round =>
                clear hb0 hR fW
                obtain ⟨k, hk, rfl, HA, hb0, hR, fW⟩ := hrel
                have hn := hR.ol
                have hsl := hR.so
                simp only at hn
                have hll : ol ≤ 1048576 := by omega
                by_cases hlt : k < ol
                · have hk2 : k < m.os.length := by omega
                  obtain ⟨b, off, rfl, hc⟩ := hR.ons.at_ k hk2
                  have d0 := hc k hk2
                  rw [getD_at hk2] at d0
                  have HO : Hid (m.os[k] = m.os[k]) := rfl
                  obtain ⟨z, hz⟩ : ∃ z, z = m.os[k] := ⟨_, rfl⟩
                  rw [← hz] at d0
                  have HZ : Hid (z = m.os[k]) := hz
                  have cO := fun w => l4Obj_any z w
                  clear hz HO
                  have cc0 := hb0.c0
                  have cc1 := hb0.c4
                  simp only at cc0 cc1
                  have q0 : ∀ s : Later wr, s.u.cell? ⟨b0, 0, none⟩ = some (.int .i64 g) := fun s => s.fr.cell cc0
                  have q1 : ∀ s : Later wr, s.u.cell? ⟨b0, 4, none⟩ = some (.slice (some ⟨b, off, none⟩) ol oc) := fun s => s.fr.cell cc1
                  have := Later.some wr
                  cases hgood : inB 0 15 z
                  · have HF : Hid (rowB (inB 0 15) (fun x => x) m.os = false) := rowB_no hk2 (rowAt_bad hk2 (by rw [← HZ.out]; exact hgood))
                    simp only [hgood] at cO
                    have p0 : ∀ s : Later wr, s.u.cell? ⟨b, off + k, none⟩ = some (.int .i64 z) := fun s => s.fr.cell d0
                    clear hn hgood hc
                    go_wp2_with fail
                    refine wp_region_grown (by kernel_rfl) (by kernel_rfl) ?_
                    repeat (go_big_quiet_step (with_reducible exact Calls.grown_same (cO _)))
                    refine wpQuiet_nil ?_
                    rintro _ ⟨s, rfl⟩
                    go_wp2_with fail
                    go_ret
                    exact ⟨ret_bool (by rw [HRC.out, HT3.out, HT2.out, HT1.out, HF.out]; rfl), fW.trans s.fr⟩
                  simp only [hgood] at cO
                  cases k with
                  | zero =>
                    have HT : Hid (rowAt (inB 0 15) (fun x => x) m.os 0 = true) := rowAt_zero hk2 (by rw [← HZ.out]; exact hgood)
                    simp only [Nat.add_zero] at d0
                    have p0 : ∀ s : Later wr, s.u.cell? ⟨b, off, none⟩ = some (.int .i64 z) := fun s => s.fr.cell d0
                    clear hn hgood hc
                    go_wp2_with fail
                    have hd : decide ((0 : Int) < 0) = false := by decide
                    refine wp_region_grown (by kernel_rfl) (by kernel_rfl) ?_
                    repeat (go_big_quiet_step (with_reducible exact Calls.grown_same (cO _)))
                    refine wpQuiet_nil ?_
                    rintro _ ⟨s, rfl⟩
                    go_wp2_with fail
                    go_roundw
                    case rel => exact ⟨1, by omega, by go_num, rowAt_next HA.out HT.out, hb0.keep s.fr (by simp), hR.fr s.fr, fW.trans s.fr⟩
                    case measure => simp [intOf]; omega
                  | succ k =>
                    have t0 := hc k (by omega)
                    obtain ⟨y, hy⟩ : ∃ y, y = m.os.getD k 0 := ⟨_, rfl⟩
                    rw [← hy] at t0
                    rw [getD_at (show k < m.os.length by omega)] at hy
                    have HY : Hid (y = m.os[k]) := hy
                    clear hy
                    have hwk : IntKind.i64.wrap (((k + 1 : Nat) : Int) - 1) = (k : Int) := by rw [IntKind.wrap_i64]; omega
                    have t1 : ∀ s : Later wr, s.u.cell? ⟨b, off + k, none⟩ = some (.int .i64 y) := fun s => s.fr.cell t0
                    have p0 : ∀ s : Later wr, s.u.cell? ⟨b, off + (k + 1), none⟩ = some (.int .i64 z) := fun s => s.fr.cell d0
                    by_cases hle : z ≤ y
                    · have HF : Hid (rowB (inB 0 15) (fun x => x) m.os = false) := rowB_no hk2 (rowAt_down hk2 (by have := HZ.out; have := HY.out; omega))
                      clear hn hgood hc HY
                      go_wp2_with fail
                      refine wp_region_grown (by kernel_rfl) (by kernel_rfl) ?_
                      repeat (go_big_quiet_step (with_reducible exact Calls.grown_same (cO _)))
                      refine wpQuiet_nil ?_
                      rintro _ ⟨s, rfl⟩
                      go_wp2_with fail
                      go_ret
                      exact ⟨ret_bool (by rw [HRC.out, HT3.out, HT2.out, HT1.out, HF.out]; rfl), fW.trans s.fr⟩
                    · have HT : Hid (rowAt (inB 0 15) (fun x => x) m.os (k + 1) = true) := rowAt_up hk2 (by rw [← HZ.out]; exact hgood) (by have := HZ.out; have := HY.out; omega)
                      have hle' : y < z := by omega
                      clear hn hgood hc HY
                      go_wp2_with fail
                      refine wp_region_grown (by kernel_rfl) (by kernel_rfl) ?_
                      repeat (go_big_quiet_step (with_reducible exact Calls.grown_same (cO _)))
                      refine wpQuiet_nil ?_
                      rintro _ ⟨s, rfl⟩
                      go_wp2_with fail
                      go_roundw
                      case rel => exact ⟨k + 2, by omega, by go_num, rowAt_next HA.out HT.out, hb0.keep s.fr (by simp), hR.fr s.fr, fW.trans s.fr⟩
                      case measure => simp [intOf]; omega
                · have HT4 : Hid (rowB (inB 0 15) (fun x => x) m.os = true) := rowB_yes (fun j hj => HA.out j (by omega))
                  have ca := hb0.c4
                  simp only at ca
                  go_wp2_with fail
                  go_ret
                  exact ⟨ret_bool (by rw [HRC.out, HT4.out, HT3.out, HT2.out, HT1.out]; rfl), fW⟩
end Go.Proofs.YthehhiccfnhinaaGreatDoor
/-
  The program's locksOk, chansOk, groupsOk and SceneOk.
-/
namespace Go.Proofs.YthehhiccfnhinaaGreatDoor
open Go.RowKit

/-- A lock as the program asks: a writer and no readers, or readers that rise and no writer. -/
def lk2 (g : Int) (l : Lk) : Bool := (decide (l.rd.length = 0) && inB 0 (g - 1) l.wr) || (decide (0 < l.rd.length) && (l.wr == -1) && upFrom (g - 1) (-1) l.rd)
def ch2 (c : Ch) : Bool := inB 0 8 c.cap && inB 0 1000000 c.sent && inB 0 c.sent c.got && decide (c.sent - c.got ≤ c.cap)
theorem all_take {α : Type} {p : α → Bool} {xs : List α} (h : ∀ j (hj : j < xs.length), p xs[j] = true) : xs.all p = true := by
  rw [List.all_eq_true]
  intro x hx
  obtain ⟨j, hj, rfl⟩ := List.mem_iff_getElem.1 hx
  exact h j hj
theorem all_bad {α : Type} {p : α → Bool} {xs : List α} {k : Nat} (hk : k < xs.length) (h : p xs[k] = false) : xs.all p = false := by
  rw [List.all_eq_false]
  exact ⟨xs[k], List.getElem_mem hk, by simp [h]⟩
theorem upto_good {α : Type} {p : α → Bool} {xs : List α} {k : Nat} (h : ∀ j (hj : j < xs.length), j < k → p xs[j] = true) (hk : k < xs.length) (he : p xs[k] = true) : ∀ j (hj : j < xs.length), j < k + 1 → p xs[j] = true := by
  intro j hj hjk
  by_cases e : j = k
  · subst e; exact he
  · exact h j hj (by omega)

set_option maxHeartbeats 1000000 in
theorem groupsOk_any (ao : Option Addr) (n c : Nat) (es : List Ct) (w : World) (hn : es.length = n) (hl : es.length ≤ 1048576) (h : ReadsG layN w ao es) :
    Calls Tryz.prog 66 #[.slice ao n c] w fun e w' => e = .returned (.bool (es.all (fun c => inB 1 1000000 c.n) && upFrom 15 (-1) (es.map Ct.o))) ∧ Fr w w' := by
  subst hn
  have cR := fun u (f : Fr w u) => risesN_any ao es.length c es 15 u rfl hl (h.fr f)
  obtain ⟨U, hU⟩ : ∃ U, U = upFrom 15 (-1) (es.map Ct.o) := ⟨_, rfl⟩
  simp only [← hU] at cR ⊢
  clear hU
  obtain ⟨R, hR⟩ : ∃ R, R = (es.all (fun c => inB 1 1000000 c.n) && U) := ⟨_, rfl⟩
  rw [← hR]
  have HR : Hid (R = (es.all (fun c => inB 1 1000000 c.n) && U)) := hR
  clear hR
  go_enter Tryz.func66, Tryz.ntmps66
  go_wp2_with fail
  go_loopw [7] (fun i wr => ∃ k : Nat, k ≤ es.length ∧ i = .int .i64 k ∧ Hid (∀ j (hj : j < es.length), j < k → inB 1 1000000 es[j].n = true) ∧ Fr w wr) (fun i _ => es.length - (intOf i).toNat)
  case atStart => exact ⟨0, Nat.zero_le _, rfl, fun j hj hk => by omega, Fr.refl w⟩
  case round =>
    obtain ⟨k, hk, rfl, HA, hf⟩ := hrel
    by_cases hlt : k < es.length
    · obtain ⟨b, off, rfl, d0, d1⟩ := ct_at (h.fr hf) k hlt
      have HB : Hid (inB 1 1000000 es[k].n = false → R = false) := fun q => by rw [HR.out, all_bad (p := fun c : Ct => inB 1 1000000 c.n) hlt q]; rfl
      have HG : Hid (inB 1 1000000 es[k].n = true → ∀ j (hj : j < es.length), j < k + 1 → inB 1 1000000 es[j].n = true) := fun q => upto_good (p := fun c : Ct => inB 1 1000000 c.n) HA.out hlt q
      obtain ⟨e, he⟩ : ∃ e, e = es[k] := ⟨_, rfl⟩
      rw [← he] at HB HG
      simp only [← he] at d0 d1
      clear he
      obtain ⟨eo, en⟩ := e
      simp only at d0 d1 HB HG
      have f2 := hf.trans (Fr.alloc wr (.cells #[.int .i64 eo, .int .i64 en] 88))
      go_wp2_with fail
      refine (within_any _ _ _ _).mono ?_
      rintro e y ⟨rfl, rfl⟩
      clear d0 d1
      cases hg : inB 1 1000000 en
      · have HN : Hid (R = false) := HB.out hg
        go_wp2_with fail
        go_ret
        exact ⟨ret_bool HN.out.symm, f2⟩
      · have HN : Hid (∀ j (hj : j < es.length), j < k + 1 → inB 1 1000000 es[j].n = true) := HG.out hg
        go_wp2_with fail
        go_roundw
        case rel => exact ⟨k + 1, by omega, by go_num, HN, f2⟩
        case measure => simp [intOf]; omega
    · have HN : Hid (U = R) := by
        show U = R
        rw [HR.out, all_take (p := fun c : Ct => inB 1 1000000 c.n) (fun j hj => HA.out j hj (by omega))]; rfl
      go_wp2_with fail
      refine (cR _ hf).mono ?_
      rintro e y ⟨rfl, fy⟩
      go_wp2_with fail
      go_ret
      exact ⟨ret_bool HN.out, hf.trans fy⟩

set_option maxHeartbeats 2000000 in
theorem chansOk_any (ao : Option Addr) (n c : Nat) (es : List Ch) (w : World) (hn : es.length = n) (hl : es.length ≤ 1048576) (h : ReadsG layC w ao es) :
    Calls Tryz.prog 65 #[.slice ao n c] w fun e w' => e = .returned (.bool (es.all ch2 && upFrom 15 (-1) (es.map Ch.o))) ∧ Fr w w' := by
  subst hn
  have cR := fun u (f : Fr w u) => risesC_any ao es.length c es 15 u rfl hl (h.fr f)
  obtain ⟨U, hU⟩ : ∃ U, U = upFrom 15 (-1) (es.map Ch.o) := ⟨_, rfl⟩
  simp only [← hU] at cR ⊢
  clear hU
  obtain ⟨R, hR⟩ : ∃ R, R = (es.all ch2 && U) := ⟨_, rfl⟩
  rw [← hR]
  have HR : Hid (R = (es.all ch2 && U)) := hR
  clear hR
  go_enter Tryz.func65, Tryz.ntmps65
  go_wp2_with fail
  go_loopw [7] (fun i wr => ∃ k : Nat, k ≤ es.length ∧ i = .int .i64 k ∧ Hid (∀ j (hj : j < es.length), j < k → ch2 es[j] = true) ∧ Fr w wr) (fun i _ => es.length - (intOf i).toNat)
  case atStart => exact ⟨0, Nat.zero_le _, rfl, fun j hj hk => by omega, Fr.refl w⟩
  case round =>
    obtain ⟨k, hk, rfl, HA, hf⟩ := hrel
    by_cases hlt : k < es.length
    · obtain ⟨b, off, rfl, d0, d1, d2, d3, d4⟩ := ch_at (h.fr hf) k hlt
      have HB : Hid (ch2 es[k] = false → R = false) := fun q => by rw [HR.out, all_bad hlt q]; rfl
      have HG : Hid (ch2 es[k] = true → ∀ j (hj : j < es.length), j < k + 1 → ch2 es[j] = true) := fun q => upto_good HA.out hlt q
      obtain ⟨e, he⟩ : ∃ e, e = es[k] := ⟨_, rfl⟩
      rw [← he] at HB HG
      simp only [← he] at d0 d1 d2 d3 d4
      clear he
      obtain ⟨eo, ec, es1, eg, el⟩ := e
      simp only at d0 d1 d2 d3 d4
      unfold ch2 at HB HG
      simp only at HB HG
      have f2 := hf.trans (Fr.alloc wr (.cells #[.int .i64 eo, .int .i64 ec, .int .i64 es1, .int .i64 eg, .bool el] 85))
      go_wp2_with fail
      refine (within_any _ _ _ _).mono ?_
      rintro e y ⟨rfl, rfl⟩
      clear d0 d1 d2 d3 d4
      cases h1 : inB 0 8 ec
      · have HN : Hid (R = false) := HB.out (by rw [h1]; rfl)
        go_wp2_with fail
        go_ret
        exact ⟨ret_bool HN.out.symm, f2⟩
      go_wp2_with fail
      refine (within_any _ _ _ _).mono ?_
      rintro e y ⟨rfl, rfl⟩
      cases h2 : inB 0 1000000 es1
      · have HN : Hid (R = false) := HB.out (by rw [h1, h2]; rfl)
        go_wp2_with fail
        go_ret
        exact ⟨ret_bool HN.out.symm, f2⟩
      go_wp2_with fail
      refine (within_any _ _ _ _).mono ?_
      rintro e y ⟨rfl, rfl⟩
      cases h3 : inB 0 es1 eg
      · have HN : Hid (R = false) := HB.out (by rw [h1, h2, h3]; rfl)
        go_wp2_with fail
        go_ret
        exact ⟨ret_bool HN.out.symm, f2⟩
      have b1 := inB_true h1
      have b2 := inB_true h2
      have b3 := inB_true h3
      have hwr : IntKind.i64.wrap (es1 - eg) = es1 - eg := by rw [IntKind.wrap_i64]; omega
      by_cases h4 : es1 - eg ≤ ec
      · have HN : Hid (∀ j (hj : j < es.length), j < k + 1 → ch2 es[j] = true) := HG.out (by rw [h1, h2, h3, decide_eq_true h4]; rfl)
        have hd : decide (ec < es1 - eg) = false := decide_eq_false (by omega)
        clear HB HG b1 b2 b3
        go_wp2_with fail
        go_roundw
        case rel => exact ⟨k + 1, by omega, by go_num, HN, f2⟩
        case measure => simp [intOf]; omega
      · have HN : Hid (R = false) := HB.out (by rw [h1, h2, h3, decide_eq_false h4]; rfl)
        have hd : decide (ec < es1 - eg) = true := decide_eq_true (by omega)
        have h4' : ec < es1 - eg := by omega
        clear HB HG b1 b2 b3 h4
        go_wp2_with fail
        go_ret
        exact ⟨ret_bool HN.out.symm, f2⟩
    · have HN : Hid (U = R) := by
        show U = R
        rw [HR.out, all_take (p := ch2) (fun j hj => HA.out j hj (by omega))]; rfl
      go_wp2_with fail
      refine (cR _ hf).mono ?_
      rintro e y ⟨rfl, fy⟩
      go_wp2_with fail
      go_ret
      exact ⟨ret_bool HN.out, hf.trans fy⟩
end Go.Proofs.YthehhiccfnhinaaGreatDoor
/-
  The program's locksOk and SceneOk; both SceneOks answer the same.
-/
namespace Go.Proofs.YthehhiccfnhinaaGreatDoor
open Go.RowKit

theorem lvs_o {B : Nat → Prop} {w : World} {lvs : List Lv} {ls : List Lk} (h : LksR B w lvs ls) : lvs.map Lv.o = ls.map Lk.o := by
  apply List.ext_getElem
  · simpa using h.len
  · intro j h1 h2
    simp only [List.length_map] at h1 h2
    simp only [List.getElem_map]
    exact (h.at_ j h1 h2).o

set_option maxHeartbeats 2000000 in
theorem locksOk_any {B : Nat → Prop} (ao : Option Addr) (n c : Nat) (g : Int) (lvs : List Lv) (ls : List Lk) (w : World) (hn : lvs.length = n) (hl : lvs.length ≤ 1048576) (g0 : 1 ≤ g) (g1 : g ≤ 16) (h : ReadsG layL w ao lvs) (hL : LksR B w lvs ls) :
    Calls Tryz.prog 64 #[.slice ao n c, .int .i64 g] w fun e w' => e = .returned (.bool (ls.all (lk2 g) && upFrom 15 (-1) (ls.map Lk.o))) ∧ Fr w w' := by
  subst hn
  have cR := fun u (f : Fr w u) => risesL_any ao lvs.length c lvs 15 u rfl hl (h.fr f)
  rw [lvs_o hL] at cR
  have HL : Hid (lvs.length = ls.length) := hL.len
  obtain ⟨U, hU⟩ : ∃ U, U = upFrom 15 (-1) (ls.map Lk.o) := ⟨_, rfl⟩
  simp only [← hU] at cR ⊢
  clear hU
  obtain ⟨R, hR⟩ : ∃ R, R = (ls.all (lk2 g) && U) := ⟨_, rfl⟩
  rw [← hR]
  have HR : Hid (R = (ls.all (lk2 g) && U)) := hR
  clear hR
  have hgw : IntKind.i64.wrap (g - 1) = g - 1 := by rw [IntKind.wrap_i64]; omega
  go_enter Tryz.func64, Tryz.ntmps64
  go_wp2_with fail
  go_loopw [11] (fun i wr => ∃ k : Nat, k ≤ lvs.length ∧ i = .int .i64 k ∧ Hid (∀ j (hj : j < ls.length), j < k → lk2 g ls[j] = true) ∧ Fr w wr) (fun i _ => lvs.length - (intOf i).toNat)
  case atStart => exact ⟨0, Nat.zero_le _, rfl, fun j hj hk => by omega, Fr.refl w⟩
  case round =>
    obtain ⟨k, hk, rfl, HA, hf⟩ := hrel
    by_cases hlt : k < lvs.length
    · have hlt2 : k < ls.length := by have := HL.out; omega
      obtain ⟨b, off, rfl, d0, d1, d2⟩ := lv_at (h.fr hf) k hlt
      have HB : Hid (lk2 g ls[k] = false → R = false) := fun q => by rw [HR.out, all_bad hlt2 q]; rfl
      have HG : Hid (lk2 g ls[k] = true → ∀ j (hj : j < ls.length), j < k + 1 → lk2 g ls[j] = true) := fun q => upto_good HA.out hlt2 q
      have hlk := (hL.at_ k hlt hlt2).fr hf
      obtain ⟨e, he⟩ : ∃ e, e = lvs[k] := ⟨_, rfl⟩
      obtain ⟨l, hll⟩ : ∃ l, l = ls[k] := ⟨_, rfl⟩
      rw [← hll] at HB HG hlk
      rw [← he] at hlk
      simp only [← he] at d0 d1 d2
      clear he hll hlt2
      have HW : Hid (e.wr = l.wr) := hlk.wr
      have HN : Hid (e.rn = l.rd.length) := hlk.rn
      have hsz : e.rn ≤ 1048576 := by have := hlk.sz; have := HN.out; omega
      have cI := fun u (f : Fr wr u) => risesI_any e.ro e.rn e.rc l.rd (g - 1) u HN.out.symm hlk.sz (hlk.rd.fr f)
      obtain ⟨Q, hQ⟩ : ∃ Q, Q = upFrom (g - 1) (-1) l.rd := ⟨_, rfl⟩
      unfold lk2 at HB HG
      rw [← hQ] at HB HG
      simp only [← hQ] at cI
      rw [← HW.out, ← HN.out] at HB HG
      clear hQ hlk
      obtain ⟨eo, ew, er, en, ec⟩ := e
      simp only at d0 d1 d2 HB HG cI hsz
      have f2 := Fr.alloc wr (.cells #[.int .i64 eo, .int .i64 ew, .slice er en ec] 82)
      by_cases h0 : en = 0
      · subst h0
        go_wp2_with fail
        refine (within_any _ _ _ _).mono ?_
        rintro e y ⟨rfl, rfl⟩
        cases h1 : inB 0 (g - 1) ew
        · have HX : Hid (R = false) := HB.out (by rw [h1]; rfl)
          clear d0 d1 d2
          go_wp2_with fail
          go_ret
          exact ⟨ret_bool HX.out.symm, hf.trans f2⟩
        · have HX : Hid (∀ j (hj : j < ls.length), j < k + 1 → lk2 g ls[j] = true) := HG.out (by rw [h1]; rfl)
          clear d0 d1 d2
          go_wp2_with fail
          go_roundw
          case rel => exact ⟨k + 1, by omega, by go_num, HX, hf.trans f2⟩
          case measure => simp [intOf]; omega
      · have e0 : ((en : Int) == 0) = false := beq_eq_false_iff_ne.2 (by omega)
        have h2 : (0 : Int) < (en : Int) := by omega
        have h3 : decide (en = 0) = false := decide_eq_false h0
        have h4 : decide (0 < en) = true := decide_eq_true (by omega)
        cases h5 : (ew == -1)
        · have HX : Hid (R = false) := HB.out (by rw [h3, h4, h5]; rfl)
          clear h3 h4 h0
          go_wp2_with fail
          go_ret
          exact ⟨ret_bool HX.out.symm, hf.trans f2⟩
        · cases Q
          · have HX : Hid (R = false) := HB.out (by rw [h3, h4, h5]; rfl)
            clear h3 h4 h0
            go_wp2_with fail
            refine (cI _ f2).mono ?_
            rintro e y ⟨rfl, rfl⟩
            go_wp2_with fail
            go_ret
            exact ⟨ret_bool HX.out.symm, hf.trans f2⟩
          · have HX : Hid (∀ j (hj : j < ls.length), j < k + 1 → lk2 g ls[j] = true) := HG.out (by rw [h3, h4, h5]; rfl)
            clear h3 h4 h0
            go_wp2_with fail
            refine (cI _ f2).mono ?_
            rintro e y ⟨rfl, rfl⟩
            go_wp2_with fail
            go_roundw
            case rel => exact ⟨k + 1, by omega, by go_num, HX, hf.trans f2⟩
            case measure => simp [intOf]; omega
    · have HX : Hid (U = R) := by
        show U = R
        rw [HR.out, all_take (p := lk2 g) (fun j hj => HA.out j hj (by have := HL.out; omega))]; rfl
      go_wp2_with fail
      refine (cR _ hf).mono ?_
      rintro e y ⟨rfl, fy⟩
      go_wp2_with fail
      go_ret
      exact ⟨ret_bool HX.out, hf.trans fy⟩

/-- What the program asks of a scene. -/
def scB2 (m : Scn) : Bool := inB 1 16 m.g && ((m.ls.all (lk2 m.g) && upFrom 15 (-1) (m.ls.map Lk.o)) && ((m.cs.all ch2 && upFrom 15 (-1) (m.cs.map Ch.o)) && ((m.gs.all (fun c => inB 1 1000000 c.n) && upFrom 15 (-1) (m.gs.map Ct.o)) && upFrom 15 (-1) m.os)))

theorem upFrom_iff (most : Int) (xs : List Int) : ∀ last, upFrom most last xs = true ↔ (∀ x ∈ xs, last < x ∧ x ≤ most) ∧ xs.Pairwise (· < ·) := by
  induction xs with
  | nil => intro last; simp [upFrom]
  | cons x xs ih =>
    intro last
    rw [upFrom, Bool.and_eq_true, Bool.and_eq_true, decide_eq_true_eq, decide_eq_true_eq, ih x, List.pairwise_cons]
    constructor
    · rintro ⟨⟨h1, h2⟩, h3, h4⟩
      refine ⟨fun y hy => ?_, fun y hy => (h3 y hy).1, h4⟩
      rcases List.mem_cons.1 hy with rfl | hy
      · exact ⟨h1, h2⟩
      · have := h3 y hy; exact ⟨by omega, this.2⟩
    · rintro ⟨h1, h2, h3⟩
      have hx := h1 x (List.mem_cons_self ..)
      exact ⟨hx, fun y hy => ⟨h2 y hy, (h1 y (List.mem_cons_of_mem _ hy)).2⟩, h3⟩
theorem adj_iff {α : Type} (o : α → Int) (xs : List α) : (∀ j (hj : j + 1 < xs.length), o xs[j] < o xs[j + 1]) ↔ (xs.map o).Pairwise (· < ·) := by
  rw [List.pairwise_iff_getElem]
  constructor
  · intro h i j hi hj hij
    simp only [List.length_map] at hi hj
    simp only [List.getElem_map]
    induction j with
    | zero => omega
    | succ j ih =>
      have h1 := h j hj
      by_cases e : i = j
      · subst e; exact h1
      · have := ih (by omega) (by omega); omega
  · intro h j hj
    have := h j (j + 1) (by simp; omega) (by simpa using hj) (by omega)
    simpa using this
theorem rowB_iff {α : Type} (p : α → Bool) (o : α → Int) (xs : List α) : rowB p o xs = true ↔ (∀ x ∈ xs, p x = true) ∧ (xs.map o).Pairwise (· < ·) := by
  rw [← adj_iff]
  constructor
  · intro h
    refine ⟨fun x hx => ?_, fun j hj => ?_⟩
    · obtain ⟨j, hj, rfl⟩ := List.mem_iff_getElem.1 hx
      rw [rowB, List.all_eq_true] at h
      have := h j (List.mem_range.2 hj)
      cases hp : p xs[j] with
      | true => rfl
      | false => rw [rowAt_bad hj hp] at this; cases this
    · rw [rowB, List.all_eq_true] at h
      have h2 := h (j + 1) (List.mem_range.2 hj)
      by_cases hle : o xs[j + 1] ≤ o xs[j]
      · rw [rowAt_down hj hle] at h2; cases h2
      · omega
  · rintro ⟨h1, h2⟩
    refine rowB_yes fun j hj => ?_
    cases j with
    | zero => exact rowAt_zero hj (h1 _ (List.getElem_mem hj))
    | succ j => exact rowAt_up hj (h1 _ (List.getElem_mem hj)) (h2 j hj)
theorem rdB_iff (g : Int) (xs : List Int) : rdB g xs = true ↔ (∀ x ∈ xs, 0 ≤ x ∧ x ≤ g - 1) ∧ xs.Pairwise (· < ·) := by
  have hm : xs.map (fun x => x) = xs := by simp
  have ha := adj_iff (fun x : Int => x) xs
  rw [hm] at ha
  rw [← ha]
  constructor
  · intro h
    rw [rdB, List.all_eq_true] at h
    have h1 : ∀ j (hj : j < xs.length), (0 ≤ xs[j] ∧ xs[j] ≤ g - 1) ∧ (0 < j → xs.getD (j - 1) 0 < xs[j]) := by
      intro j hj
      have h2 := h j (List.mem_range.2 hj)
      unfold rdAt at h2
      simp only [Bool.and_eq_true, Bool.or_eq_true, decide_eq_true_eq, getD_at hj] at h2
      refine ⟨inB_true h2.1, fun h0 => ?_⟩
      rcases h2.2 with h4 | h4
      · omega
      · exact h4
    refine ⟨fun x hx => ?_, fun j hj => ?_⟩
    · obtain ⟨j, hj, rfl⟩ := List.mem_iff_getElem.1 hx
      exact (h1 j hj).1
    · have := (h1 (j + 1) hj).2 (by omega)
      rwa [Nat.add_sub_cancel, getD_at (by omega)] at this
  · rintro ⟨h1, h2⟩
    refine rdB_yes fun j hj => ?_
    have h3 := h1 _ (List.getElem_mem hj)
    unfold rdAt
    rw [getD_at hj, inB_mk h3.1 h3.2]
    cases j with
    | zero => simp
    | succ j =>
      have := h2 j hj
      rw [Nat.add_sub_cancel, getD_at (by omega), decide_eq_true this]
      simp
theorem lk_iff {g : Int} (l : Lk) : lkB g l = true ↔ lk2 g l = true ∧ 0 ≤ l.o ∧ l.o ≤ 15 := by
  unfold lkB lk2
  simp only [Bool.and_eq_true, Bool.or_eq_true, decide_eq_true_eq, Bool.not_eq_true', beq_eq_false_iff_ne, beq_iff_eq, rdB_iff, upFrom_iff, inB, ne_eq, decide_eq_decide]
  constructor
  · rintro ⟨⟨h1, h2⟩, ⟨h3, h4⟩, ⟨h5, h6⟩, h7⟩
    refine ⟨?_, h3, h4⟩
    by_cases h8 : l.rd.length = 0
    · exact .inl ⟨h8, by omega, h6⟩
    · exact .inr ⟨⟨by omega, by omega⟩, fun x hx => ⟨by have := h1 x hx; omega, (h1 x hx).2⟩, h2⟩
  · rintro ⟨h1 | h1, h3, h4⟩
    · obtain ⟨h5, h6, h7⟩ := h1
      have hn : l.rd = [] := List.eq_nil_of_length_eq_zero h5
      refine ⟨⟨?_, ?_⟩, ⟨h3, h4⟩, ⟨by omega, h7⟩, by omega⟩
      · rw [hn]; simp
      · rw [hn]; exact List.Pairwise.nil
    · obtain ⟨⟨h5, h6⟩, h7, h8⟩ := h1
      obtain ⟨x, hx⟩ := List.exists_mem_of_length_pos h5
      have := h7 x hx
      exact ⟨⟨fun x hx => ⟨by have := h7 x hx; omega, (h7 x hx).2⟩, h8⟩, ⟨h3, h4⟩, ⟨by omega, by omega⟩, by omega⟩
theorem ch_iff (c : Ch) : chB c = true ↔ ch2 c = true ∧ 0 ≤ c.o ∧ c.o ≤ 15 := by
  unfold chB ch2
  simp only [Bool.and_eq_true, decide_eq_true_eq, inB]
  constructor
  · rintro ⟨h1, h2, h3, h4, h5⟩
    exact ⟨⟨⟨⟨h2, h3⟩, h4⟩, by omega⟩, h1⟩
  · rintro ⟨⟨⟨⟨h2, h3⟩, h4⟩, h5⟩, h1⟩
    exact ⟨h1, h2, h3, h4, by omega⟩
theorem ct_iff (c : Ct) : ctB c = true ↔ inB 1 1000000 c.n = true ∧ 0 ≤ c.o ∧ c.o ≤ 15 := by
  unfold ctB
  simp only [Bool.and_eq_true, decide_eq_true_eq, inB]
  constructor
  · rintro ⟨h1, h2⟩; exact ⟨h2, h1⟩
  · rintro ⟨h1, h2⟩; exact ⟨h2, h1⟩
theorem row_iff {α : Type} (p q : α → Bool) (o : α → Int) (xs : List α) (h : ∀ x, p x = true ↔ q x = true ∧ 0 ≤ o x ∧ o x ≤ 15) : rowB p o xs = (xs.all q && upFrom 15 (-1) (xs.map o)) := by
  rw [Bool.eq_iff_iff, rowB_iff, Bool.and_eq_true, List.all_eq_true, upFrom_iff]
  constructor
  · rintro ⟨h1, h2⟩
    refine ⟨fun x hx => ((h x).1 (h1 x hx)).1, fun y hy => ?_, h2⟩
    obtain ⟨x, hx, rfl⟩ := List.mem_map.1 hy
    have := ((h x).1 (h1 x hx)).2
    exact ⟨by omega, this.2⟩
  · rintro ⟨h1, h2, h3⟩
    refine ⟨fun x hx => (h x).2 ⟨h1 x hx, ?_⟩, h3⟩
    have := h2 (o x) (List.mem_map.2 ⟨x, hx, rfl⟩)
    exact ⟨by omega, this.2⟩
theorem scB_same (m : Scn) : scB2 m = scB m := by
  unfold scB2 scB
  rw [row_iff (lkB m.g) (lk2 m.g) Lk.o m.ls lk_iff, row_iff chB ch2 Ch.o m.cs ch_iff, row_iff ctB (fun c => inB 1 1000000 c.n) Ct.o m.gs ct_iff]
  have h5 : rowB (inB 0 15) (fun x => x) m.os = upFrom 15 (-1) m.os := by
    rw [row_iff (inB 0 15) (fun _ => true) (fun x => x) m.os (fun x => by simp [inB])]
    simp
  rw [h5]
end Go.Proofs.YthehhiccfnhinaaGreatDoor
/-
  The program's SceneOk answers as the specification's.
-/
namespace Go.Proofs.YthehhiccfnhinaaGreatDoor
open Go.RowKit

set_option maxHeartbeats 2000000 in
theorem implScene_any {B : Nat → Prop} (s : Sv) (m : Scn) (w : World) (h : ScR B w s m) :
    Calls Tryz.prog 19 #[.agg #[.int .i64 s.g, .slice s.lo s.ll s.lc, .slice s.co s.cl s.cc, .slice s.no s.nl s.nc, .slice s.oo s.ol s.oc]] w fun e w' => e = .returned (.bool (scB m)) ∧ Fr w w' := by
  rw [← scB_same m]
  unfold scB2
  have fW := Fr.alloc w (.cells #[.int .i64 s.g, .slice s.lo s.ll s.lc, .slice s.co s.cl s.cc, .slice s.no s.nl s.nc, .slice s.oo s.ol s.oc] 29)
  have k1 := ScK.new w s
  obtain ⟨lvs, r1, n1, L1⟩ := h.lks
  have HG : Hid (s.g = m.g) := h.g
  have hg := h.g
  have cL := fun u (f : Fr w u) (g0 : 1 ≤ m.g) (g1 : m.g ≤ 16) => locksOk_any s.lo s.ll s.lc m.g lvs m.ls u n1.symm (by rw [L1.len]; exact h.sl) g0 g1 (r1.fr f) (L1.fr f)
  have cC := fun u (f : Fr w u) => chansOk_any s.co s.cl s.cc m.cs u h.cl.symm h.sc (h.chs.fr f)
  have cN := fun u (f : Fr w u) => groupsOk_any s.no s.nl s.nc m.gs u h.nl.symm h.sn (h.cts.fr f)
  have cO := fun u (f : Fr w u) => risesI_any s.oo s.ol s.oc m.os 15 u h.ol.symm h.so (h.ons.fr f)
  rw [← hg]
  simp only [← hg] at cL
  clear h hg r1 n1 L1
  obtain ⟨XL, hXL⟩ : ∃ X, X = (m.ls.all (lk2 s.g) && upFrom 15 (-1) (m.ls.map Lk.o)) := ⟨_, rfl⟩
  obtain ⟨XC, hXC⟩ : ∃ X, X = (m.cs.all ch2 && upFrom 15 (-1) (m.cs.map Ch.o)) := ⟨_, rfl⟩
  obtain ⟨XN, hXN⟩ : ∃ X, X = (m.gs.all (fun c => inB 1 1000000 c.n) && upFrom 15 (-1) (m.gs.map Ct.o)) := ⟨_, rfl⟩
  obtain ⟨XO, hXO⟩ : ∃ X, X = upFrom 15 (-1) m.os := ⟨_, rfl⟩
  simp only [← hXL] at cL ⊢
  simp only [← hXC] at cC ⊢
  simp only [← hXN] at cN ⊢
  simp only [← hXO] at cO ⊢
  clear hXL hXC hXN hXO
  obtain ⟨sg, lo, ll, lc, co, cl, cc, no, nl, nc, oo, ol, oc⟩ := s
  simp only at fW k1 cL cC cN cO HG ⊢
  cases hin : inB 1 16 sg
  · go_enter Tryz.func19, Tryz.ntmps19
    go_wp2_with fail
    refine (within_any _ _ _ _).mono ?_
    rintro e y ⟨rfl, rfl⟩
    go_wp2_with fail
    go_ret
    exact ⟨rfl, fW⟩
  have hb := inB_true hin
  obtain ⟨W, hW⟩ : ∃ W, W = w.alloc (.cells #[.int .i64 sg, .slice lo ll lc, .slice co cl cc, .slice no nl nc, .slice oo ol oc] 29) := ⟨_, rfl⟩
  have HQ : Hid (∀ u, Fr W u → ScB u w.heap.size ⟨sg, lo, ll, lc, co, cl, cc, no, nl, nc, oo, ol, oc⟩) := fun u f => by rw [hW] at f; exact (k1.fr f).at
  clear k1
  go_enter Tryz.func19, Tryz.ntmps19
  go_wp2_with fail
  refine (within_any _ _ _ _).mono ?_
  rintro e y ⟨rfl, rfl⟩
  rw [← hW] at fW ⊢
  clear hW
  obtain ⟨s0, s1, s2, s3, s4⟩ := HQ.out _ (Fr.refl _)
  simp only at s0 s1 s2 s3 s4
  simp only [hin]
  go_wp2_with fail
  refine (cL _ fW hb.1 hb.2).mono ?_
  rintro e u1 ⟨rfl, f1⟩
  clear s0 s1 s2 s3 s4 cL
  obtain ⟨s0, s1, s2, s3, s4⟩ := HQ.out _ f1
  simp only at s0 s1 s2 s3 s4
  cases XL
  · go_wp2_with fail
    go_ret
    exact ⟨rfl, fW.trans f1⟩
  go_wp2_with fail
  refine (cC _ (fW.trans f1)).mono ?_
  rintro e u2 ⟨rfl, f2⟩
  have f2 := f1.trans f2
  clear s0 s1 s2 s3 s4 cC
  obtain ⟨s0, s1, s2, s3, s4⟩ := HQ.out _ f2
  simp only at s0 s1 s2 s3 s4
  cases XC
  · go_wp2_with fail
    go_ret
    exact ⟨rfl, fW.trans f2⟩
  go_wp2_with fail
  refine (cN _ (fW.trans f2)).mono ?_
  rintro e u3 ⟨rfl, f3⟩
  have f3 := f2.trans f3
  clear s0 s1 s2 s3 s4 cN
  obtain ⟨s0, s1, s2, s3, s4⟩ := HQ.out _ f3
  simp only at s0 s1 s2 s3 s4
  cases XN
  · go_wp2_with fail
    go_ret
    exact ⟨rfl, fW.trans f3⟩
  go_wp2_with fail
  refine (cO _ (fW.trans f3)).mono ?_
  rintro e u4 ⟨rfl, rfl⟩
  go_wp2_with fail
  go_ret
  exact ⟨by simp, fW.trans f3⟩
end Go.Proofs.YthehhiccfnhinaaGreatDoor
