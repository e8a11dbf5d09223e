/-
  The walk of the laws' trace.
-/
import Derived.Test.YtihdablgnmkjnaaGreatDoorPackAT
import Derived.Test.YtihdablgnmkjnaaGreatDoorPackAR
import Derived.Test.YtihdablgnmkjnaaGreatDoorPackAA
import Derived.Test.YtihdablgnmkjnaaGreatDoorPackAP
import Derived.Test.YtihdablgnmkjnaaGreatDoorPackAD
import Derived.BigQuiet
namespace Go.Proofs.YtihdablgnmkjnaaGreatDoor
open Go.RowKit

theorem ScK.put5 {u : World} {b : Nat} {s : Sv} (h : ScK u b s) (t : Sv) : ScK (((((u.setCell ⟨b, 0, none⟩ (.int .i64 t.g)).setCell ⟨b, 1, none⟩ (.slice t.lo t.ll t.lc)).setCell ⟨b, 2, none⟩ (.slice t.co t.cl t.cc)).setCell ⟨b, 3, none⟩ (.slice t.no t.nl t.nc)).setCell ⟨b, 4, none⟩ (.slice t.oo t.ol t.oc)) b t := by
  have e0 := heap_setCell_same u b 0 _ _ (.int .i64 t.g) h
  have e1 := heap_setCell_same _ b 1 _ _ (.slice t.lo t.ll t.lc) e0
  have e2 := heap_setCell_same _ b 2 _ _ (.slice t.co t.cl t.cc) e1
  have e3 := heap_setCell_same _ b 3 _ _ (.slice t.no t.nl t.nc) e2
  exact heap_setCell_same _ b 4 _ _ (.slice t.oo t.ol t.oc) e3
theorem leg_g {es : List Ev} {m : Scn} (h : legS scn0 es = (m, es.length, 0)) : 1 ≤ m.g ∧ m.g ≤ 16 := by
  have h1 : scB (legS scn0 es).1 = true := leg_ok es scn0 (by decide)
  rw [h] at h1
  have h2 := (scB_parts h1).1
  simpa [inB] using h2

set_option maxRecDepth 20000 in
set_option maxHeartbeats 4000000 in
theorem trace_any {w : World} {d n cap : Nat} {ao : Option Addr} (N : Int) (h : DX w w d ao n cap) (hn : n ≤ 4096) (hN : 1 ≤ N) (hN2 : N ≤ 200) (hb : 0 < n → ∀ q, blk ao = some q → q < w.heap.size) :
    Calls Tryz.prog 16 #[.pointer (some ⟨d, 0, none⟩), .int .i64 N] w fun x w' => ∃ (es : List Ev) (g c : Nat) (m : Scn), x = .returned (.slice (some ⟨g, 0, none⟩) es.length c) ∧ w'.ownsRow w.heap.size 31 8 (.slice (some ⟨g, 0, none⟩) es.length c) es.length (es.flatMap evCells) ∧ (legS scn0 es = (m, es.length, 0) ∧ 3 ≤ m.g) ∧ (2 ≤ es.length ∧ es.length ≤ 210) ∧ DX w w' d ao n cap := by
  obtain ⟨i0, x0, hd0⟩ := h.dice
  have hdl : d < w.heap.size := hd0.lt
  have fA := Fr.alloc w (.cells #[.int .i64 1, .int .i64 0, .int .i64 1, .int .i64 0, .int .i64 0, .int .i64 0, .int .i64 0, .int .i64 0, .int .i64 1, .int .i64 0, .int .i64 2, .int .i64 0, .int .i64 0, .int .i64 0, .int .i64 0, .int .i64 0] 31)
  have o0 := World.ownsRow_lit (base := w.heap.size) (e := 31) (size := 8) w #[.int .i64 1, .int .i64 0, .int .i64 1, .int .i64 0, .int .i64 0, .int .i64 0, .int .i64 0, .int .i64 0, .int .i64 1, .int .i64 0, .int .i64 2, .int .i64 0, .int .i64 0, .int .i64 0, .int .i64 0, .int .i64 0] 2 (Nat.le_refl _) (by unfold maxLen; omega) rfl
  have HO0 : Hid ((w.alloc (.cells #[.int .i64 1, .int .i64 0, .int .i64 1, .int .i64 0, .int .i64 0, .int .i64 0, .int .i64 0, .int .i64 0, .int .i64 1, .int .i64 0, .int .i64 2, .int .i64 0, .int .i64 0, .int .i64 0, .int .i64 0, .int .i64 0] 31)).ownsRow w.heap.size 31 8 (.slice (some ⟨w.heap.size, 0, none⟩) es0.length 2) es0.length (es0.flatMap evCells)) := o0
  have cA := specAfterB_any (some ⟨w.heap.size, 0, none⟩) 2 2 es0 (w.alloc (.cells #[.int .i64 1, .int .i64 0, .int .i64 1, .int .i64 0, .int .i64 0, .int .i64 0, .int .i64 0, .int .i64 0, .int .i64 1, .int .i64 0, .int .i64 2, .int .i64 0, .int .i64 0, .int .i64 0, .int .i64 0, .int .i64 0] 31)) rfl (own_readsE HO0.out (by decide))
  have D0 := h.fr fA
  clear h hd0 o0
  go_enter Tryz.func16, Tryz.ntmps16
  go_wp2_with fail
  refine cA.mono ?_
  rintro x u1 ⟨⟨sg, lo, ll, lc, co, cl, cc, no, nl, nc, oo, ol, oc⟩, B, rfl, S1, f1, hB⟩
  have fB := Fr.alloc u1 (.cells #[.int .i64 sg, .slice lo ll lc, .slice co cl cc, .slice no nl nc, .slice oo ol oc] 29)
  have kS := ScK.new u1 ⟨sg, lo, ll, lc, co, cl, cc, no, nl, nc, oo, ol, oc⟩
  simp only at kS
  have hz1 := f1.size
  simp only [World.size_alloc] at hz1 hB
  have hX : TX w d ao n cap u1.heap.size w.heap.size (w.heap.size + 1) u1.heap.size 2 es0 ⟨sg, lo, ll, lc, co, cl, cc, no, nl, nc, oo, ol, oc⟩ ⟨3, [], [], [], []⟩ (u1.alloc (.cells #[.int .i64 sg, .slice lo ll lc, .slice co cl cc, .slice no nl nc, .slice oo ol oc] 29)) :=
    { dx := (D0.fr f1).fr fB
      own := (HO0.out.kept f1 (by simp [Value.ownBlock])).kept fB (by simp [Value.ownBlock])
      sc := kS
      scr := (S1.mono (fun b q => hB b q)).fr fB
      leg := leg_es0
      three := by decide
      bs := by have := fB.size; omega }
  clear cA S1 hB kS D0 HO0 fA f1 fB hz1
  go_wp2_with fail
  obtain ⟨V, hV⟩ : ∃ V, V = u1.alloc (.cells #[.int .i64 sg, .slice lo ll lc, .slice co cl cc, .slice no nl nc, .slice oo ol oc] 29) := ⟨_, rfl⟩
  rw [← hV] at hX ⊢
  obtain ⟨sb, hsb⟩ : ∃ sb, sb = u1.heap.size := ⟨_, rfl⟩
  rw [← hsb] at hX ⊢
  clear hV hsb
  refine (belowX hX.dx hn N hN (by omega)).mono ?_
  rintro x u2 ⟨r, rfl, r0, r1, g2, D2⟩
  have hX := hX.dice hdl ⟨g2, D2.dice, D2.row, D2.ap⟩
  obtain ⟨k0, hk0⟩ : ∃ k0 : Nat, r + 2 = k0 := ⟨(r + 2).toNat, by omega⟩
  have hwr : IntKind.i64.wrap (r + 2) = (k0 : Int) := by rw [IntKind.wrap_i64]; omega
  have hkb : k0 ≤ 202 := by omega
  clear g2 D2 hk0 r0 r1
  go_wp2_with fail
  go_loopw [1, 5] (fun c l wr => ∃ (k : Nat) (es : List Ev) (g c' lo hi : Nat) (s : Sv) (m : Scn), c = .int .i64 k ∧ k ≤ 202 ∧ l = .slice (some ⟨g, 0, none⟩) es.length c' ∧ Hid (TX w d ao n cap sb g lo hi c' es s m wr) ∧ Hid (2 ≤ es.length ∧ es.length + k ≤ 204)) (fun c _ _ => (intOf c).toNat)
  case atStart => exact ⟨k0, es0, w.heap.size, 2, _, _, _, _, rfl, hkb, rfl, hX, ⟨by decide, by simp [es0]; omega⟩⟩
  case round =>
    clear hX hwr
    obtain ⟨k, es, g, c', lo1, hi1, ⟨sg, lo, ll, lc, co, cl, cc, no, nl, nc, oo, ol, oc⟩, m, rfl, hk, rfl, HX, HL⟩ := hrel
    by_cases hk0 : k = 0
    · subst hk0
      go_wp2_with fail
      go_ret
      exact ⟨es, g, c', m, rfl, HX.out.own, ⟨HX.out.leg, HX.out.three⟩, ⟨HL.out.1, by have := HL.out.2; omega⟩, HX.out.dx⟩
    · have hkp : (0 : Int) < k := by omega
      have hX := HX.out
      have hsg : sg = m.g := hX.scr.g
      have hGb := leg_g hX.leg
      obtain ⟨s0, s1, s2, s3, s4⟩ := hX.sc.at
      simp only at s0 s1 s2 s3 s4
      have hwk : IntKind.i64.wrap ((k : Int) - 1) = ((k - 1 : Nat) : Int) := by rw [IntKind.wrap_i64]; omega
      have cC := chance_any sg hX.dx.self hn (by omega) (by omega) (fun q p hp => by have := hb q p hp; have := hX.dx.g.size; omega)
      have HSG : Hid (sg = m.g) := hsg
      clear hX hsg hGb hk0
      go_wp2_with fail
      refine cC.mono ?_
      rintro x u3 ⟨⟨ek, eg, eo, ew, el, ez, ef, et⟩, rfl, D3⟩
      clear cC s0 s1 s2 s3 s4
      have HX3 : Hid (TX w d ao n cap sb g lo1 hi1 c' es ⟨sg, lo, ll, lc, co, cl, cc, no, nl, nc, oo, ol, oc⟩ m (u3.alloc (.cells #[.int .i64 ek, .int .i64 eg, .int .i64 eo, .int .i64 ew, .int .i64 el, .int .i64 ez, .int .i64 ef, .int .i64 et] 31))) := (HX.out.dice hdl D3).fr (Fr.alloc _ _)
      have kE := EvB.new u3 ⟨ek, eg, eo, ew, el, ez, ef, et⟩
      simp only at kE
      clear HX D3
      obtain ⟨s0, s1, s2, s3, s4⟩ := HX3.out.sc.at
      simp only at s0 s1 s2 s3 s4
      obtain ⟨c0, c1, c2, c3, c4, c5, c6, c7⟩ := kE.at
      simp only at c0 c1 c2 c3 c4 c5 c6 c7
      by_cases h5 : 5 ≤ sg
      · by_cases h1 : ek = 1
        · subst h1
          go_wp2_with fail
          go_roundw
          case rel => exact ⟨k - 1, es, g, c', lo1, hi1, _, m, rfl, by omega, rfl, HX3, ⟨HL.out.1, by have := HL.out.2; omega⟩⟩
          case measure => simp [intOf]; omega
        · have hb1 : (ek == 1) = false := by simp [h1]
          go_wp2_with fail
          obtain ⟨V3, hV3⟩ : ∃ V, V = u3.alloc (.cells #[.int .i64 ek, .int .i64 eg, .int .i64 eo, .int .i64 ew, .int .i64 el, .int .i64 ez, .int .i64 ef, .int .i64 et] 31) := ⟨_, rfl⟩
          rw [← hV3] at HX3 kE ⊢
          obtain ⟨eb, heb⟩ : ∃ eb, eb = u3.heap.size := ⟨_, rfl⟩
          rw [← heb] at kE ⊢
          clear hV3 heb s0 s1 s2 s3 s4 c0 c1 c2 c3 c4 c5 c6 c7
          have cD := specDone_any ⟨sg, lo, ll, lc, co, cl, cc, no, nl, nc, oo, ol, oc⟩ m ⟨ek, eg, eo, ew, el, ez, ef, et⟩ V3 HX3.out.scr
          simp only at cD
          refine cD.mono ?_
          rintro x u4 ⟨⟨pg, plo, pll, plc, pco, pcl, pcc, pno, pnl, pnc, poo, pol, poc⟩, rfl, S4, f4⟩
          clear cD
          have fX := Fr.alloc u4 (.cells #[.int .i64 pg, .slice plo pll plc, .slice pco pcl pcc, .slice pno pnl pnc, .slice poo pol poc] 29)
          have kX := ScK.new u4 ⟨pg, plo, pll, plc, pco, pcl, pcc, pno, pnl, pnc, poo, pol, poc⟩
          simp only at kX
          have F4 := f4.trans fX
          have hebl := kE.lt
          have kE4 := kE.keep F4 (by simp)
          have HX4 : Hid (TX w d ao n cap sb g lo1 hi1 c' es ⟨sg, lo, ll, lc, co, cl, cc, no, nl, nc, oo, ol, oc⟩ m (u4.alloc (.cells #[.int .i64 pg, .slice plo pll plc, .slice pco pcl pcc, .slice pno pnl pnc, .slice poo pol poc] 29))) := HX3.out.fr F4
          obtain ⟨C, hC⟩ : ∃ C, C = codeIn m ⟨ek, eg, eo, ew, el, ez, ef, et⟩ := ⟨_, rfl⟩
          rw [← hC]
          have HC : Hid (C = codeIn m ⟨ek, eg, eo, ew, el, ez, ef, et⟩) := hC
          clear hC
          by_cases hC0 : C = 0
          · have hcb : (C == 0) = true := by simp [hC0]
            have HC0 : Hid (codeIn m ⟨ek, eg, eo, ew, el, ez, ef, et⟩ = 0) := HC.out.symm.trans hC0
            clear hC0
            have z4 := f4.size
            obtain ⟨c0, c1, c2, c3, c4, c5, c6, c7⟩ := kE4.at
            simp only at c0 c1 c2 c3 c4 c5 c6 c7
            have hbx := HX4.out.bs
            have hbv := HX3.out.bs
            have hog := HX3.out.own.lt g rfl
            have hsl := HX3.out.sc.lt
            have fY := Fr.alloc (u4.alloc (.cells #[.int .i64 pg, .slice plo pll plc, .slice pco pcl pcc, .slice pno pnl pnc, .slice poo pol poc] 29)) (.cells #[.int .i64 ek, .int .i64 eg, .int .i64 eo, .int .i64 ew, .int .i64 el, .int .i64 ez, .int .i64 ef, .int .i64 et] 31)
            have HO : Hid (OwnE ((u4.alloc (.cells #[.int .i64 pg, .slice plo pll plc, .slice pco pcl pcc, .slice pno pnl pnc, .slice poo pol poc] 29)).alloc (.cells #[.int .i64 ek, .int .i64 eg, .int .i64 eo, .int .i64 ew, .int .i64 el, .int .i64 ez, .int .i64 ef, .int .i64 et] 31)) w.heap.size (.slice (some ⟨g, 0, none⟩) es.length c') es) := ⟨g, c', rfl, (HX4.out.fr fY).own, by have := HL.out; omega⟩
            have HE : Hid (EvC ((u4.alloc (.cells #[.int .i64 pg, .slice plo pll plc, .slice pco pcl pcc, .slice pno pnl pnc, .slice poo pol poc] 29)).alloc (.cells #[.int .i64 ek, .int .i64 eg, .int .i64 eo, .int .i64 ew, .int .i64 el, .int .i64 ez, .int .i64 ef, .int .i64 et] 31)) (u4.heap.size + 1) 0 ⟨ek, eg, eo, ew, el, ez, ef, et⟩) := by
              have q := EvB.new (u4.alloc (.cells #[.int .i64 pg, .slice plo pll plc, .slice pco pcl pcc, .slice pno pnl pnc, .slice poo pol poc] 29)) ⟨ek, eg, eo, ew, el, ez, ef, et⟩
              simp only [World.size_alloc] at q
              obtain ⟨d0, d1, d2, d3, d4, d5, d6, d7⟩ := q.at
              exact ⟨d0, d1, d2, d3, d4, d5, d6, d7⟩
            have HKX : Hid (ScK ((u4.alloc (.cells #[.int .i64 pg, .slice plo pll plc, .slice pco pcl pcc, .slice pno pnl pnc, .slice poo pol poc] 29)).alloc (.cells #[.int .i64 ek, .int .i64 eg, .int .i64 eo, .int .i64 ew, .int .i64 el, .int .i64 ez, .int .i64 ef, .int .i64 et] 31)) u4.heap.size ⟨pg, plo, pll, plc, pco, pcl, pcc, pno, pnl, pnc, poo, pol, poc⟩) := kX.fr fY
            have HS4 : Hid (ScR (fun x => V3.heap.size ≤ x ∧ x < u4.heap.size) ((u4.alloc (.cells #[.int .i64 pg, .slice plo pll plc, .slice pco pcl pcc, .slice pno pnl pnc, .slice poo pol poc] 29)).alloc (.cells #[.int .i64 ek, .int .i64 eg, .int .i64 eo, .int .i64 ew, .int .i64 el, .int .i64 ez, .int .i64 ef, .int .i64 et] 31)) ⟨pg, plo, pll, plc, pco, pcl, pcc, pno, pnl, pnc, poo, pol, poc⟩ (doneS m ⟨ek, eg, eo, ew, el, ez, ef, et⟩)) := (S4.fr fX).fr fY
            have HXY : Hid (TX w d ao n cap sb g lo1 hi1 c' es ⟨sg, lo, ll, lc, co, cl, cc, no, nl, nc, oo, ol, oc⟩ m ((u4.alloc (.cells #[.int .i64 pg, .slice plo pll plc, .slice pco pcl pcc, .slice pno pnl pnc, .slice poo pol poc] 29)).alloc (.cells #[.int .i64 ek, .int .i64 eg, .int .i64 eo, .int .i64 ew, .int .i64 el, .int .i64 ez, .int .i64 ef, .int .i64 et] 31))) := HX4.out.fr fY
            have HZY : Hid (((u4.alloc (.cells #[.int .i64 pg, .slice plo pll plc, .slice pco pcl pcc, .slice pno pnl pnc, .slice poo pol poc] 29)).alloc (.cells #[.int .i64 ek, .int .i64 eg, .int .i64 eo, .int .i64 ew, .int .i64 el, .int .i64 ez, .int .i64 ef, .int .i64 et] 31)).heap.size = u4.heap.size + 2) := by simp [Hid]
            have hwz : w.heap.size ≤ u4.heap.size + 2 := by omega
            have hel : es.length ≤ 16777215 := by have := HL.out; omega
            clear S4 fX fY F4 f4 kX kE kE4 HX4
            go_wp2_with (at_builtin; refine appE _ rfl _ _ rfl w.heap.size (.slice (some ⟨g, 0, none⟩) es.length c') es ⟨ek, eg, eo, ew, el, ez, ef, et⟩ rfl HO.out (u4.heap.size + 1) 1 rfl HE.out hel (by rw [HZY.out]; exact hwz) ?_; intro v5 w5 hv5 hg5 hat5; have kx5 := ScK.keep HKX.out hg5 (by simp only [Value.ownBlock, ne_eq, Option.some.injEq]; omega); have ks5 := ScK.keep HXY.out.sc hg5 (by simp only [Value.ownBlock, ne_eq, Option.some.injEq]; omega); obtain ⟨x0, x1, x2, x3, x4⟩ := kx5.at; obtain ⟨t0, t1, t2, t3, t4⟩ := ks5.at; have tf := fun i => ks5.free i; simp only at x0 x1 x2 x3 x4 t0 t1 t2 t3 t4)
            obtain ⟨g5, c5, rfl, ho5, hl5⟩ := hv5
            have hat6 : g5 = g ∨ g5 = u4.heap.size + 2 := by
              simp only [Value.ownBlock, Option.some.injEq] at hat5
              rw [HZY.out] at hat5
              exact hat5
            have k6 := put5 w5 sb (.int .i64 pg) (.slice plo pll plc) (.slice pco pcl pcc) (.slice pno pnl pnc) (.slice poo pol poc)
            have z5 := hg5.size
            rw [HZY.out] at z5
            have z6 := k6.size
            have hl1 : (es ++ [(⟨ek, eg, eo, ew, el, ez, ef, et⟩ : Ev)]).length = es.length + 1 := by simp
            have hn5 : (⟨ek, eg, eo, ew, el, ez, ef, et⟩ : Ev) = ⟨ek, eg, eo, ew, el, ez, ef, et⟩ := rfl
            have hok := (code_parts HC0.out).2.1
            have hnew : TX w d ao n cap sb g5 V3.heap.size u4.heap.size c5 (es ++ [⟨ek, eg, eo, ew, el, ez, ef, et⟩]) ⟨pg, plo, pll, plc, pco, pcl, pcc, pno, pnl, pnc, poo, pol, poc⟩ (doneS m ⟨ek, eg, eo, ew, el, ez, ef, et⟩) (((((w5.setCell ⟨sb, 0, none⟩ (.int .i64 pg)).setCell ⟨sb, 1, none⟩ (.slice plo pll plc)).setCell ⟨sb, 2, none⟩ (.slice pco pcl pcc)).setCell ⟨sb, 3, none⟩ (.slice pno pnl pnc)).setCell ⟨sb, 4, none⟩ (.slice poo pol poc)) :=
              { dx := (DX.past (A := g) HXY.out.dx hg5 ⟨by omega, by omega⟩ hb).past k6 ⟨by omega, by omega⟩ hb
                own := ho5.kept k6 (.inr (by simp only [Value.ownBlock, ne_eq, Option.some.injEq]; omega))
                sc := ks5.put5 ⟨pg, plo, pll, plc, pco, pcl, pcc, pno, pnl, pnc, poo, pol, poc⟩
                scr := (HS4.out.keep hg5 (fun j hj q => by simp only [Value.ownBlock, Option.some.injEq] at hj; omega)).keep k6 (fun j hj q => by simp only [Option.some.injEq] at hj; omega)
                leg := by rw [done_yes hok HC0.out, hl1]; exact leg_snoc es scn0 m HXY.out.leg HC0.out
                three := by rw [done_yes hok HC0.out]; have := do_g m ⟨ek, eg, eo, ew, el, ez, ef, et⟩; have := HXY.out.three; omega
                bs := by omega }
            go_roundw
            case rel => exact ⟨k - 1, es ++ [(⟨ek, eg, eo, ew, el, ez, ef, et⟩ : Ev)], g5, c5, V3.heap.size, u4.heap.size, ⟨pg, plo, pll, plc, pco, pcl, pcc, pno, pnl, pnc, poo, pol, poc⟩, doneS m ⟨ek, eg, eo, ew, el, ez, ef, et⟩, rfl, by omega, by rw [hl1], hnew, ⟨by have := HL.out; rw [hl1]; omega, by have := HL.out; rw [hl1]; omega⟩⟩
            case measure => simp [intOf]; omega
          · have hcb : (C == 0) = false := by simpa using hC0
            go_wp2_with fail
            go_roundw
            case rel => exact ⟨k - 1, es, g, c', lo1, hi1, _, m, rfl, by omega, rfl, HX4, ⟨HL.out.1, by have := HL.out.2; omega⟩⟩
            case measure => simp [intOf]; omega
      · have h5' : sg < 5 := by omega
        go_wp2_with fail
        obtain ⟨V3, hV3⟩ : ∃ V, V = u3.alloc (.cells #[.int .i64 ek, .int .i64 eg, .int .i64 eo, .int .i64 ew, .int .i64 el, .int .i64 ez, .int .i64 ef, .int .i64 et] 31) := ⟨_, rfl⟩
        rw [← hV3] at HX3 kE ⊢
        obtain ⟨eb, heb⟩ : ∃ eb, eb = u3.heap.size := ⟨_, rfl⟩
        rw [← heb] at kE ⊢
        clear hV3 heb s0 s1 s2 s3 s4 c0 c1 c2 c3 c4 c5 c6 c7
        have cD := specDone_any ⟨sg, lo, ll, lc, co, cl, cc, no, nl, nc, oo, ol, oc⟩ m ⟨ek, eg, eo, ew, el, ez, ef, et⟩ V3 HX3.out.scr
        simp only at cD
        refine cD.mono ?_
        rintro x u4 ⟨⟨pg, plo, pll, plc, pco, pcl, pcc, pno, pnl, pnc, poo, pol, poc⟩, rfl, S4, f4⟩
        clear cD
        have fX := Fr.alloc u4 (.cells #[.int .i64 pg, .slice plo pll plc, .slice pco pcl pcc, .slice pno pnl pnc, .slice poo pol poc] 29)
        have kX := ScK.new u4 ⟨pg, plo, pll, plc, pco, pcl, pcc, pno, pnl, pnc, poo, pol, poc⟩
        simp only at kX
        have F4 := f4.trans fX
        have hebl := kE.lt
        have kE4 := kE.keep F4 (by simp)
        have HX4 : Hid (TX w d ao n cap sb g lo1 hi1 c' es ⟨sg, lo, ll, lc, co, cl, cc, no, nl, nc, oo, ol, oc⟩ m (u4.alloc (.cells #[.int .i64 pg, .slice plo pll plc, .slice pco pcl pcc, .slice pno pnl pnc, .slice poo pol poc] 29))) := HX3.out.fr F4
        obtain ⟨C, hC⟩ : ∃ C, C = codeIn m ⟨ek, eg, eo, ew, el, ez, ef, et⟩ := ⟨_, rfl⟩
        rw [← hC]
        have HC : Hid (C = codeIn m ⟨ek, eg, eo, ew, el, ez, ef, et⟩) := hC
        clear hC
        by_cases hC0 : C = 0
        · have hcb : (C == 0) = true := by simp [hC0]
          have HC0 : Hid (codeIn m ⟨ek, eg, eo, ew, el, ez, ef, et⟩ = 0) := HC.out.symm.trans hC0
          clear hC0
          have z4 := f4.size
          obtain ⟨c0, c1, c2, c3, c4, c5, c6, c7⟩ := kE4.at
          simp only at c0 c1 c2 c3 c4 c5 c6 c7
          have hbx := HX4.out.bs
          have hbv := HX3.out.bs
          have hog := HX3.out.own.lt g rfl
          have hsl := HX3.out.sc.lt
          have fY := Fr.alloc (u4.alloc (.cells #[.int .i64 pg, .slice plo pll plc, .slice pco pcl pcc, .slice pno pnl pnc, .slice poo pol poc] 29)) (.cells #[.int .i64 ek, .int .i64 eg, .int .i64 eo, .int .i64 ew, .int .i64 el, .int .i64 ez, .int .i64 ef, .int .i64 et] 31)
          have HO : Hid (OwnE ((u4.alloc (.cells #[.int .i64 pg, .slice plo pll plc, .slice pco pcl pcc, .slice pno pnl pnc, .slice poo pol poc] 29)).alloc (.cells #[.int .i64 ek, .int .i64 eg, .int .i64 eo, .int .i64 ew, .int .i64 el, .int .i64 ez, .int .i64 ef, .int .i64 et] 31)) w.heap.size (.slice (some ⟨g, 0, none⟩) es.length c') es) := ⟨g, c', rfl, (HX4.out.fr fY).own, by have := HL.out; omega⟩
          have HE : Hid (EvC ((u4.alloc (.cells #[.int .i64 pg, .slice plo pll plc, .slice pco pcl pcc, .slice pno pnl pnc, .slice poo pol poc] 29)).alloc (.cells #[.int .i64 ek, .int .i64 eg, .int .i64 eo, .int .i64 ew, .int .i64 el, .int .i64 ez, .int .i64 ef, .int .i64 et] 31)) (u4.heap.size + 1) 0 ⟨ek, eg, eo, ew, el, ez, ef, et⟩) := by
            have q := EvB.new (u4.alloc (.cells #[.int .i64 pg, .slice plo pll plc, .slice pco pcl pcc, .slice pno pnl pnc, .slice poo pol poc] 29)) ⟨ek, eg, eo, ew, el, ez, ef, et⟩
            simp only [World.size_alloc] at q
            obtain ⟨d0, d1, d2, d3, d4, d5, d6, d7⟩ := q.at
            exact ⟨d0, d1, d2, d3, d4, d5, d6, d7⟩
          have HKX : Hid (ScK ((u4.alloc (.cells #[.int .i64 pg, .slice plo pll plc, .slice pco pcl pcc, .slice pno pnl pnc, .slice poo pol poc] 29)).alloc (.cells #[.int .i64 ek, .int .i64 eg, .int .i64 eo, .int .i64 ew, .int .i64 el, .int .i64 ez, .int .i64 ef, .int .i64 et] 31)) u4.heap.size ⟨pg, plo, pll, plc, pco, pcl, pcc, pno, pnl, pnc, poo, pol, poc⟩) := kX.fr fY
          have HS4 : Hid (ScR (fun x => V3.heap.size ≤ x ∧ x < u4.heap.size) ((u4.alloc (.cells #[.int .i64 pg, .slice plo pll plc, .slice pco pcl pcc, .slice pno pnl pnc, .slice poo pol poc] 29)).alloc (.cells #[.int .i64 ek, .int .i64 eg, .int .i64 eo, .int .i64 ew, .int .i64 el, .int .i64 ez, .int .i64 ef, .int .i64 et] 31)) ⟨pg, plo, pll, plc, pco, pcl, pcc, pno, pnl, pnc, poo, pol, poc⟩ (doneS m ⟨ek, eg, eo, ew, el, ez, ef, et⟩)) := (S4.fr fX).fr fY
          have HXY : Hid (TX w d ao n cap sb g lo1 hi1 c' es ⟨sg, lo, ll, lc, co, cl, cc, no, nl, nc, oo, ol, oc⟩ m ((u4.alloc (.cells #[.int .i64 pg, .slice plo pll plc, .slice pco pcl pcc, .slice pno pnl pnc, .slice poo pol poc] 29)).alloc (.cells #[.int .i64 ek, .int .i64 eg, .int .i64 eo, .int .i64 ew, .int .i64 el, .int .i64 ez, .int .i64 ef, .int .i64 et] 31))) := HX4.out.fr fY
          have HZY : Hid (((u4.alloc (.cells #[.int .i64 pg, .slice plo pll plc, .slice pco pcl pcc, .slice pno pnl pnc, .slice poo pol poc] 29)).alloc (.cells #[.int .i64 ek, .int .i64 eg, .int .i64 eo, .int .i64 ew, .int .i64 el, .int .i64 ez, .int .i64 ef, .int .i64 et] 31)).heap.size = u4.heap.size + 2) := by simp [Hid]
          have hwz : w.heap.size ≤ u4.heap.size + 2 := by omega
          have hel : es.length ≤ 16777215 := by have := HL.out; omega
          clear S4 fX fY F4 f4 kX kE kE4 HX4
          go_wp2_with (at_builtin; refine appE _ rfl _ _ rfl w.heap.size (.slice (some ⟨g, 0, none⟩) es.length c') es ⟨ek, eg, eo, ew, el, ez, ef, et⟩ rfl HO.out (u4.heap.size + 1) 1 rfl HE.out hel (by rw [HZY.out]; exact hwz) ?_; intro v5 w5 hv5 hg5 hat5; have kx5 := ScK.keep HKX.out hg5 (by simp only [Value.ownBlock, ne_eq, Option.some.injEq]; omega); have ks5 := ScK.keep HXY.out.sc hg5 (by simp only [Value.ownBlock, ne_eq, Option.some.injEq]; omega); obtain ⟨x0, x1, x2, x3, x4⟩ := kx5.at; obtain ⟨t0, t1, t2, t3, t4⟩ := ks5.at; have tf := fun i => ks5.free i; simp only at x0 x1 x2 x3 x4 t0 t1 t2 t3 t4)
          obtain ⟨g5, c5, rfl, ho5, hl5⟩ := hv5
          have hat6 : g5 = g ∨ g5 = u4.heap.size + 2 := by
            simp only [Value.ownBlock, Option.some.injEq] at hat5
            rw [HZY.out] at hat5
            exact hat5
          have k6 := put5 w5 sb (.int .i64 pg) (.slice plo pll plc) (.slice pco pcl pcc) (.slice pno pnl pnc) (.slice poo pol poc)
          have z5 := hg5.size
          rw [HZY.out] at z5
          have z6 := k6.size
          have hl1 : (es ++ [(⟨ek, eg, eo, ew, el, ez, ef, et⟩ : Ev)]).length = es.length + 1 := by simp
          have hn5 : (⟨ek, eg, eo, ew, el, ez, ef, et⟩ : Ev) = ⟨ek, eg, eo, ew, el, ez, ef, et⟩ := rfl
          have hok := (code_parts HC0.out).2.1
          have hnew : TX w d ao n cap sb g5 V3.heap.size u4.heap.size c5 (es ++ [⟨ek, eg, eo, ew, el, ez, ef, et⟩]) ⟨pg, plo, pll, plc, pco, pcl, pcc, pno, pnl, pnc, poo, pol, poc⟩ (doneS m ⟨ek, eg, eo, ew, el, ez, ef, et⟩) (((((w5.setCell ⟨sb, 0, none⟩ (.int .i64 pg)).setCell ⟨sb, 1, none⟩ (.slice plo pll plc)).setCell ⟨sb, 2, none⟩ (.slice pco pcl pcc)).setCell ⟨sb, 3, none⟩ (.slice pno pnl pnc)).setCell ⟨sb, 4, none⟩ (.slice poo pol poc)) :=
            { dx := (DX.past (A := g) HXY.out.dx hg5 ⟨by omega, by omega⟩ hb).past k6 ⟨by omega, by omega⟩ hb
              own := ho5.kept k6 (.inr (by simp only [Value.ownBlock, ne_eq, Option.some.injEq]; omega))
              sc := ks5.put5 ⟨pg, plo, pll, plc, pco, pcl, pcc, pno, pnl, pnc, poo, pol, poc⟩
              scr := (HS4.out.keep hg5 (fun j hj q => by simp only [Value.ownBlock, Option.some.injEq] at hj; omega)).keep k6 (fun j hj q => by simp only [Option.some.injEq] at hj; omega)
              leg := by rw [done_yes hok HC0.out, hl1]; exact leg_snoc es scn0 m HXY.out.leg HC0.out
              three := by rw [done_yes hok HC0.out]; have := do_g m ⟨ek, eg, eo, ew, el, ez, ef, et⟩; have := HXY.out.three; omega
              bs := by omega }
          go_roundw
          case rel => exact ⟨k - 1, es ++ [(⟨ek, eg, eo, ew, el, ez, ef, et⟩ : Ev)], g5, c5, V3.heap.size, u4.heap.size, ⟨pg, plo, pll, plc, pco, pcl, pcc, pno, pnl, pnc, poo, pol, poc⟩, doneS m ⟨ek, eg, eo, ew, el, ez, ef, et⟩, rfl, by omega, by rw [hl1], hnew, ⟨by have := HL.out; rw [hl1]; omega, by have := HL.out; rw [hl1]; omega⟩⟩
          case measure => simp [intOf]; omega
        · have hcb : (C == 0) = false := by simpa using hC0
          go_wp2_with fail
          go_roundw
          case rel => exact ⟨k - 1, es, g, c', lo1, hi1, _, m, rfl, by omega, rfl, HX4, ⟨HL.out.1, by have := HL.out.2; omega⟩⟩
          case measure => simp [intOf]; omega
end Go.Proofs.YtihdablgnmkjnaaGreatDoor
/-
  Touches: the model, how a list of them lies in memory, the walks of eqTouchS, markTouchS, heldTouchS.
-/
namespace Go.Proofs.YtihdablgnmkjnaaGreatDoor
open Go.RowKit

/-- A touch: its space, its object, its slot; does it take, does it give? -/
structure Tch where
  sp : Int
  ob : Int
  sl : Int
  tk : Bool
  gv : Bool
def layT : Lay Tch where
  ty := 52
  sz := 5
  cs l := [.int .i64 l.sp, .int .i64 l.ob, .int .i64 l.sl, .bool l.tk, .bool l.gv]
  pos := by omega
  len _ := rfl
  one x u hu := by
    simp only [List.mem_cons, List.not_mem_nil, or_false] at hu
    rcases hu with rfl | rfl | rfl | rfl | rfl <;> rfl
theorem tc_at {w : World} {ao : Option Addr} {cs : List Tch} (h : ReadsG layT w ao cs) (k : Nat) (hk : k < cs.length) : ∃ b off, ao = some ⟨b, off, none⟩ ∧ w.cell? ⟨b, off + k * 5, none⟩ = some (.int .i64 cs[k].sp) ∧ w.cell? ⟨b, off + k * 5 + 1, none⟩ = some (.int .i64 cs[k].ob) ∧ w.cell? ⟨b, off + k * 5 + 2, none⟩ = some (.int .i64 cs[k].sl) ∧ w.cell? ⟨b, off + k * 5 + 3, none⟩ = some (.bool cs[k].tk) ∧ w.cell? ⟨b, off + k * 5 + 4, none⟩ = some (.bool cs[k].gv) := by
  obtain ⟨b, off, e, hc⟩ := h.at_ k hk
  exact ⟨b, off, e, hc k hk 0 (by decide), hc k hk 1 (by decide), hc k hk 2 (by decide), hc k hk 3 (by decide), hc k hk 4 (by decide)⟩
set_option maxHeartbeats 600000 in
theorem eqTouch_same (c : Tch) (w : World) :
    Calls Tryz.prog 90 #[.agg #[.int .i64 c.sp, .int .i64 c.ob, .int .i64 c.sl, .bool c.tk, .bool c.gv], .agg #[.int .i64 c.sp, .int .i64 c.ob, .int .i64 c.sl, .bool c.tk, .bool c.gv]] w fun e w' => e = .returned (.bool true) ∧ Fr w w' := by
  have F := (Fr.alloc w (.cells #[.int .i64 c.sp, .int .i64 c.ob, .int .i64 c.sl, .bool c.tk, .bool c.gv] 52)).trans (Fr.alloc _ (.cells #[.int .i64 c.sp, .int .i64 c.ob, .int .i64 c.sl, .bool c.tk, .bool c.gv] 52))
  obtain ⟨o, cap, sent, got, cl⟩ := c
  simp only at F ⊢
  cases cl <;> cases got
  all_goals
    go_enter Tryz.func90, Tryz.ntmps90
    go_wp2_with fail
    go_ret
    exact ⟨rfl, F⟩

set_option maxHeartbeats 1000000 in
theorem eqTouchS_same (ao bo : Option Addr) (n c d : Nat) (es : List Tch) (w : World) (hn : es.length = n) (hl : es.length ≤ 1048576) (h : ReadsG layT w ao es) (h' : ReadsG layT w bo es) :
    Calls Tryz.prog 33 #[.slice ao n c, .slice bo n d] w fun e w' => e = .returned (.bool true) ∧ Fr w w' := by
  subst hn
  go_enter Tryz.func33, Tryz.ntmps33
  go_wp2_with fail
  go_loopw [5] (fun i wr => ∃ k : Nat, k ≤ es.length ∧ i = .int .i64 k ∧ Fr w wr) (fun i _ => es.length - (intOf i).toNat)
  case atStart => exact ⟨0, Nat.zero_le _, rfl, Fr.refl w⟩
  case round =>
    obtain ⟨k, hk, rfl, hf⟩ := hrel
    by_cases hlt : k < es.length
    · obtain ⟨b, off, rfl, a0, a1, a2, a3, a4⟩ := tc_at (h.fr hf) k hlt
      obtain ⟨b', off', rfl, x0, x1, x2, x3, x4⟩ := tc_at (h'.fr hf) k hlt
      obtain ⟨e, he⟩ : ∃ e, e = es[k] := ⟨_, rfl⟩
      simp only [← he] at a0 a1 a2 a3 a4 x0 x1 x2 x3 x4
      clear he
      have cE := fun (s : Later wr) => eqTouch_same e s.u
      have := Later.some wr
      have p0 : ∀ s : Later wr, s.u.cell? ⟨b, off + k * 5, none⟩ = some (.int .i64 e.sp) := fun s => s.fr.cell a0
      have p1 : ∀ s : Later wr, s.u.cell? ⟨b, off + k * 5 + 1, none⟩ = some (.int .i64 e.ob) := fun s => s.fr.cell a1
      have p2 : ∀ s : Later wr, s.u.cell? ⟨b, off + k * 5 + 2, none⟩ = some (.int .i64 e.sl) := fun s => s.fr.cell a2
      have p3 : ∀ s : Later wr, s.u.cell? ⟨b, off + k * 5 + 3, none⟩ = some (.bool e.tk) := fun s => s.fr.cell a3
      have p4 : ∀ s : Later wr, s.u.cell? ⟨b, off + k * 5 + 4, none⟩ = some (.bool e.gv) := fun s => s.fr.cell a4
      have q0 : ∀ s : Later wr, s.u.cell? ⟨b', off' + k * 5, none⟩ = some (.int .i64 e.sp) := fun s => s.fr.cell x0
      have q1 : ∀ s : Later wr, s.u.cell? ⟨b', off' + k * 5 + 1, none⟩ = some (.int .i64 e.ob) := fun s => s.fr.cell x1
      have q2 : ∀ s : Later wr, s.u.cell? ⟨b', off' + k * 5 + 2, none⟩ = some (.int .i64 e.sl) := fun s => s.fr.cell x2
      have q3 : ∀ s : Later wr, s.u.cell? ⟨b', off' + k * 5 + 3, none⟩ = some (.bool e.tk) := fun s => s.fr.cell x3
      have q4 : ∀ s : Later wr, s.u.cell? ⟨b', off' + k * 5 + 4, none⟩ = some (.bool e.gv) := fun s => s.fr.cell x4
      clear a0 a1 a2 a3 a4 x0 x1 x2 x3 x4
      go_wp2_with fail
      refine wp_region_grown (by kernel_rfl) (by kernel_rfl) ?_
      repeat (go_big_quiet_step (with_reducible exact Calls.grown_of (cE _)))
      refine wpQuiet_nil ?_
      rintro _ ⟨s, rfl⟩
      go_wp2_with fail
      go_roundw
      case rel => exact ⟨k + 1, by omega, by go_num, hf.trans s.fr⟩
      case measure => simp [intOf]; omega
    · go_wp2_with fail
      go_ret
      exact ⟨rfl, hf⟩

/-- The marked touches. -/
def upT (q : Int) : Tch := ⟨q, q + 1, q + 1 + 1, (q + 1 + 1 + 1) % 3 == 0, (q + 1 + 1 + 1 + 1) % 3 == 0⟩
def mkT (q : Int) (n : Nat) : List Tch := (List.range n).map fun i : Nat => upT (q + 5 * (i : Int))
theorem mkT_length (q : Int) (n : Nat) : (mkT q n).length = n := by simp [mkT]
theorem mkT_succ (q : Int) (n : Nat) : mkT q (n + 1) = mkT q n ++ [upT (q + 5 * (n : Int))] := by simp [mkT, List.range_succ]
theorem mkT_at (q : Int) (n j : Nat) (h : j < (mkT q n).length) : (mkT q n)[j] = upT (q + 5 * (j : Int)) := by simp [mkT]

set_option maxRecDepth 20000 in
set_option maxHeartbeats 1000000 in
theorem markT_any (g n cap : Nat) (q : Int) (xs : List Tch) (w : World) (hn : xs.length = n) (hl : n ≤ 1048576) (q0 : 0 ≤ q) (q1 : q ≤ 4294967296) (h : ReadsG layT w (some ⟨g, 0, none⟩) xs) (hr : RowAt w g 52) :
    Calls Tryz.prog 36 #[.slice (some ⟨g, 0, none⟩) n cap, .int .i64 q] w fun e w' => e = .returned (.int .i64 (q + 5 * (n : Int))) ∧ ReadsG layT w' (some ⟨g, 0, none⟩) (mkT q n) ∧ RowAt w' g 52 ∧ w.grownBy w' (some g) := by
  subst hn
  go_enter Tryz.func36, Tryz.ntmps36
  go_wp2_with fail
  go_loopw [1, 5] (fun c i wr => ∃ k : Nat, k ≤ xs.length ∧ i = .int .i64 k ∧ c = .int .i64 (q + 5 * (k : Int)) ∧ ReadsG layT wr (some ⟨g, 0, none⟩) (mkT q k ++ xs.drop k) ∧ RowAt wr g 52 ∧ w.grownBy wr (some g)) (fun _ i _ => xs.length - (intOf i).toNat)
  case atStart => exact ⟨0, Nat.zero_le _, rfl, by simp, by simpa [mkT] using h, hr, ⟨rfl, rfl, rfl, Nat.le_refl _, fun _ _ _ => rfl⟩⟩
  case round =>
    obtain ⟨k, hk, rfl, rfl, hR, hrw, hf⟩ := hrel
    by_cases hlt : k < xs.length
    · have hkl : k < (mkT q k ++ xs.drop k).length := by rw [List.length_append, mkT_length]; simp; omega
      obtain ⟨b, off, e0, d0, d1, d2, d3, d4⟩ := tc_at hR k hkl
      simp only [Option.some.injEq, Addr.mk.injEq, and_true] at e0
      obtain ⟨rfl, rfl⟩ := e0
      simp only [Nat.zero_add] at d0 d1 d2 d3 d4
      have z0 := hrw.free (k * 5)
      have z1 := hrw.free (k * 5 + 1)
      have z2 := hrw.free (k * 5 + 2)
      have z3 := hrw.free (k * 5 + 3)
      have z4 := hrw.free (k * 5 + 4)
      have HS : Hid (∀ K, K = q + 5 * (k : Int) → ReadsG layT (((((wr.setCell ⟨g, k * 5, none⟩ (.int .i64 K)).setCell ⟨g, k * 5 + 1, none⟩ (.int .i64 (K + 1))).setCell ⟨g, k * 5 + 2, none⟩ (.int .i64 (K + 1 + 1))).setCell ⟨g, k * 5 + 3, none⟩ (.bool ((K + 1 + 1 + 1) % 3 == 0))).setCell ⟨g, k * 5 + 4, none⟩ (.bool ((K + 1 + 1 + 1 + 1) % 3 == 0))) (some ⟨g, 0, none⟩) (mkT q (k + 1) ++ xs.drop (k + 1))) := by
        intro K hK
        obtain ⟨X, hX⟩ : ∃ X, X = (mkT q k ++ xs.drop k)[k] := ⟨_, rfl⟩
        have h1 := reads_cell (L := layT) (q := 0) (e := { X with sp := K }) (v := .int .i64 K) hR hkl (by decide) (by rw [← hX]; rfl)
        have h2 := reads_cell (L := layT) (q := 1) (e := { X with sp := K, ob := K + 1 }) (v := .int .i64 (K + 1)) h1 (by simpa using hkl) (by decide) (by rw [List.getElem_set_self]; rfl)
        have h3 := reads_cell (L := layT) (q := 2) (e := { X with sp := K, ob := K + 1, sl := K + 1 + 1 }) (v := .int .i64 (K + 1 + 1)) h2 (by simpa using hkl) (by decide) (by rw [List.getElem_set_self]; rfl)
        have h4 := reads_cell (L := layT) (q := 3) (e := { X with sp := K, ob := K + 1, sl := K + 1 + 1, tk := (K + 1 + 1 + 1) % 3 == 0 }) (v := .bool ((K + 1 + 1 + 1) % 3 == 0)) h3 (by simpa using hkl) (by decide) (by rw [List.getElem_set_self]; rfl)
        have h5 := reads_cell (L := layT) (q := 4) (e := upT K) (v := .bool ((K + 1 + 1 + 1 + 1) % 3 == 0)) h4 (by simpa using hkl) (by decide) (by rw [List.getElem_set_self]; rfl)
        rw [List.set_set, List.set_set, List.set_set, List.set_set, List.drop_eq_getElem_cons hlt, set_mid _ _ _ _ _ (mkT_length q k), hK, ← mkT_succ] at h5
        rw [hK]
        exact h5
      have HR : Hid (∀ a0 a1 a2 a3 a4, RowAt (((((wr.setCell ⟨g, k * 5, none⟩ a0).setCell ⟨g, k * 5 + 1, none⟩ a1).setCell ⟨g, k * 5 + 2, none⟩ a2).setCell ⟨g, k * 5 + 3, none⟩ a3).setCell ⟨g, k * 5 + 4, none⟩ a4) g 52 ∧ w.grownBy (((((wr.setCell ⟨g, k * 5, none⟩ a0).setCell ⟨g, k * 5 + 1, none⟩ a1).setCell ⟨g, k * 5 + 2, none⟩ a2).setCell ⟨g, k * 5 + 3, none⟩ a3).setCell ⟨g, k * 5 + 4, none⟩ a4) (some g)) := fun _ _ _ _ _ => ⟨((((hrw.set _ _).set _ _).set _ _).set _ _).set _ _, grown_trans hf (grown_trans (grown_set _ _ _ _) (grown_trans (grown_set _ _ _ _) (grown_trans (grown_set _ _ _ _) (grown_trans (grown_set _ _ _ _) (grown_set _ _ _ _)))))⟩
      have hi : (k : Int) < xs.length := by omega
      have HQ : Hid (q + 5 * (k : Int) ≤ 4400000000 ∧ 0 ≤ q + 5 * (k : Int)) := ⟨by omega, by omega⟩
      obtain ⟨K, hK⟩ : ∃ K, K = q + 5 * (k : Int) := ⟨_, rfl⟩
      rw [← hK] at HQ ⊢
      have HS := HS.out K hK
      have HS : Hid _ := HS
      have HK : Hid (K = q + 5 * (k : Int)) := hK
      have hKb := HQ.out
      clear hR hrw hf hK
      go_wp2_with fail
      go_roundw
      case rel => exact ⟨k + 1, by omega, by go_num, by have := HK.out; go_num, HS.out, (HR.out _ _ _ _ _).1, (HR.out _ _ _ _ _).2⟩
      case measure => simp [intOf]; omega
    · have e : k = xs.length := by omega
      subst e
      rw [List.drop_length, List.append_nil] at hR
      go_wp2_with fail
      go_ret
      exact ⟨rfl, hR, hrw, hf⟩

set_option maxHeartbeats 1000000 in
theorem heldT_any (ao : Option Addr) (n cap : Nat) (q : Int) (w : World) (hl : n ≤ 1048576) (q0 : 0 ≤ q) (q1 : q ≤ 4294967296) (h : ReadsG layT w ao (mkT q n)) :
    Calls Tryz.prog 37 #[.slice ao n cap, .int .i64 q] w fun e w' => e = .returned (.int .i64 (q + 5 * (n : Int))) ∧ w' = w := by
  go_enter Tryz.func37, Tryz.ntmps37
  go_wp2_with fail
  go_loop [1, 5] (fun c i => ∃ k : Nat, k ≤ n ∧ i = .int .i64 k ∧ c = .int .i64 (q + 5 * (k : Int))) (fun _ i => n - (intOf i).toNat)
  case atStart => exact ⟨0, Nat.zero_le _, rfl, by simp⟩
  case round =>
    obtain ⟨k, hk, rfl, rfl⟩ := hrel
    by_cases hlt : k < n
    · have hkl : k < (mkT q n).length := by rw [mkT_length]; exact hlt
      obtain ⟨b, off, rfl, d0, d1, d2, d3, d4⟩ := tc_at h k hkl
      rw [mkT_at] at d0 d1 d2 d3 d4
      simp only [upT] at d0 d1 d2 d3 d4
      have hi : (k : Int) < n := by omega
      have hKb : q + 5 * (k : Int) ≤ 4400000000 ∧ 0 ≤ q + 5 * (k : Int) := ⟨by omega, by omega⟩
      obtain ⟨K, hK⟩ : ∃ K, K = q + 5 * (k : Int) := ⟨_, rfl⟩
      rw [← hK] at d0 d1 d2 d3 d4 hKb ⊢
      have HK : Hid (K = q + 5 * (k : Int)) := hK
      clear hK
      obtain ⟨bb, hbb⟩ : ∃ b, b = ((K + 1 + 1 + 1 + 1) % 3 == 0) := ⟨_, rfl⟩
      obtain ⟨bc, hbc⟩ : ∃ b, b = ((K + 1 + 1 + 1) % 3 == 0) := ⟨_, rfl⟩
      have hb4 : (bb != bb) = false := by simp
      have hb5 : (bc != bc) = false := by simp
      go_wp2_with fail
      go_round
      case rel => exact ⟨k + 1, by omega, by go_num, by have := HK.out; go_num⟩
      case measure => simp [intOf]; omega
    · have e : k = n := by omega
      subst e
      go_wp2_with fail
      go_ret
      exact ⟨rfl, rfl⟩
end Go.Proofs.YtihdablgnmkjnaaGreatDoor
/-
  What an event touches: the model.
-/
namespace Go.Proofs.YtihdablgnmkjnaaGreatDoor
open Go.RowKit

/-- How many of a kind and an object there are; the size of the last channel that was made of it. -/
def cntK (k o : Int) (es : List Ev) : Nat := es.countP fun e => e.o == o && e.k == k
def capK (o : Int) (es : List Ev) : Int := es.foldl (fun r e => if e.o = o ∧ e.k = 6 then e.s else r) 1
theorem cntK_one (k o : Int) (es : List Ev) (e : Ev) : cntK k o (es ++ [e]) = cntK k o es + (if e.o = o ∧ e.k = k then 1 else 0) := by
  unfold cntK
  rw [List.countP_append]
  by_cases h1 : e.o = o <;> by_cases h2 : e.k = k <;> simp [h1, h2]
theorem capK_one (o : Int) (es : List Ev) (e : Ev) : capK o (es ++ [e]) = if e.o = o ∧ e.k = 6 then e.s else capK o es := by
  unfold capK
  rw [List.foldl_append]
  rfl
/-- What an event touches, its slot given. -/
def tchL (e : Ev) (z : Int) : List Tch :=
  if e.k = 2 then [⟨1, e.o, 0, true, false⟩, ⟨2, e.o, 0, true, false⟩]
  else if e.k = 3 then [⟨1, e.o, 0, false, true⟩]
  else if e.k = 4 then [⟨1, e.o, 0, true, false⟩]
  else if e.k = 5 then [⟨2, e.o, 0, false, true⟩]
  else if e.k = 7 ∨ e.k = 8 then [⟨3, e.o, z, true, true⟩]
  else if e.k = 10 then [⟨4, e.o, 0, false, true⟩]
  else if e.k = 11 then [⟨4, e.o, 0, true, false⟩]
  else if e.k = 13 then [⟨5, e.o, 0, false, true⟩]
  else if e.k = 14 then [⟨5, e.o, 0, true, false⟩]
  else if e.k = 15 then [⟨6, e.o, 0, false, true⟩]
  else if e.k = 16 then [⟨6, e.o, 0, true, false⟩]
  else if e.k = 17 then [⟨7, e.o, 0, true, false⟩]
  else if e.k = 18 then [⟨7, e.o, 0, false, true⟩]
  else if e.k = 19 then [⟨7, e.o, 0, true, true⟩]
  else []
/-- The slot, by the events ahead. -/
def slotE (es : List Ev) (e : Ev) : Int := (cntK e.k e.o es : Int).tmod (capK e.o es)
theorem ite2 {p : Prop} [Decidable p] {a b : List Tch} (ha : a.length ≤ 2) (hb : b.length ≤ 2) : (if p then a else b).length ≤ 2 := by
  by_cases h : p
  · rw [if_pos h]; exact ha
  · rw [if_neg h]; exact hb
theorem tch_len (e : Ev) (z : Int) : (tchL e z).length ≤ 2 := by
  unfold tchL
  repeat (refine ite2 (Nat.le_of_ble_eq_true rfl) ?_)
  exact Nat.le_of_ble_eq_true rfl
end Go.Proofs.YtihdablgnmkjnaaGreatDoor
/-
  The specification's touches: l6Slot.
-/
namespace Go.Proofs.YtihdablgnmkjnaaGreatDoor
open Go.RowKit

theorem cntK_take (k o : Int) (es : List Ev) (i : Nat) (hi : i < es.length) : cntK k o (es.take (i + 1)) = cntK k o (es.take i) + (if es[i].o = o ∧ es[i].k = k then 1 else 0) := by
  rw [List.take_succ_eq_append_getElem hi, cntK_one]
theorem capK_take (o : Int) (es : List Ev) (i : Nat) (hi : i < es.length) : capK o (es.take (i + 1)) = if es[i].o = o ∧ es[i].k = 6 then es[i].s else capK o (es.take i) := by
  rw [List.take_succ_eq_append_getElem hi, capK_one]
theorem cntK_le (k o : Int) (es : List Ev) (i : Nat) : cntK k o (es.take i) ≤ i := by
  unfold cntK
  exact Nat.le_trans List.countP_le_length (by simp; omega)

set_option maxRecDepth 20000 in
set_option maxHeartbeats 2000000 in
theorem l6Slot_any (ao : Option Addr) (n c : Nat) (es : List Ev) (w : World) (hn : es.length = n) (h : ReadsE w ao es) (j : Nat) (hj : j < es.length) (hr : capK es[j].o (es.take j) ≠ 0) :
    Calls Tryz.prog 131 #[.slice ao n c, .int .i64 j] w fun x w' => x = .returned (.int .i64 (slotE (es.take j) es[j])) ∧ Fr w w' := by
  subst hn
  have hl := h.len
  obtain ⟨fb, off, rfl, hev⟩ := h.at_ j hj
  have hjn : (j : Int) < es.length := by omega
  obtain ⟨F, hF⟩ : ∃ F, F = es[j] := ⟨_, rfl⟩
  have HJ := hev j hj
  rw [← hF] at HJ hr ⊢
  clear hF
  obtain ⟨fk, fg, fo, fw, fl, fs, ff, ft⟩ := F
  have HE : Hid (slotE (es.take j) ⟨fk, fg, fo, fw, fl, fs, ff, ft⟩ = (cntK fk fo (es.take j) : Int).tmod (capK fo (es.take j))) := rfl
  simp only at hr
  have HR : Hid (capK fo (es.take j) ≠ 0) := hr
  clear hr
  go_enter Tryz.func131, Tryz.ntmps131
  go_wp2_with fail
  go_loopw [5, 6, 7] (fun cn cr i wr => ∃ (k : Nat) (N : Nat) (R : Int), k ≤ j ∧ i = .int .i64 k ∧ cn = .int .i64 N ∧ cr = .int .i64 R ∧ Hid (N = cntK fk fo (es.take k) ∧ R = capK fo (es.take k)) ∧ N ≤ k ∧ Fr w wr) (fun _ _ i _ => j - (intOf i).toNat)
  case atStart => exact ⟨0, 0, 1, Nat.zero_le _, rfl, rfl, rfl, ⟨by simp [cntK], by simp [capK]⟩, Nat.le_refl _, Fr.refl w⟩
  case round =>
    obtain ⟨k, N, R, hk, rfl, rfl, rfl, HC, hN, hf⟩ := hrel
    by_cases hlt : k < j
    · have hkl : k < es.length := by omega
      have HK := hev k hkl
      obtain ⟨d0, d1, d2, d3, d4, d5, d6, d7⟩ := HJ.keep hf (by simp)
      obtain ⟨c0, c1, c2, c3, c4, c5, c6, c7⟩ := HK.keep hf (by simp)
      have hi : (k : Int) < es.length := by omega
      have hi2 : (k : Int) < j := by omega
      have HN := cntK_take fk fo es k hkl
      have HP := capK_take fo es k hkl
      obtain ⟨E, hE⟩ : ∃ E, E = es[k] := ⟨_, rfl⟩
      rw [← hE] at c0 c1 c2 c3 c4 c5 c6 c7 HN HP
      clear hE HK
      obtain ⟨ek, eg, eo, ew, el, ez, ef, et⟩ := E
      simp only at c0 c1 c2 c3 c4 c5 c6 c7 d0 d1 d2 d3 d4 d5 d6 d7 HN HP
      clear c1 c3 c4 c6 c7 d1 d3 d4 d5 d6 d7
      by_cases ho : eo = fo
      · have hob : (eo == fo) = true := by simp [ho]
        by_cases hk : ek = fk
        · have hkb : (ek == fk) = true := by simp [hk]
          by_cases h6 : ek = 6
          · have h6b : (ek == 6) = true := by simp [h6]
            rw [if_pos ⟨ho, hk⟩] at HN
            rw [if_pos ⟨ho, h6⟩] at HP
            have HN : Hid _ := HN
            have HP : Hid _ := HP
            clear ho hk h6
            go_wp2_with fail
            go_quiet (fail)
            go_wp2_with fail
            go_quiet (fail)
            go_wp2_with fail
            go_roundw
            case rel => exact ⟨k + 1, N + 1, ez, by omega, by go_num, by go_num, rfl, ⟨by rw [HN.out, HC.out.1], HP.out.symm⟩, by omega, hf.trans (Fr.drewN _ _)⟩
            case measure => simp [intOf]; omega
          · have h6b : (ek == 6) = false := by simp [h6]
            rw [if_pos ⟨ho, hk⟩] at HN
            rw [if_neg (by omega)] at HP
            have HN : Hid _ := HN
            have HP : Hid _ := HP
            clear ho hk h6
            go_wp2_with fail
            go_quiet (fail)
            go_wp2_with fail
            go_quiet (fail)
            go_wp2_with fail
            go_roundw
            case rel => exact ⟨k + 1, N + 1, R, by omega, by go_num, by go_num, rfl, ⟨by rw [HN.out, HC.out.1], by rw [HP.out, HC.out.2]⟩, by omega, hf.trans (Fr.drewN _ _)⟩
            case measure => simp [intOf]; omega
        · have hkb : (ek == fk) = false := by simp [hk]
          by_cases h6 : ek = 6
          · have h6b : (ek == 6) = true := by simp [h6]
            rw [if_neg (by omega)] at HN
            rw [if_pos ⟨ho, h6⟩] at HP
            have HN : Hid _ := HN
            have HP : Hid _ := HP
            clear ho hk h6
            go_wp2_with fail
            go_quiet (fail)
            go_wp2_with fail
            go_quiet (fail)
            go_wp2_with fail
            go_roundw
            case rel => exact ⟨k + 1, N, ez, by omega, by go_num, rfl, rfl, ⟨by rw [HN.out, HC.out.1]; rfl, HP.out.symm⟩, by omega, hf.trans (Fr.drewN _ _)⟩
            case measure => simp [intOf]; omega
          · have h6b : (ek == 6) = false := by simp [h6]
            rw [if_neg (by omega)] at HN
            rw [if_neg (by omega)] at HP
            have HN : Hid _ := HN
            have HP : Hid _ := HP
            clear ho hk h6
            go_wp2_with fail
            go_quiet (fail)
            go_wp2_with fail
            go_quiet (fail)
            go_wp2_with fail
            go_roundw
            case rel => exact ⟨k + 1, N, R, by omega, by go_num, rfl, rfl, ⟨by rw [HN.out, HC.out.1]; rfl, by rw [HP.out, HC.out.2]⟩, by omega, hf.trans (Fr.drewN _ _)⟩
            case measure => simp [intOf]; omega
      · have hob : (eo == fo) = false := by simp [ho]
        rw [if_neg (by omega)] at HN
        rw [if_neg (by omega)] at HP
        have HN : Hid _ := HN
        have HP : Hid _ := HP
        clear ho
        go_wp2_with fail
        go_quiet (fail)
        go_wp2_with fail
        go_quiet (fail)
        go_wp2_with fail
        go_roundw
        case rel => exact ⟨k + 1, N, R, by omega, by go_num, rfl, rfl, ⟨by rw [HN.out, HC.out.1]; rfl, by rw [HP.out, HC.out.2]⟩, by omega, hf.trans (Fr.drewN _ _)⟩
        case measure => simp [intOf]; omega
    · have e : k = j := by omega
      subst e
      have hR0 : R ≠ 0 := by rw [HC.out.2]; exact HR.out
      have hR1 : ¬ R = 0 := hR0
      go_wp2_with fail
      go_ret
      exact ⟨by rw [HE.out, ← HC.out.1, ← HC.out.2, Int.tmod_eq_emod_of_nonneg (Int.natCast_nonneg N)]; rfl, hf⟩
end Go.Proofs.YtihdablgnmkjnaaGreatDoor
/-
  The specification's touches, kind by kind (1, 2, 3, 4, 5, 6).
-/
namespace Go.Proofs.YtihdablgnmkjnaaGreatDoor
open Go.RowKit

set_option maxRecDepth 20000 in
set_option maxHeartbeats 1000000 in
theorem l6T_1 (fg fo fw fl fs ff ft : Int) (ao : Option Addr) (n c : Nat) (es : List Ev) (w : World) (hn : es.length = n) (h : ReadsE w ao es) (j : Nat) (hj : j < es.length) (hF : es[j] = ⟨1, fg, fo, fw, fl, fs, ff, ft⟩) :
    Calls Tryz.prog 66 #[.slice ao n c, .int .i64 j] w fun x w' => ∃ v, x = .returned v ∧ OwnG layT w' w.heap.size v [] ∧ Fr w w' := by
  subst hn
  have hl := h.len
  obtain ⟨fb, off, rfl, hev⟩ := h.at_ j hj
  have HJ := hev j hj
  rw [hF] at HJ
  obtain ⟨d0, d1, d2, d3, d4, d5, d6, d7⟩ := HJ
  simp only at d0 d1 d2 d3 d4 d5 d6 d7
  have hjn : (j : Int) < es.length := by omega
  clear hev hF h
  go_enter Tryz.func66, Tryz.ntmps66
  go_wp2_with fail
  go_ret
  refine ⟨.slice (some ⟨w.heap.size + 1 + 1 + 1 + 1, 0, none⟩) 0 0, rfl, ?_, ?_⟩
  · exact ownG_litK layT _ [] (by simp) _ rfl _ _ (by simp) (by omega)
  · exact ((((Fr.alloc _ _).trans (Fr.alloc _ _)).trans (Fr.alloc _ _)).trans (Fr.alloc _ _)).trans (Fr.alloc _ _)

set_option maxRecDepth 20000 in
set_option maxHeartbeats 1000000 in
theorem l6T_2 (fg fo fw fl fs ff ft : Int) (ao : Option Addr) (n c : Nat) (es : List Ev) (w : World) (hn : es.length = n) (h : ReadsE w ao es) (j : Nat) (hj : j < es.length) (hF : es[j] = ⟨2, fg, fo, fw, fl, fs, ff, ft⟩) :
    Calls Tryz.prog 66 #[.slice ao n c, .int .i64 j] w fun x w' => ∃ v, x = .returned v ∧ OwnG layT w' w.heap.size v [⟨1, fo, 0, true, false⟩, ⟨2, fo, 0, true, false⟩] ∧ Fr w w' := by
  subst hn
  have hl := h.len
  obtain ⟨fb, off, rfl, hev⟩ := h.at_ j hj
  have HJ := hev j hj
  rw [hF] at HJ
  obtain ⟨d0, d1, d2, d3, d4, d5, d6, d7⟩ := HJ
  simp only at d0 d1 d2 d3 d4 d5 d6 d7
  have hjn : (j : Int) < es.length := by omega
  clear hev hF h
  go_enter Tryz.func66, Tryz.ntmps66
  go_wp2_with fail
  go_ret
  refine ⟨.slice (some ⟨w.heap.size + 1 + 1 + 1 + 1 + 1, 0, none⟩) 2 2, rfl, ?_, ?_⟩
  · exact ownG_litK layT _ [⟨1, fo, 0, true, false⟩, ⟨2, fo, 0, true, false⟩] (by simp) _ rfl _ _ (by simp) (by omega)
  · exact (((((Fr.alloc _ _).trans (Fr.alloc _ _)).trans (Fr.alloc _ _)).trans (Fr.alloc _ _)).trans (Fr.alloc _ _)).trans (Fr.alloc _ _)

set_option maxRecDepth 20000 in
set_option maxHeartbeats 1000000 in
theorem l6T_3 (fg fo fw fl fs ff ft : Int) (ao : Option Addr) (n c : Nat) (es : List Ev) (w : World) (hn : es.length = n) (h : ReadsE w ao es) (j : Nat) (hj : j < es.length) (hF : es[j] = ⟨3, fg, fo, fw, fl, fs, ff, ft⟩) :
    Calls Tryz.prog 66 #[.slice ao n c, .int .i64 j] w fun x w' => ∃ v, x = .returned v ∧ OwnG layT w' w.heap.size v [⟨1, fo, 0, false, true⟩] ∧ Fr w w' := by
  subst hn
  have hl := h.len
  obtain ⟨fb, off, rfl, hev⟩ := h.at_ j hj
  have HJ := hev j hj
  rw [hF] at HJ
  obtain ⟨d0, d1, d2, d3, d4, d5, d6, d7⟩ := HJ
  simp only at d0 d1 d2 d3 d4 d5 d6 d7
  have hjn : (j : Int) < es.length := by omega
  clear hev hF h
  go_enter Tryz.func66, Tryz.ntmps66
  go_wp2_with fail
  go_ret
  refine ⟨.slice (some ⟨w.heap.size + 1 + 1 + 1 + 1, 0, none⟩) 1 1, rfl, ?_, ?_⟩
  · exact ownG_litK layT _ [⟨1, fo, 0, false, true⟩] (by simp) _ rfl _ _ (by simp) (by omega)
  · exact ((((Fr.alloc _ _).trans (Fr.alloc _ _)).trans (Fr.alloc _ _)).trans (Fr.alloc _ _)).trans (Fr.alloc _ _)

set_option maxRecDepth 20000 in
set_option maxHeartbeats 1000000 in
theorem l6T_4 (fg fo fw fl fs ff ft : Int) (ao : Option Addr) (n c : Nat) (es : List Ev) (w : World) (hn : es.length = n) (h : ReadsE w ao es) (j : Nat) (hj : j < es.length) (hF : es[j] = ⟨4, fg, fo, fw, fl, fs, ff, ft⟩) :
    Calls Tryz.prog 66 #[.slice ao n c, .int .i64 j] w fun x w' => ∃ v, x = .returned v ∧ OwnG layT w' w.heap.size v [⟨1, fo, 0, true, false⟩] ∧ Fr w w' := by
  subst hn
  have hl := h.len
  obtain ⟨fb, off, rfl, hev⟩ := h.at_ j hj
  have HJ := hev j hj
  rw [hF] at HJ
  obtain ⟨d0, d1, d2, d3, d4, d5, d6, d7⟩ := HJ
  simp only at d0 d1 d2 d3 d4 d5 d6 d7
  have hjn : (j : Int) < es.length := by omega
  clear hev hF h
  go_enter Tryz.func66, Tryz.ntmps66
  go_wp2_with fail
  go_ret
  refine ⟨.slice (some ⟨w.heap.size + 1 + 1 + 1 + 1, 0, none⟩) 1 1, rfl, ?_, ?_⟩
  · exact ownG_litK layT _ [⟨1, fo, 0, true, false⟩] (by simp) _ rfl _ _ (by simp) (by omega)
  · exact ((((Fr.alloc _ _).trans (Fr.alloc _ _)).trans (Fr.alloc _ _)).trans (Fr.alloc _ _)).trans (Fr.alloc _ _)

set_option maxRecDepth 20000 in
set_option maxHeartbeats 1000000 in
theorem l6T_5 (fg fo fw fl fs ff ft : Int) (ao : Option Addr) (n c : Nat) (es : List Ev) (w : World) (hn : es.length = n) (h : ReadsE w ao es) (j : Nat) (hj : j < es.length) (hF : es[j] = ⟨5, fg, fo, fw, fl, fs, ff, ft⟩) :
    Calls Tryz.prog 66 #[.slice ao n c, .int .i64 j] w fun x w' => ∃ v, x = .returned v ∧ OwnG layT w' w.heap.size v [⟨2, fo, 0, false, true⟩] ∧ Fr w w' := by
  subst hn
  have hl := h.len
  obtain ⟨fb, off, rfl, hev⟩ := h.at_ j hj
  have HJ := hev j hj
  rw [hF] at HJ
  obtain ⟨d0, d1, d2, d3, d4, d5, d6, d7⟩ := HJ
  simp only at d0 d1 d2 d3 d4 d5 d6 d7
  have hjn : (j : Int) < es.length := by omega
  clear hev hF h
  go_enter Tryz.func66, Tryz.ntmps66
  go_wp2_with fail
  go_ret
  refine ⟨.slice (some ⟨w.heap.size + 1 + 1 + 1 + 1, 0, none⟩) 1 1, rfl, ?_, ?_⟩
  · exact ownG_litK layT _ [⟨2, fo, 0, false, true⟩] (by simp) _ rfl _ _ (by simp) (by omega)
  · exact ((((Fr.alloc _ _).trans (Fr.alloc _ _)).trans (Fr.alloc _ _)).trans (Fr.alloc _ _)).trans (Fr.alloc _ _)

set_option maxRecDepth 20000 in
set_option maxHeartbeats 1000000 in
theorem l6T_6 (fg fo fw fl fs ff ft : Int) (ao : Option Addr) (n c : Nat) (es : List Ev) (w : World) (hn : es.length = n) (h : ReadsE w ao es) (j : Nat) (hj : j < es.length) (hF : es[j] = ⟨6, fg, fo, fw, fl, fs, ff, ft⟩) :
    Calls Tryz.prog 66 #[.slice ao n c, .int .i64 j] w fun x w' => ∃ v, x = .returned v ∧ OwnG layT w' w.heap.size v [] ∧ Fr w w' := by
  subst hn
  have hl := h.len
  obtain ⟨fb, off, rfl, hev⟩ := h.at_ j hj
  have HJ := hev j hj
  rw [hF] at HJ
  obtain ⟨d0, d1, d2, d3, d4, d5, d6, d7⟩ := HJ
  simp only at d0 d1 d2 d3 d4 d5 d6 d7
  have hjn : (j : Int) < es.length := by omega
  clear hev hF h
  go_enter Tryz.func66, Tryz.ntmps66
  go_wp2_with fail
  go_ret
  refine ⟨.slice (some ⟨w.heap.size + 1 + 1 + 1 + 1, 0, none⟩) 0 0, rfl, ?_, ?_⟩
  · exact ownG_litK layT _ [] (by simp) _ rfl _ _ (by simp) (by omega)
  · exact ((((Fr.alloc _ _).trans (Fr.alloc _ _)).trans (Fr.alloc _ _)).trans (Fr.alloc _ _)).trans (Fr.alloc _ _)
end Go.Proofs.YtihdablgnmkjnaaGreatDoor
