/-
  The walk of the laws' trace.
-/
import Derived.Test.YtihdablgnmkjnaaGreatDoorPileAT
namespace Go.Proofs.YtihdablgnmkjnaaGreatDoor
open Go.RowKit

theorem ScK.put5 {u : World} {b : Nat} {s : Sv} (h : ScK u b s) (t : Sv) : ScK (((((u.setCell ⟨b, 0, none⟩ (.int .i64 t.g)).setCell ⟨b, 1, none⟩ (.slice t.lo t.ll t.lc)).setCell ⟨b, 2, none⟩ (.slice t.co t.cl t.cc)).setCell ⟨b, 3, none⟩ (.slice t.no t.nl t.nc)).setCell ⟨b, 4, none⟩ (.slice t.oo t.ol t.oc)) b t := by
  have e0 := heap_setCell_same u b 0 _ _ (.int .i64 t.g) h
  have e1 := heap_setCell_same _ b 1 _ _ (.slice t.lo t.ll t.lc) e0
  have e2 := heap_setCell_same _ b 2 _ _ (.slice t.co t.cl t.cc) e1
  have e3 := heap_setCell_same _ b 3 _ _ (.slice t.no t.nl t.nc) e2
  exact heap_setCell_same _ b 4 _ _ (.slice t.oo t.ol t.oc) e3
theorem leg_g {es : List Ev} {m : Scn} (h : legS scn0 es = (m, es.length, 0)) : 1 ≤ m.g ∧ m.g ≤ 16 := by
  have h1 : scB (legS scn0 es).1 = true := leg_ok es scn0 (by decide)
  rw [h] at h1
  have h2 := (scB_parts h1).1
  simpa [inB] using h2

set_option maxRecDepth 20000 in
set_option maxHeartbeats 4000000 in
theorem trace_any {w : World} {d n cap : Nat} {ao : Option Addr} (N : Int) (h : DX w w d ao n cap) (hn : n ≤ 4096) (hN : 1 ≤ N) (hN2 : N ≤ 200) (hb : 0 < n → ∀ q, blk ao = some q → q < w.heap.size) :
    Calls Tryz.prog 16 #[.pointer (some ⟨d, 0, none⟩), .int .i64 N] w fun x w' => ∃ (es : List Ev) (g c : Nat) (m : Scn), x = .returned (.slice (some ⟨g, 0, none⟩) es.length c) ∧ w'.ownsRow w.heap.size 31 8 (.slice (some ⟨g, 0, none⟩) es.length c) es.length (es.flatMap evCells) ∧ (legS scn0 es = (m, es.length, 0) ∧ 3 ≤ m.g) ∧ (2 ≤ es.length ∧ es.length ≤ 210) ∧ DX w w' d ao n cap := by
  obtain ⟨i0, x0, hd0⟩ := h.dice
  have hdl : d < w.heap.size := hd0.lt
  have fA := Fr.alloc w (.cells #[.int .i64 1, .int .i64 0, .int .i64 1, .int .i64 0, .int .i64 0, .int .i64 0, .int .i64 0, .int .i64 0, .int .i64 1, .int .i64 0, .int .i64 2, .int .i64 0, .int .i64 0, .int .i64 0, .int .i64 0, .int .i64 0] 31)
  have o0 := World.ownsRow_lit (base := w.heap.size) (e := 31) (size := 8) w #[.int .i64 1, .int .i64 0, .int .i64 1, .int .i64 0, .int .i64 0, .int .i64 0, .int .i64 0, .int .i64 0, .int .i64 1, .int .i64 0, .int .i64 2, .int .i64 0, .int .i64 0, .int .i64 0, .int .i64 0, .int .i64 0] 2 (Nat.le_refl _) (by unfold maxLen; omega) rfl
  have HO0 : Hid ((w.alloc (.cells #[.int .i64 1, .int .i64 0, .int .i64 1, .int .i64 0, .int .i64 0, .int .i64 0, .int .i64 0, .int .i64 0, .int .i64 1, .int .i64 0, .int .i64 2, .int .i64 0, .int .i64 0, .int .i64 0, .int .i64 0, .int .i64 0] 31)).ownsRow w.heap.size 31 8 (.slice (some ⟨w.heap.size, 0, none⟩) es0.length 2) es0.length (es0.flatMap evCells)) := o0
  have cA := specAfterB_any (some ⟨w.heap.size, 0, none⟩) 2 2 es0 (w.alloc (.cells #[.int .i64 1, .int .i64 0, .int .i64 1, .int .i64 0, .int .i64 0, .int .i64 0, .int .i64 0, .int .i64 0, .int .i64 1, .int .i64 0, .int .i64 2, .int .i64 0, .int .i64 0, .int .i64 0, .int .i64 0, .int .i64 0] 31)) rfl (own_readsE HO0.out (by decide))
  have D0 := h.fr fA
  clear h hd0 o0
  go_enter Tryz.func16, Tryz.ntmps16
  go_wp2_with fail
  refine cA.mono ?_
  rintro x u1 ⟨⟨sg, lo, ll, lc, co, cl, cc, no, nl, nc, oo, ol, oc⟩, B, rfl, S1, f1, hB⟩
  have fB := Fr.alloc u1 (.cells #[.int .i64 sg, .slice lo ll lc, .slice co cl cc, .slice no nl nc, .slice oo ol oc] 29)
  have kS := ScK.new u1 ⟨sg, lo, ll, lc, co, cl, cc, no, nl, nc, oo, ol, oc⟩
  simp only at kS
  have hz1 := f1.size
  simp only [World.size_alloc] at hz1 hB
  have hX : TX w d ao n cap u1.heap.size w.heap.size (w.heap.size + 1) u1.heap.size 2 es0 ⟨sg, lo, ll, lc, co, cl, cc, no, nl, nc, oo, ol, oc⟩ ⟨3, [], [], [], []⟩ (u1.alloc (.cells #[.int .i64 sg, .slice lo ll lc, .slice co cl cc, .slice no nl nc, .slice oo ol oc] 29)) :=
    { dx := (D0.fr f1).fr fB
      own := (HO0.out.kept f1 (by simp [Value.ownBlock])).kept fB (by simp [Value.ownBlock])
      sc := kS
      scr := (S1.mono (fun b q => hB b q)).fr fB
      leg := leg_es0
      three := by decide
      bs := by have := fB.size; omega }
  clear cA S1 hB kS D0 HO0 fA f1 fB hz1
  go_wp2_with fail
  obtain ⟨V, hV⟩ : ∃ V, V = u1.alloc (.cells #[.int .i64 sg, .slice lo ll lc, .slice co cl cc, .slice no nl nc, .slice oo ol oc] 29) := ⟨_, rfl⟩
  rw [← hV] at hX ⊢
  obtain ⟨sb, hsb⟩ : ∃ sb, sb = u1.heap.size := ⟨_, rfl⟩
  rw [← hsb] at hX ⊢
  clear hV hsb
  refine (belowX hX.dx hn N hN (by omega)).mono ?_
  rintro x u2 ⟨r, rfl, r0, r1, g2, D2⟩
  have hX := hX.dice hdl ⟨g2, D2.dice, D2.row, D2.ap⟩
  obtain ⟨k0, hk0⟩ : ∃ k0 : Nat, r + 2 = k0 := ⟨(r + 2).toNat, by omega⟩
  have hwr : IntKind.i64.wrap (r + 2) = (k0 : Int) := by rw [IntKind.wrap_i64]; omega
  have hkb : k0 ≤ 202 := by omega
  clear g2 D2 hk0 r0 r1
  go_wp2_with fail
  go_loopw [1, 5] (fun c l wr => ∃ (k : Nat) (es : List Ev) (g c' lo hi : Nat) (s : Sv) (m : Scn), c = .int .i64 k ∧ k ≤ 202 ∧ l = .slice (some ⟨g, 0, none⟩) es.length c' ∧ Hid (TX w d ao n cap sb g lo hi c' es s m wr) ∧ Hid (2 ≤ es.length ∧ es.length + k ≤ 204)) (fun c _ _ => (intOf c).toNat)
  case atStart => exact ⟨k0, es0, w.heap.size, 2, _, _, _, _, rfl, hkb, rfl, hX, ⟨by decide, by simp [es0]; omega⟩⟩
  case round =>
    clear hX hwr
    obtain ⟨k, es, g, c', lo1, hi1, ⟨sg, lo, ll, lc, co, cl, cc, no, nl, nc, oo, ol, oc⟩, m, rfl, hk, rfl, HX, HL⟩ := hrel
    by_cases hk0 : k = 0
    · subst hk0
      go_wp2_with fail
      go_ret
      exact ⟨es, g, c', m, rfl, HX.out.own, ⟨HX.out.leg, HX.out.three⟩, ⟨HL.out.1, by have := HL.out.2; omega⟩, HX.out.dx⟩
    · have hkp : (0 : Int) < k := by omega
      have hX := HX.out
      have hsg : sg = m.g := hX.scr.g
      have hGb := leg_g hX.leg
      obtain ⟨s0, s1, s2, s3, s4⟩ := hX.sc.at
      simp only at s0 s1 s2 s3 s4
      have hwk : IntKind.i64.wrap ((k : Int) - 1) = ((k - 1 : Nat) : Int) := by rw [IntKind.wrap_i64]; omega
      have cC := chance_any sg hX.dx.self hn (by omega) (by omega) (fun q p hp => by have := hb q p hp; have := hX.dx.g.size; omega)
      have HSG : Hid (sg = m.g) := hsg
      clear hX hsg hGb hk0
      go_wp2_with fail
      refine cC.mono ?_
      rintro x u3 ⟨⟨ek, eg, eo, ew, el, ez, ef, et⟩, rfl, D3⟩
      clear cC s0 s1 s2 s3 s4
      have HX3 : Hid (TX w d ao n cap sb g lo1 hi1 c' es ⟨sg, lo, ll, lc, co, cl, cc, no, nl, nc, oo, ol, oc⟩ m (u3.alloc (.cells #[.int .i64 ek, .int .i64 eg, .int .i64 eo, .int .i64 ew, .int .i64 el, .int .i64 ez, .int .i64 ef, .int .i64 et] 31))) := (HX.out.dice hdl D3).fr (Fr.alloc _ _)
      have kE := EvB.new u3 ⟨ek, eg, eo, ew, el, ez, ef, et⟩
      simp only at kE
      clear HX D3
      obtain ⟨s0, s1, s2, s3, s4⟩ := HX3.out.sc.at
      simp only at s0 s1 s2 s3 s4
      obtain ⟨c0, c1, c2, c3, c4, c5, c6, c7⟩ := kE.at
      simp only at c0 c1 c2 c3 c4 c5 c6 c7
      by_cases h5 : 5 ≤ sg
      · by_cases h1 : ek = 1
        · subst h1
          go_wp2_with fail
          go_roundw
          case rel => exact ⟨k - 1, es, g, c', lo1, hi1, _, m, rfl, by omega, rfl, HX3, ⟨HL.out.1, by have := HL.out.2; omega⟩⟩
          case measure => simp [intOf]; omega
        · have hb1 : (ek == 1) = false := by simp [h1]
          go_wp2_with fail
          obtain ⟨V3, hV3⟩ : ∃ V, V = u3.alloc (.cells #[.int .i64 ek, .int .i64 eg, .int .i64 eo, .int .i64 ew, .int .i64 el, .int .i64 ez, .int .i64 ef, .int .i64 et] 31) := ⟨_, rfl⟩
          rw [← hV3] at HX3 kE ⊢
          obtain ⟨eb, heb⟩ : ∃ eb, eb = u3.heap.size := ⟨_, rfl⟩
          rw [← heb] at kE ⊢
          clear hV3 heb s0 s1 s2 s3 s4 c0 c1 c2 c3 c4 c5 c6 c7
          have cD := specDone_any ⟨sg, lo, ll, lc, co, cl, cc, no, nl, nc, oo, ol, oc⟩ m ⟨ek, eg, eo, ew, el, ez, ef, et⟩ V3 HX3.out.scr
          simp only at cD
          refine cD.mono ?_
          rintro x u4 ⟨⟨pg, plo, pll, plc, pco, pcl, pcc, pno, pnl, pnc, poo, pol, poc⟩, rfl, S4, f4⟩
          clear cD
          have fX := Fr.alloc u4 (.cells #[.int .i64 pg, .slice plo pll plc, .slice pco pcl pcc, .slice pno pnl pnc, .slice poo pol poc] 29)
          have kX := ScK.new u4 ⟨pg, plo, pll, plc, pco, pcl, pcc, pno, pnl, pnc, poo, pol, poc⟩
          simp only at kX
          have F4 := f4.trans fX
          have hebl := kE.lt
          have kE4 := kE.keep F4 (by simp)
          have HX4 : Hid (TX w d ao n cap sb g lo1 hi1 c' es ⟨sg, lo, ll, lc, co, cl, cc, no, nl, nc, oo, ol, oc⟩ m (u4.alloc (.cells #[.int .i64 pg, .slice plo pll plc, .slice pco pcl pcc, .slice pno pnl pnc, .slice poo pol poc] 29))) := HX3.out.fr F4
          obtain ⟨C, hC⟩ : ∃ C, C = codeIn m ⟨ek, eg, eo, ew, el, ez, ef, et⟩ := ⟨_, rfl⟩
          rw [← hC]
          have HC : Hid (C = codeIn m ⟨ek, eg, eo, ew, el, ez, ef, et⟩) := hC
          clear hC
          by_cases hC0 : C = 0
          · have hcb : (C == 0) = true := by simp [hC0]
            have HC0 : Hid (codeIn m ⟨ek, eg, eo, ew, el, ez, ef, et⟩ = 0) := HC.out.symm.trans hC0
            clear hC0
            have z4 := f4.size
            obtain ⟨c0, c1, c2, c3, c4, c5, c6, c7⟩ := kE4.at
            simp only at c0 c1 c2 c3 c4 c5 c6 c7
            have hbx := HX4.out.bs
            have hbv := HX3.out.bs
            have hog := HX3.out.own.lt g rfl
            have hsl := HX3.out.sc.lt
            have fY := Fr.alloc (u4.alloc (.cells #[.int .i64 pg, .slice plo pll plc, .slice pco pcl pcc, .slice pno pnl pnc, .slice poo pol poc] 29)) (.cells #[.int .i64 ek, .int .i64 eg, .int .i64 eo, .int .i64 ew, .int .i64 el, .int .i64 ez, .int .i64 ef, .int .i64 et] 31)
            have HO : Hid (OwnE ((u4.alloc (.cells #[.int .i64 pg, .slice plo pll plc, .slice pco pcl pcc, .slice pno pnl pnc, .slice poo pol poc] 29)).alloc (.cells #[.int .i64 ek, .int .i64 eg, .int .i64 eo, .int .i64 ew, .int .i64 el, .int .i64 ez, .int .i64 ef, .int .i64 et] 31)) w.heap.size (.slice (some ⟨g, 0, none⟩) es.length c') es) := ⟨g, c', rfl, (HX4.out.fr fY).own, by have := HL.out; omega⟩
            have HE : Hid (EvC ((u4.alloc (.cells #[.int .i64 pg, .slice plo pll plc, .slice pco pcl pcc, .slice pno pnl pnc, .slice poo pol poc] 29)).alloc (.cells #[.int .i64 ek, .int .i64 eg, .int .i64 eo, .int .i64 ew, .int .i64 el, .int .i64 ez, .int .i64 ef, .int .i64 et] 31)) (u4.heap.size + 1) 0 ⟨ek, eg, eo, ew, el, ez, ef, et⟩) := by
              have q := EvB.new (u4.alloc (.cells #[.int .i64 pg, .slice plo pll plc, .slice pco pcl pcc, .slice pno pnl pnc, .slice poo pol poc] 29)) ⟨ek, eg, eo, ew, el, ez, ef, et⟩
              simp only [World.size_alloc] at q
              obtain ⟨d0, d1, d2, d3, d4, d5, d6, d7⟩ := q.at
              exact ⟨d0, d1, d2, d3, d4, d5, d6, d7⟩
            have HKX : Hid (ScK ((u4.alloc (.cells #[.int .i64 pg, .slice plo pll plc, .slice pco pcl pcc, .slice pno pnl pnc, .slice poo pol poc] 29)).alloc (.cells #[.int .i64 ek, .int .i64 eg, .int .i64 eo, .int .i64 ew, .int .i64 el, .int .i64 ez, .int .i64 ef, .int .i64 et] 31)) u4.heap.size ⟨pg, plo, pll, plc, pco, pcl, pcc, pno, pnl, pnc, poo, pol, poc⟩) := kX.fr fY
            have HS4 : Hid (ScR (fun x => V3.heap.size ≤ x ∧ x < u4.heap.size) ((u4.alloc (.cells #[.int .i64 pg, .slice plo pll plc, .slice pco pcl pcc, .slice pno pnl pnc, .slice poo pol poc] 29)).alloc (.cells #[.int .i64 ek, .int .i64 eg, .int .i64 eo, .int .i64 ew, .int .i64 el, .int .i64 ez, .int .i64 ef, .int .i64 et] 31)) ⟨pg, plo, pll, plc, pco, pcl, pcc, pno, pnl, pnc, poo, pol, poc⟩ (doneS m ⟨ek, eg, eo, ew, el, ez, ef, et⟩)) := (S4.fr fX).fr fY
            have HXY : Hid (TX w d ao n cap sb g lo1 hi1 c' es ⟨sg, lo, ll, lc, co, cl, cc, no, nl, nc, oo, ol, oc⟩ m ((u4.alloc (.cells #[.int .i64 pg, .slice plo pll plc, .slice pco pcl pcc, .slice pno pnl pnc, .slice poo pol poc] 29)).alloc (.cells #[.int .i64 ek, .int .i64 eg, .int .i64 eo, .int .i64 ew, .int .i64 el, .int .i64 ez, .int .i64 ef, .int .i64 et] 31))) := HX4.out.fr fY
            have HZY : Hid (((u4.alloc (.cells #[.int .i64 pg, .slice plo pll plc, .slice pco pcl pcc, .slice pno pnl pnc, .slice poo pol poc] 29)).alloc (.cells #[.int .i64 ek, .int .i64 eg, .int .i64 eo, .int .i64 ew, .int .i64 el, .int .i64 ez, .int .i64 ef, .int .i64 et] 31)).heap.size = u4.heap.size + 2) := by simp [Hid]
            have hwz : w.heap.size ≤ u4.heap.size + 2 := by omega
            have hel : es.length ≤ 16777215 := by have := HL.out; omega
            clear S4 fX fY F4 f4 kX kE kE4 HX4
            go_wp2_with (at_builtin; refine appE _ rfl _ _ rfl w.heap.size (.slice (some ⟨g, 0, none⟩) es.length c') es ⟨ek, eg, eo, ew, el, ez, ef, et⟩ rfl HO.out (u4.heap.size + 1) 1 rfl HE.out hel (by rw [HZY.out]; exact hwz) ?_; intro v5 w5 hv5 hg5 hat5; have kx5 := ScK.keep HKX.out hg5 (by simp only [Value.ownBlock, ne_eq, Option.some.injEq]; omega); have ks5 := ScK.keep HXY.out.sc hg5 (by simp only [Value.ownBlock, ne_eq, Option.some.injEq]; omega); obtain ⟨x0, x1, x2, x3, x4⟩ := kx5.at; obtain ⟨t0, t1, t2, t3, t4⟩ := ks5.at; have tf := fun i => ks5.free i; simp only at x0 x1 x2 x3 x4 t0 t1 t2 t3 t4)
            obtain ⟨g5, c5, rfl, ho5, hl5⟩ := hv5
            have hat6 : g5 = g ∨ g5 = u4.heap.size + 2 := by
              simp only [Value.ownBlock, Option.some.injEq] at hat5
              rw [HZY.out] at hat5
              exact hat5
            have k6 := put5 w5 sb (.int .i64 pg) (.slice plo pll plc) (.slice pco pcl pcc) (.slice pno pnl pnc) (.slice poo pol poc)
            have z5 := hg5.size
            rw [HZY.out] at z5
            have z6 := k6.size
            have hl1 : (es ++ [(⟨ek, eg, eo, ew, el, ez, ef, et⟩ : Ev)]).length = es.length + 1 := by simp
            have hn5 : (⟨ek, eg, eo, ew, el, ez, ef, et⟩ : Ev) = ⟨ek, eg, eo, ew, el, ez, ef, et⟩ := rfl
            have hok := (code_parts HC0.out).2.1
            have hnew : TX w d ao n cap sb g5 V3.heap.size u4.heap.size c5 (es ++ [⟨ek, eg, eo, ew, el, ez, ef, et⟩]) ⟨pg, plo, pll, plc, pco, pcl, pcc, pno, pnl, pnc, poo, pol, poc⟩ (doneS m ⟨ek, eg, eo, ew, el, ez, ef, et⟩) (((((w5.setCell ⟨sb, 0, none⟩ (.int .i64 pg)).setCell ⟨sb, 1, none⟩ (.slice plo pll plc)).setCell ⟨sb, 2, none⟩ (.slice pco pcl pcc)).setCell ⟨sb, 3, none⟩ (.slice pno pnl pnc)).setCell ⟨sb, 4, none⟩ (.slice poo pol poc)) :=
              { dx := (DX.past (A := g) HXY.out.dx hg5 ⟨by omega, by omega⟩ hb).past k6 ⟨by omega, by omega⟩ hb
                own := ho5.kept k6 (.inr (by simp only [Value.ownBlock, ne_eq, Option.some.injEq]; omega))
                sc := ks5.put5 ⟨pg, plo, pll, plc, pco, pcl, pcc, pno, pnl, pnc, poo, pol, poc⟩
                scr := (HS4.out.keep hg5 (fun j hj q => by simp only [Value.ownBlock, Option.some.injEq] at hj; omega)).keep k6 (fun j hj q => by simp only [Option.some.injEq] at hj; omega)
                leg := by rw [done_yes hok HC0.out, hl1]; exact leg_snoc es scn0 m HXY.out.leg HC0.out
                three := by rw [done_yes hok HC0.out]; have := do_g m ⟨ek, eg, eo, ew, el, ez, ef, et⟩; have := HXY.out.three; omega
                bs := by omega }
            go_roundw
            case rel => exact ⟨k - 1, es ++ [(⟨ek, eg, eo, ew, el, ez, ef, et⟩ : Ev)], g5, c5, V3.heap.size, u4.heap.size, ⟨pg, plo, pll, plc, pco, pcl, pcc, pno, pnl, pnc, poo, pol, poc⟩, doneS m ⟨ek, eg, eo, ew, el, ez, ef, et⟩, rfl, by omega, by rw [hl1], hnew, ⟨by have := HL.out; rw [hl1]; omega, by have := HL.out; rw [hl1]; omega⟩⟩
            case measure => simp [intOf]; omega
          · have hcb : (C == 0) = false := by simpa using hC0
            go_wp2_with fail
            go_roundw
            case rel => exact ⟨k - 1, es, g, c', lo1, hi1, _, m, rfl, by omega, rfl, HX4, ⟨HL.out.1, by have := HL.out.2; omega⟩⟩
            case measure => simp [intOf]; omega
      · have h5' : sg < 5 := by omega
        go_wp2_with fail
        obtain ⟨V3, hV3⟩ : ∃ V, V = u3.alloc (.cells #[.int .i64 ek, .int .i64 eg, .int .i64 eo, .int .i64 ew, .int .i64 el, .int .i64 ez, .int .i64 ef, .int .i64 et] 31) := ⟨_, rfl⟩
        rw [← hV3] at HX3 kE ⊢
        obtain ⟨eb, heb⟩ : ∃ eb, eb = u3.heap.size := ⟨_, rfl⟩
        rw [← heb] at kE ⊢
        clear hV3 heb s0 s1 s2 s3 s4 c0 c1 c2 c3 c4 c5 c6 c7
        have cD := specDone_any ⟨sg, lo, ll, lc, co, cl, cc, no, nl, nc, oo, ol, oc⟩ m ⟨ek, eg, eo, ew, el, ez, ef, et⟩ V3 HX3.out.scr
        simp only at cD
        refine cD.mono ?_
        rintro x u4 ⟨⟨pg, plo, pll, plc, pco, pcl, pcc, pno, pnl, pnc, poo, pol, poc⟩, rfl, S4, f4⟩
        clear cD
        have fX := Fr.alloc u4 (.cells #[.int .i64 pg, .slice plo pll plc, .slice pco pcl pcc, .slice pno pnl pnc, .slice poo pol poc] 29)
        have kX := ScK.new u4 ⟨pg, plo, pll, plc, pco, pcl, pcc, pno, pnl, pnc, poo, pol, poc⟩
        simp only at kX
        have F4 := f4.trans fX
        have hebl := kE.lt
        have kE4 := kE.keep F4 (by simp)
        have HX4 : Hid (TX w d ao n cap sb g lo1 hi1 c' es ⟨sg, lo, ll, lc, co, cl, cc, no, nl, nc, oo, ol, oc⟩ m (u4.alloc (.cells #[.int .i64 pg, .slice plo pll plc, .slice pco pcl pcc, .slice pno pnl pnc, .slice poo pol poc] 29))) := HX3.out.fr F4
        obtain ⟨C, hC⟩ : ∃ C, C = codeIn m ⟨ek, eg, eo, ew, el, ez, ef, et⟩ := ⟨_, rfl⟩
        rw [← hC]
        have HC : Hid (C = codeIn m ⟨ek, eg, eo, ew, el, ez, ef, et⟩) := hC
        clear hC
        by_cases hC0 : C = 0
        · have hcb : (C == 0) = true := by simp [hC0]
          have HC0 : Hid (codeIn m ⟨ek, eg, eo, ew, el, ez, ef, et⟩ = 0) := HC.out.symm.trans hC0
          clear hC0
          have z4 := f4.size
          obtain ⟨c0, c1, c2, c3, c4, c5, c6, c7⟩ := kE4.at
          simp only at c0 c1 c2 c3 c4 c5 c6 c7
          have hbx := HX4.out.bs
          have hbv := HX3.out.bs
          have hog := HX3.out.own.lt g rfl
          have hsl := HX3.out.sc.lt
          have fY := Fr.alloc (u4.alloc (.cells #[.int .i64 pg, .slice plo pll plc, .slice pco pcl pcc, .slice pno pnl pnc, .slice poo pol poc] 29)) (.cells #[.int .i64 ek, .int .i64 eg, .int .i64 eo, .int .i64 ew, .int .i64 el, .int .i64 ez, .int .i64 ef, .int .i64 et] 31)
          have HO : Hid (OwnE ((u4.alloc (.cells #[.int .i64 pg, .slice plo pll plc, .slice pco pcl pcc, .slice pno pnl pnc, .slice poo pol poc] 29)).alloc (.cells #[.int .i64 ek, .int .i64 eg, .int .i64 eo, .int .i64 ew, .int .i64 el, .int .i64 ez, .int .i64 ef, .int .i64 et] 31)) w.heap.size (.slice (some ⟨g, 0, none⟩) es.length c') es) := ⟨g, c', rfl, (HX4.out.fr fY).own, by have := HL.out; omega⟩
          have HE : Hid (EvC ((u4.alloc (.cells #[.int .i64 pg, .slice plo pll plc, .slice pco pcl pcc, .slice pno pnl pnc, .slice poo pol poc] 29)).alloc (.cells #[.int .i64 ek, .int .i64 eg, .int .i64 eo, .int .i64 ew, .int .i64 el, .int .i64 ez, .int .i64 ef, .int .i64 et] 31)) (u4.heap.size + 1) 0 ⟨ek, eg, eo, ew, el, ez, ef, et⟩) := by
            have q := EvB.new (u4.alloc (.cells #[.int .i64 pg, .slice plo pll plc, .slice pco pcl pcc, .slice pno pnl pnc, .slice poo pol poc] 29)) ⟨ek, eg, eo, ew, el, ez, ef, et⟩
            simp only [World.size_alloc] at q
            obtain ⟨d0, d1, d2, d3, d4, d5, d6, d7⟩ := q.at
            exact ⟨d0, d1, d2, d3, d4, d5, d6, d7⟩
          have HKX : Hid (ScK ((u4.alloc (.cells #[.int .i64 pg, .slice plo pll plc, .slice pco pcl pcc, .slice pno pnl pnc, .slice poo pol poc] 29)).alloc (.cells #[.int .i64 ek, .int .i64 eg, .int .i64 eo, .int .i64 ew, .int .i64 el, .int .i64 ez, .int .i64 ef, .int .i64 et] 31)) u4.heap.size ⟨pg, plo, pll, plc, pco, pcl, pcc, pno, pnl, pnc, poo, pol, poc⟩) := kX.fr fY
          have HS4 : Hid (ScR (fun x => V3.heap.size ≤ x ∧ x < u4.heap.size) ((u4.alloc (.cells #[.int .i64 pg, .slice plo pll plc, .slice pco pcl pcc, .slice pno pnl pnc, .slice poo pol poc] 29)).alloc (.cells #[.int .i64 ek, .int .i64 eg, .int .i64 eo, .int .i64 ew, .int .i64 el, .int .i64 ez, .int .i64 ef, .int .i64 et] 31)) ⟨pg, plo, pll, plc, pco, pcl, pcc, pno, pnl, pnc, poo, pol, poc⟩ (doneS m ⟨ek, eg, eo, ew, el, ez, ef, et⟩)) := (S4.fr fX).fr fY
          have HXY : Hid (TX w d ao n cap sb g lo1 hi1 c' es ⟨sg, lo, ll, lc, co, cl, cc, no, nl, nc, oo, ol, oc⟩ m ((u4.alloc (.cells #[.int .i64 pg, .slice plo pll plc, .slice pco pcl pcc, .slice pno pnl pnc, .slice poo pol poc] 29)).alloc (.cells #[.int .i64 ek, .int .i64 eg, .int .i64 eo, .int .i64 ew, .int .i64 el, .int .i64 ez, .int .i64 ef, .int .i64 et] 31))) := HX4.out.fr fY
          have HZY : Hid (((u4.alloc (.cells #[.int .i64 pg, .slice plo pll plc, .slice pco pcl pcc, .slice pno pnl pnc, .slice poo pol poc] 29)).alloc (.cells #[.int .i64 ek, .int .i64 eg, .int .i64 eo, .int .i64 ew, .int .i64 el, .int .i64 ez, .int .i64 ef, .int .i64 et] 31)).heap.size = u4.heap.size + 2) := by simp [Hid]
          have hwz : w.heap.size ≤ u4.heap.size + 2 := by omega
          have hel : es.length ≤ 16777215 := by have := HL.out; omega
          clear S4 fX fY F4 f4 kX kE kE4 HX4
          go_wp2_with (at_builtin; refine appE _ rfl _ _ rfl w.heap.size (.slice (some ⟨g, 0, none⟩) es.length c') es ⟨ek, eg, eo, ew, el, ez, ef, et⟩ rfl HO.out (u4.heap.size + 1) 1 rfl HE.out hel (by rw [HZY.out]; exact hwz) ?_; intro v5 w5 hv5 hg5 hat5; have kx5 := ScK.keep HKX.out hg5 (by simp only [Value.ownBlock, ne_eq, Option.some.injEq]; omega); have ks5 := ScK.keep HXY.out.sc hg5 (by simp only [Value.ownBlock, ne_eq, Option.some.injEq]; omega); obtain ⟨x0, x1, x2, x3, x4⟩ := kx5.at; obtain ⟨t0, t1, t2, t3, t4⟩ := ks5.at; have tf := fun i => ks5.free i; simp only at x0 x1 x2 x3 x4 t0 t1 t2 t3 t4)
          obtain ⟨g5, c5, rfl, ho5, hl5⟩ := hv5
          have hat6 : g5 = g ∨ g5 = u4.heap.size + 2 := by
            simp only [Value.ownBlock, Option.some.injEq] at hat5
            rw [HZY.out] at hat5
            exact hat5
          have k6 := put5 w5 sb (.int .i64 pg) (.slice plo pll plc) (.slice pco pcl pcc) (.slice pno pnl pnc) (.slice poo pol poc)
          have z5 := hg5.size
          rw [HZY.out] at z5
          have z6 := k6.size
          have hl1 : (es ++ [(⟨ek, eg, eo, ew, el, ez, ef, et⟩ : Ev)]).length = es.length + 1 := by simp
          have hn5 : (⟨ek, eg, eo, ew, el, ez, ef, et⟩ : Ev) = ⟨ek, eg, eo, ew, el, ez, ef, et⟩ := rfl
          have hok := (code_parts HC0.out).2.1
          have hnew : TX w d ao n cap sb g5 V3.heap.size u4.heap.size c5 (es ++ [⟨ek, eg, eo, ew, el, ez, ef, et⟩]) ⟨pg, plo, pll, plc, pco, pcl, pcc, pno, pnl, pnc, poo, pol, poc⟩ (doneS m ⟨ek, eg, eo, ew, el, ez, ef, et⟩) (((((w5.setCell ⟨sb, 0, none⟩ (.int .i64 pg)).setCell ⟨sb, 1, none⟩ (.slice plo pll plc)).setCell ⟨sb, 2, none⟩ (.slice pco pcl pcc)).setCell ⟨sb, 3, none⟩ (.slice pno pnl pnc)).setCell ⟨sb, 4, none⟩ (.slice poo pol poc)) :=
            { dx := (DX.past (A := g) HXY.out.dx hg5 ⟨by omega, by omega⟩ hb).past k6 ⟨by omega, by omega⟩ hb
              own := ho5.kept k6 (.inr (by simp only [Value.ownBlock, ne_eq, Option.some.injEq]; omega))
              sc := ks5.put5 ⟨pg, plo, pll, plc, pco, pcl, pcc, pno, pnl, pnc, poo, pol, poc⟩
              scr := (HS4.out.keep hg5 (fun j hj q => by simp only [Value.ownBlock, Option.some.injEq] at hj; omega)).keep k6 (fun j hj q => by simp only [Option.some.injEq] at hj; omega)
              leg := by rw [done_yes hok HC0.out, hl1]; exact leg_snoc es scn0 m HXY.out.leg HC0.out
              three := by rw [done_yes hok HC0.out]; have := do_g m ⟨ek, eg, eo, ew, el, ez, ef, et⟩; have := HXY.out.three; omega
              bs := by omega }
          go_roundw
          case rel => exact ⟨k - 1, es ++ [(⟨ek, eg, eo, ew, el, ez, ef, et⟩ : Ev)], g5, c5, V3.heap.size, u4.heap.size, ⟨pg, plo, pll, plc, pco, pcl, pcc, pno, pnl, pnc, poo, pol, poc⟩, doneS m ⟨ek, eg, eo, ew, el, ez, ef, et⟩, rfl, by omega, by rw [hl1], hnew, ⟨by have := HL.out; rw [hl1]; omega, by have := HL.out; rw [hl1]; omega⟩⟩
          case measure => simp [intOf]; omega
        · have hcb : (C == 0) = false := by simpa using hC0
          go_wp2_with fail
          go_roundw
          case rel => exact ⟨k - 1, es, g, c', lo1, hi1, _, m, rfl, by omega, rfl, HX4, ⟨HL.out.1, by have := HL.out.2; omega⟩⟩
          case measure => simp [intOf]; omega
end Go.Proofs.YtihdablgnmkjnaaGreatDoor
/-
  Who has a lock can give it back, once.
-/
namespace Go.Proofs.YtihdablgnmkjnaaGreatDoor
open Go.RowKit

/-- What gives a lock back. -/
def giveE (l : Lk) : Ev := if 0 ≤ l.wr then ⟨3, l.wr, l.o, 0, 0, 0, 0, 0⟩ else ⟨5, l.rd.getD 0 0, l.o, 0, 0, 0, 0, 0⟩
theorem unlock_ok {g o : Int} (hg : 0 ≤ g ∧ g ≤ 15) (ho : 0 ≤ o ∧ o ≤ 15) : evOk ⟨3, g, o, 0, 0, 0, 0, 0⟩ = true ∧ evOk ⟨5, g, o, 0, 0, 0, 0, 0⟩ = true := by
  constructor <;> (simp only [evOk, ev1, ev2, ev3, ev4, ev5, ev6, Bool.and_eq_true]; simp [inB, hasB, fldV, fldN, fitB, hg, ho])
theorem lock_find {m : Scn} (hm : scB m = true) {l : Lk} (hl : l ∈ m.ls) : m.ls.find? (fun x => x.o == l.o) = some l ∧ lockOf m.ls l.o = l := by
  have h1 := find_of_mem Lk.o m.ls (sc_rise hm).1 l hl
  exact ⟨h1, by simp [lockOf, h1]⟩
theorem lock_right {m : Scn} (hm : scB m = true) {l : Lk} (hl : l ∈ m.ls) : lkB m.g l = true := ((rowB_iff _ _ _).1 (scB_parts hm).2.1).1 l hl
theorem lock_one {m : Scn} (hm : scB m = true) {l : Lk} (hl : l ∈ m.ls) : (0 ≤ l.wr ∧ l.rd = []) ∨ (l.wr = -1 ∧ 0 < l.rd.length) := by
  have h := (lkB_iff m.g l).1 (lock_right hm hl)
  rcases h.2.2.2 with q | q
  · exact .inl q
  · exact .inr ⟨by have := h.2.2.1; omega, List.length_pos_iff.2 q.2⟩
theorem give_g {m : Scn} (hm : scB m = true) {l : Lk} (hl : l ∈ m.ls) : 0 ≤ (giveE l).g ∧ (giveE l).g ≤ m.g - 1 := by
  have h := (lkB_iff m.g l).1 (lock_right hm hl)
  unfold giveE
  split
  · exact ⟨by assumption, h.2.2.1.2⟩
  · rename_i q
    rcases lock_one hm hl with ⟨q1, -⟩ | ⟨-, q2⟩
    · exact absurd q1 q
    · have e1 : l.rd.getD 0 0 = l.rd[0] := getD_at q2
      simp only [e1]
      exact h.1.1 _ (List.getElem_mem q2)
theorem give_one {m : Scn} (hm : scB m = true) {l : Lk} (hl : l ∈ m.ls) : codeIn m (giveE l) = 0 := by
  have hg := give_g hm hl
  have h := (lkB_iff m.g l).1 (lock_right hm hl)
  have hmg : 1 ≤ m.g ∧ m.g ≤ 16 := by simpa [inB] using (scB_parts hm).1
  have hf := (lock_find hm hl).2
  have hok : evOk (giveE l) = true := by
    have u := unlock_ok (g := (giveE l).g) (o := l.o) (by omega) h.2.1
    unfold giveE at u ⊢
    split at u
    · rename_i q; rw [if_pos q]; exact u.1
    · rename_i q; rw [if_neg q]; exact u.2
  have hk : (giveE l).k = 3 ∨ (giveE l).k = 5 := by unfold giveE; split <;> simp
  have ho : (giveE l).o = l.o := by unfold giveE; split <;> rfl
  unfold codeIn
  rw [if_neg (by simp [hok, hm]), if_neg (by unfold gorBad; omega)]
  unfold restCode
  rw [if_pos (by omega)]
  unfold lockCode
  rw [ho, hf]
  unfold giveE
  split
  · simp
  · rename_i q
    rcases lock_one hm hl with ⟨q1, -⟩ | ⟨-, q2⟩
    · exact absurd q1 q
    · have e1 : l.rd.getD 0 0 = l.rd[0] := getD_at q2
      have e2 := memB_yes (x := l.rd.getD 0 0) q2 e1.symm
      obtain ⟨x, hx⟩ : ∃ x, x = l.rd.getD 0 0 := ⟨_, rfl⟩
      rw [← hx] at e2 ⊢
      simp [e2]
theorem out_mem (xs : List Int) (x : Int) : memB (outL xs x) x = false := by
  rw [memB, List.any_eq_false]
  intro y hy
  have := (List.mem_filter.1 hy).2
  simpa using this
theorem give_twice {m : Scn} (hm : scB m = true) {l : Lk} (hl : l ∈ m.ls) : codeIn (doS m (giveE l)) (giveE l) = 4 := by
  have h0 := give_one hm hl
  have hok := (code_parts h0).1
  have hm2 := do_ok h0
  have hg := give_g hm hl
  have hk : (giveE l).k = 3 ∨ (giveE l).k = 5 := by unfold giveE; split <;> simp
  have ho : (giveE l).o = l.o := by unfold giveE; split <;> rfl
  have hf := lock_find hm hl
  have ed : doS m (giveE l) = setLk m (lockTo m (giveE l)) := by
    unfold doS
    rw [if_neg (by omega), if_pos (by omega)]
  have hgg : (doS m (giveE l)).g = m.g := by rw [ed]; rfl
  have hto : (lockTo m (giveE l)).o = l.o := by
    unfold lockTo
    rw [ho, hf.2]
    split
    · rfl
    · split
      · rfl
      · split
        · rfl
        · rfl
  have hfind : (doS m (giveE l)).ls.find? (fun y => y.o == l.o) = if lkFree (lockTo m (giveE l)) = true then none else some (lockTo m (giveE l)) := by
    rw [ed]
    have := find_setL Lk.o (lockTo m (giveE l)) (lkFree (lockTo m (giveE l))) m.ls (sc_rise hm).1 l.o
    rw [hto, if_pos rfl] at this
    exact this
  have hlk : (lockOf (doS m (giveE l)).ls l.o).wr = (if lkFree (lockTo m (giveE l)) = true then -1 else (lockTo m (giveE l)).wr) ∧ (lockOf (doS m (giveE l)).ls l.o).rd = (if lkFree (lockTo m (giveE l)) = true then [] else (lockTo m (giveE l)).rd) := by
    unfold lockOf
    rw [hfind]
    by_cases q : lkFree (lockTo m (giveE l)) = true
    · simp [q]
    · simp [q]
  unfold codeIn
  rw [if_neg (by simp [hok, hm2]), if_neg (by unfold gorBad; rw [hgg]; omega)]
  unfold restCode
  rw [if_pos (by omega)]
  unfold lockCode
  rw [ho, hlk.1, hlk.2]
  rcases hk with hk | hk
  · have e1 : (lockTo m (giveE l)).wr = -1 := by unfold lockTo; simp [hk]
    rw [e1]
    simp [hk]
    omega
  · have e1 : (lockTo m (giveE l)).rd = outL l.rd (giveE l).g := by unfold lockTo; rw [ho, hf.2]; simp [hk]
    rw [e1]
    have e2 : memB (if lkFree (lockTo m (giveE l)) = true then [] else outL l.rd (giveE l).g) (giveE l).g = false := by
      split
      · rfl
      · exact out_mem _ _
    simp [hk, e2]
end Go.Proofs.YtihdablgnmkjnaaGreatDoor
