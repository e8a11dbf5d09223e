/-
  Pack BO: ScTrace2, LawT, LawO.
-/
import Derived.Test.YtcofhmikdkkigaaGreatDoorPrBN
import Derived.Test.YtcofhmikdkkigaaGreatDoorPrAW
import Derived.Test.YtcofhmikdkkigaaGreatDoorPrAV
import Derived.Test.YtcofhmikdkkigaaGreatDoorPrBD
namespace Go.Proofs.YtcofhmikdkkigaaGreatDoor
open Go.RowKit

theorem ScK.put5 {u : World} {b : Nat} {s : Sv} (h : ScK u b s) (t : Sv) : ScK (((((u.setCell ⟨b, 0, none⟩ (.int .i64 t.g)).setCell ⟨b, 1, none⟩ (.slice t.lo t.ll t.lc)).setCell ⟨b, 2, none⟩ (.slice t.co t.cl t.cc)).setCell ⟨b, 3, none⟩ (.slice t.no t.nl t.nc)).setCell ⟨b, 4, none⟩ (.slice t.oo t.ol t.oc)) b t := by
  have e0 := heap_setCell_same u b 0 _ _ (.int .i64 t.g) h
  have e1 := heap_setCell_same _ b 1 _ _ (.slice t.lo t.ll t.lc) e0
  have e2 := heap_setCell_same _ b 2 _ _ (.slice t.co t.cl t.cc) e1
  have e3 := heap_setCell_same _ b 3 _ _ (.slice t.no t.nl t.nc) e2
  exact heap_setCell_same _ b 4 _ _ (.slice t.oo t.ol t.oc) e3
theorem leg_g {es : List Ev} {m : Scn} (h : legS scn0 es = (m, es.length, 0)) : 1 ≤ m.g ∧ m.g ≤ 16 := by
  have h1 : scB (legS scn0 es).1 = true := leg_ok es scn0 (by decide)
  rw [h] at h1
  have h2 := (scB_parts h1).1
  simpa [inB] using h2

set_option maxRecDepth 20000 in
set_option maxHeartbeats 4000000 in
theorem trace_low {w : World} {d n cap : Nat} {ao : Option Addr} (N : Int) (h : DX w w d ao n cap) (hn : n ≤ 4096) (hN : 1 ≤ N) (hN2 : N ≤ 200) (hb : 0 < n → ∀ q, blk ao = some q → q < w.heap.size) :
    Calls Tryz.prog 20 #[.pointer (some ⟨d, 0, none⟩), .int .i64 N] w fun x w' => ∃ (es : List Ev) (g c : Nat) (m : Scn), x = .returned (.slice (some ⟨g, 0, none⟩) es.length c) ∧ w'.ownsRow w.heap.size 31 8 (.slice (some ⟨g, 0, none⟩) es.length c) es.length (es.flatMap evCells) ∧ LowL m ∧ (legS scn0 es = (m, es.length, 0) ∧ 3 ≤ m.g) ∧ (2 ≤ es.length ∧ es.length ≤ 210) ∧ DX w w' d ao n cap := by
  obtain ⟨i0, x0, hd0⟩ := h.dice
  have hdl : d < w.heap.size := hd0.lt
  have fA := Fr.alloc w (.cells #[.int .i64 1, .int .i64 0, .int .i64 1, .int .i64 0, .int .i64 0, .int .i64 0, .int .i64 0, .int .i64 0, .int .i64 1, .int .i64 0, .int .i64 2, .int .i64 0, .int .i64 0, .int .i64 0, .int .i64 0, .int .i64 0] 31)
  have o0 := World.ownsRow_lit (base := w.heap.size) (e := 31) (size := 8) w #[.int .i64 1, .int .i64 0, .int .i64 1, .int .i64 0, .int .i64 0, .int .i64 0, .int .i64 0, .int .i64 0, .int .i64 1, .int .i64 0, .int .i64 2, .int .i64 0, .int .i64 0, .int .i64 0, .int .i64 0, .int .i64 0] 2 (Nat.le_refl _) (by unfold maxLen; omega) rfl
  have HO0 : Hid ((w.alloc (.cells #[.int .i64 1, .int .i64 0, .int .i64 1, .int .i64 0, .int .i64 0, .int .i64 0, .int .i64 0, .int .i64 0, .int .i64 1, .int .i64 0, .int .i64 2, .int .i64 0, .int .i64 0, .int .i64 0, .int .i64 0, .int .i64 0] 31)).ownsRow w.heap.size 31 8 (.slice (some ⟨w.heap.size, 0, none⟩) es0.length 2) es0.length (es0.flatMap evCells)) := o0
  have cA := specAfterB_any (some ⟨w.heap.size, 0, none⟩) 2 2 es0 (w.alloc (.cells #[.int .i64 1, .int .i64 0, .int .i64 1, .int .i64 0, .int .i64 0, .int .i64 0, .int .i64 0, .int .i64 0, .int .i64 1, .int .i64 0, .int .i64 2, .int .i64 0, .int .i64 0, .int .i64 0, .int .i64 0, .int .i64 0] 31)) rfl (own_readsE HO0.out (by decide))
  have D0 := h.fr fA
  clear h hd0 o0
  go_enter Tryz.func20, Tryz.ntmps20
  go_wp2_with fail
  refine cA.mono ?_
  rintro x u1 ⟨⟨sg, lo, ll, lc, co, cl, cc, no, nl, nc, oo, ol, oc⟩, B, rfl, S1, f1, hB⟩
  have fB := Fr.alloc u1 (.cells #[.int .i64 sg, .slice lo ll lc, .slice co cl cc, .slice no nl nc, .slice oo ol oc] 29)
  have kS := ScK.new u1 ⟨sg, lo, ll, lc, co, cl, cc, no, nl, nc, oo, ol, oc⟩
  simp only at kS
  have hz1 := f1.size
  simp only [World.size_alloc] at hz1 hB
  have hX : TX w d ao n cap u1.heap.size w.heap.size (w.heap.size + 1) u1.heap.size 2 es0 ⟨sg, lo, ll, lc, co, cl, cc, no, nl, nc, oo, ol, oc⟩ ⟨3, [], [], [], []⟩ (u1.alloc (.cells #[.int .i64 sg, .slice lo ll lc, .slice co cl cc, .slice no nl nc, .slice oo ol oc] 29)) :=
    { dx := (D0.fr f1).fr fB
      own := (HO0.out.kept f1 (by simp [Value.ownBlock])).kept fB (by simp [Value.ownBlock])
      sc := kS
      scr := (S1.mono (fun b q => hB b q)).fr fB
      leg := leg_es0
      three := by decide
      low := fun l hl => by simp at hl
      bs := by have := fB.size; omega }
  clear cA S1 hB kS D0 HO0 fA f1 fB hz1
  go_wp2_with fail
  obtain ⟨V, hV⟩ : ∃ V, V = u1.alloc (.cells #[.int .i64 sg, .slice lo ll lc, .slice co cl cc, .slice no nl nc, .slice oo ol oc] 29) := ⟨_, rfl⟩
  rw [← hV] at hX ⊢
  obtain ⟨sb, hsb⟩ : ∃ sb, sb = u1.heap.size := ⟨_, rfl⟩
  rw [← hsb] at hX ⊢
  clear hV hsb
  refine (belowX hX.dx hn N hN (by omega)).mono ?_
  rintro x u2 ⟨r, rfl, r0, r1, g2, D2⟩
  have hX := hX.dice hdl ⟨g2, D2.dice, D2.row, D2.ap⟩
  obtain ⟨k0, hk0⟩ : ∃ k0 : Nat, r + 2 = k0 := ⟨(r + 2).toNat, by omega⟩
  have hwr : IntKind.i64.wrap (r + 2) = (k0 : Int) := by rw [IntKind.wrap_i64]; omega
  have hkb : k0 ≤ 202 := by omega
  clear g2 D2 hk0 r0 r1
  go_wp2_with fail
  go_loopw [1, 5] (fun c l wr => ∃ (k : Nat) (es : List Ev) (g c' lo hi : Nat) (s : Sv) (m : Scn), c = .int .i64 k ∧ k ≤ 202 ∧ l = .slice (some ⟨g, 0, none⟩) es.length c' ∧ Hid (TX w d ao n cap sb g lo hi c' es s m wr) ∧ Hid (2 ≤ es.length ∧ es.length + k ≤ 204)) (fun c _ _ => (intOf c).toNat)
  case atStart => exact ⟨k0, es0, w.heap.size, 2, _, _, _, _, rfl, hkb, rfl, hX, ⟨by decide, by simp [es0]; omega⟩⟩
  case round =>
    clear hX hwr
    obtain ⟨k, es, g, c', lo1, hi1, ⟨sg, lo, ll, lc, co, cl, cc, no, nl, nc, oo, ol, oc⟩, m, rfl, hk, rfl, HX, HL⟩ := hrel
    by_cases hk0 : k = 0
    · subst hk0
      go_wp2_with fail
      go_ret
      exact ⟨es, g, c', m, rfl, HX.out.own, HX.out.low, ⟨HX.out.leg, HX.out.three⟩, ⟨HL.out.1, by have := HL.out.2; omega⟩, HX.out.dx⟩
    · have hkp : (0 : Int) < k := by omega
      have hX := HX.out
      have hsg : sg = m.g := hX.scr.g
      have hGb := leg_g hX.leg
      obtain ⟨s0, s1, s2, s3, s4⟩ := hX.sc.at
      simp only at s0 s1 s2 s3 s4
      have hwk : IntKind.i64.wrap ((k : Int) - 1) = ((k - 1 : Nat) : Int) := by rw [IntKind.wrap_i64]; omega
      have cC := chance_any sg hX.dx.self hn (by omega) (by omega) (fun q p hp => by have := hb q p hp; have := hX.dx.g.size; omega)
      have HSG : Hid (sg = m.g) := hsg
      clear hX hsg hGb hk0
      go_wp2_with fail
      refine cC.mono ?_
      rintro x u3 ⟨⟨ek, eg, eo, ew, el, ez, ef, et⟩, rfl, LO, D3⟩
      have LO : Hid _ := LO
      clear cC s0 s1 s2 s3 s4
      have HX3 : Hid (TX w d ao n cap sb g lo1 hi1 c' es ⟨sg, lo, ll, lc, co, cl, cc, no, nl, nc, oo, ol, oc⟩ m (u3.alloc (.cells #[.int .i64 ek, .int .i64 eg, .int .i64 eo, .int .i64 ew, .int .i64 el, .int .i64 ez, .int .i64 ef, .int .i64 et] 31))) := (HX.out.dice hdl D3).fr (Fr.alloc _ _)
      have kE := EvB.new u3 ⟨ek, eg, eo, ew, el, ez, ef, et⟩
      simp only at kE
      clear HX D3
      obtain ⟨s0, s1, s2, s3, s4⟩ := HX3.out.sc.at
      simp only at s0 s1 s2 s3 s4
      obtain ⟨c0, c1, c2, c3, c4, c5, c6, c7⟩ := kE.at
      simp only at c0 c1 c2 c3 c4 c5 c6 c7
      by_cases h5 : 5 ≤ sg
      · by_cases h1 : ek = 1
        · subst h1
          go_wp2_with fail
          go_roundw
          case rel => exact ⟨k - 1, es, g, c', lo1, hi1, _, m, rfl, by omega, rfl, HX3, ⟨HL.out.1, by have := HL.out.2; omega⟩⟩
          case measure => simp [intOf]; omega
        · have hb1 : (ek == 1) = false := by simp [h1]
          go_wp2_with fail
          obtain ⟨V3, hV3⟩ : ∃ V, V = u3.alloc (.cells #[.int .i64 ek, .int .i64 eg, .int .i64 eo, .int .i64 ew, .int .i64 el, .int .i64 ez, .int .i64 ef, .int .i64 et] 31) := ⟨_, rfl⟩
          rw [← hV3] at HX3 kE ⊢
          obtain ⟨eb, heb⟩ : ∃ eb, eb = u3.heap.size := ⟨_, rfl⟩
          rw [← heb] at kE ⊢
          clear hV3 heb s0 s1 s2 s3 s4 c0 c1 c2 c3 c4 c5 c6 c7
          have cD := specDone_any ⟨sg, lo, ll, lc, co, cl, cc, no, nl, nc, oo, ol, oc⟩ m ⟨ek, eg, eo, ew, el, ez, ef, et⟩ V3 HX3.out.scr
          simp only at cD
          refine cD.mono ?_
          rintro x u4 ⟨⟨pg, plo, pll, plc, pco, pcl, pcc, pno, pnl, pnc, poo, pol, poc⟩, rfl, S4, f4⟩
          clear cD
          have fX := Fr.alloc u4 (.cells #[.int .i64 pg, .slice plo pll plc, .slice pco pcl pcc, .slice pno pnl pnc, .slice poo pol poc] 29)
          have kX := ScK.new u4 ⟨pg, plo, pll, plc, pco, pcl, pcc, pno, pnl, pnc, poo, pol, poc⟩
          simp only at kX
          have F4 := f4.trans fX
          have hebl := kE.lt
          have kE4 := kE.keep F4 (by simp)
          have HX4 : Hid (TX w d ao n cap sb g lo1 hi1 c' es ⟨sg, lo, ll, lc, co, cl, cc, no, nl, nc, oo, ol, oc⟩ m (u4.alloc (.cells #[.int .i64 pg, .slice plo pll plc, .slice pco pcl pcc, .slice pno pnl pnc, .slice poo pol poc] 29))) := HX3.out.fr F4
          obtain ⟨C, hC⟩ : ∃ C, C = codeIn m ⟨ek, eg, eo, ew, el, ez, ef, et⟩ := ⟨_, rfl⟩
          rw [← hC]
          have HC : Hid (C = codeIn m ⟨ek, eg, eo, ew, el, ez, ef, et⟩) := hC
          clear hC
          by_cases hC0 : C = 0
          · have hcb : (C == 0) = true := by simp [hC0]
            have HC0 : Hid (codeIn m ⟨ek, eg, eo, ew, el, ez, ef, et⟩ = 0) := HC.out.symm.trans hC0
            clear hC0
            have z4 := f4.size
            obtain ⟨c0, c1, c2, c3, c4, c5, c6, c7⟩ := kE4.at
            simp only at c0 c1 c2 c3 c4 c5 c6 c7
            have hbx := HX4.out.bs
            have hbv := HX3.out.bs
            have hog := HX3.out.own.lt g rfl
            have hsl := HX3.out.sc.lt
            have fY := Fr.alloc (u4.alloc (.cells #[.int .i64 pg, .slice plo pll plc, .slice pco pcl pcc, .slice pno pnl pnc, .slice poo pol poc] 29)) (.cells #[.int .i64 ek, .int .i64 eg, .int .i64 eo, .int .i64 ew, .int .i64 el, .int .i64 ez, .int .i64 ef, .int .i64 et] 31)
            have HO : Hid (OwnE ((u4.alloc (.cells #[.int .i64 pg, .slice plo pll plc, .slice pco pcl pcc, .slice pno pnl pnc, .slice poo pol poc] 29)).alloc (.cells #[.int .i64 ek, .int .i64 eg, .int .i64 eo, .int .i64 ew, .int .i64 el, .int .i64 ez, .int .i64 ef, .int .i64 et] 31)) w.heap.size (.slice (some ⟨g, 0, none⟩) es.length c') es) := ⟨g, c', rfl, (HX4.out.fr fY).own, by have := HL.out; omega⟩
            have HE : Hid (EvC ((u4.alloc (.cells #[.int .i64 pg, .slice plo pll plc, .slice pco pcl pcc, .slice pno pnl pnc, .slice poo pol poc] 29)).alloc (.cells #[.int .i64 ek, .int .i64 eg, .int .i64 eo, .int .i64 ew, .int .i64 el, .int .i64 ez, .int .i64 ef, .int .i64 et] 31)) (u4.heap.size + 1) 0 ⟨ek, eg, eo, ew, el, ez, ef, et⟩) := by
              have q := EvB.new (u4.alloc (.cells #[.int .i64 pg, .slice plo pll plc, .slice pco pcl pcc, .slice pno pnl pnc, .slice poo pol poc] 29)) ⟨ek, eg, eo, ew, el, ez, ef, et⟩
              simp only [World.size_alloc] at q
              obtain ⟨d0, d1, d2, d3, d4, d5, d6, d7⟩ := q.at
              exact ⟨d0, d1, d2, d3, d4, d5, d6, d7⟩
            have HKX : Hid (ScK ((u4.alloc (.cells #[.int .i64 pg, .slice plo pll plc, .slice pco pcl pcc, .slice pno pnl pnc, .slice poo pol poc] 29)).alloc (.cells #[.int .i64 ek, .int .i64 eg, .int .i64 eo, .int .i64 ew, .int .i64 el, .int .i64 ez, .int .i64 ef, .int .i64 et] 31)) u4.heap.size ⟨pg, plo, pll, plc, pco, pcl, pcc, pno, pnl, pnc, poo, pol, poc⟩) := kX.fr fY
            have HS4 : Hid (ScR (fun x => V3.heap.size ≤ x ∧ x < u4.heap.size) ((u4.alloc (.cells #[.int .i64 pg, .slice plo pll plc, .slice pco pcl pcc, .slice pno pnl pnc, .slice poo pol poc] 29)).alloc (.cells #[.int .i64 ek, .int .i64 eg, .int .i64 eo, .int .i64 ew, .int .i64 el, .int .i64 ez, .int .i64 ef, .int .i64 et] 31)) ⟨pg, plo, pll, plc, pco, pcl, pcc, pno, pnl, pnc, poo, pol, poc⟩ (doneS m ⟨ek, eg, eo, ew, el, ez, ef, et⟩)) := (S4.fr fX).fr fY
            have HXY : Hid (TX w d ao n cap sb g lo1 hi1 c' es ⟨sg, lo, ll, lc, co, cl, cc, no, nl, nc, oo, ol, oc⟩ m ((u4.alloc (.cells #[.int .i64 pg, .slice plo pll plc, .slice pco pcl pcc, .slice pno pnl pnc, .slice poo pol poc] 29)).alloc (.cells #[.int .i64 ek, .int .i64 eg, .int .i64 eo, .int .i64 ew, .int .i64 el, .int .i64 ez, .int .i64 ef, .int .i64 et] 31))) := HX4.out.fr fY
            have HZY : Hid (((u4.alloc (.cells #[.int .i64 pg, .slice plo pll plc, .slice pco pcl pcc, .slice pno pnl pnc, .slice poo pol poc] 29)).alloc (.cells #[.int .i64 ek, .int .i64 eg, .int .i64 eo, .int .i64 ew, .int .i64 el, .int .i64 ez, .int .i64 ef, .int .i64 et] 31)).heap.size = u4.heap.size + 2) := by simp [Hid]
            have hwz : w.heap.size ≤ u4.heap.size + 2 := by omega
            have hel : es.length ≤ 16777215 := by have := HL.out; omega
            clear S4 fX fY F4 f4 kX kE kE4 HX4
            go_wp2_with (at_builtin; refine appE _ rfl _ _ rfl w.heap.size (.slice (some ⟨g, 0, none⟩) es.length c') es ⟨ek, eg, eo, ew, el, ez, ef, et⟩ rfl HO.out (u4.heap.size + 1) 1 rfl HE.out hel (by rw [HZY.out]; exact hwz) ?_; intro v5 w5 hv5 hg5 hat5; have kx5 := ScK.keep HKX.out hg5 (by simp only [Value.ownBlock, ne_eq, Option.some.injEq]; omega); have ks5 := ScK.keep HXY.out.sc hg5 (by simp only [Value.ownBlock, ne_eq, Option.some.injEq]; omega); obtain ⟨x0, x1, x2, x3, x4⟩ := kx5.at; obtain ⟨t0, t1, t2, t3, t4⟩ := ks5.at; have tf := fun i => ks5.free i; simp only at x0 x1 x2 x3 x4 t0 t1 t2 t3 t4)
            obtain ⟨g5, c5, rfl, ho5, hl5⟩ := hv5
            have hat6 : g5 = g ∨ g5 = u4.heap.size + 2 := by
              simp only [Value.ownBlock, Option.some.injEq] at hat5
              rw [HZY.out] at hat5
              exact hat5
            have k6 := put5 w5 sb (.int .i64 pg) (.slice plo pll plc) (.slice pco pcl pcc) (.slice pno pnl pnc) (.slice poo pol poc)
            have z5 := hg5.size
            rw [HZY.out] at z5
            have z6 := k6.size
            have hl1 : (es ++ [(⟨ek, eg, eo, ew, el, ez, ef, et⟩ : Ev)]).length = es.length + 1 := by simp
            have hn5 : (⟨ek, eg, eo, ew, el, ez, ef, et⟩ : Ev) = ⟨ek, eg, eo, ew, el, ez, ef, et⟩ := rfl
            have hok := (code_parts HC0.out).2.1
            have hnew : TX w d ao n cap sb g5 V3.heap.size u4.heap.size c5 (es ++ [⟨ek, eg, eo, ew, el, ez, ef, et⟩]) ⟨pg, plo, pll, plc, pco, pcl, pcc, pno, pnl, pnc, poo, pol, poc⟩ (doneS m ⟨ek, eg, eo, ew, el, ez, ef, et⟩) (((((w5.setCell ⟨sb, 0, none⟩ (.int .i64 pg)).setCell ⟨sb, 1, none⟩ (.slice plo pll plc)).setCell ⟨sb, 2, none⟩ (.slice pco pcl pcc)).setCell ⟨sb, 3, none⟩ (.slice pno pnl pnc)).setCell ⟨sb, 4, none⟩ (.slice poo pol poc)) :=
              { dx := (DX.past2 (A := g) HXY.out.dx hg5 ⟨by omega, by omega⟩ hb).past2 k6 ⟨by omega, by omega⟩ hb
                own := ho5.kept k6 (.inr (by simp only [Value.ownBlock, ne_eq, Option.some.injEq]; omega))
                sc := ks5.put5 ⟨pg, plo, pll, plc, pco, pcl, pcc, pno, pnl, pnc, poo, pol, poc⟩
                scr := (HS4.out.keep hg5 (fun j hj q => by simp only [Value.ownBlock, Option.some.injEq] at hj; omega)).keep k6 (fun j hj q => by simp only [Option.some.injEq] at hj; omega)
                leg := by rw [done_yes hok HC0.out, hl1]; exact leg_snoc es scn0 m HXY.out.leg HC0.out
                three := by rw [done_yes hok HC0.out]; have := do_g m ⟨ek, eg, eo, ew, el, ez, ef, et⟩; have := HXY.out.three; omega
                low := by rw [done_yes hok HC0.out]; exact low_do HXY.out.low LO.out
                bs := by omega }
            go_roundw
            case rel => exact ⟨k - 1, es ++ [(⟨ek, eg, eo, ew, el, ez, ef, et⟩ : Ev)], g5, c5, V3.heap.size, u4.heap.size, ⟨pg, plo, pll, plc, pco, pcl, pcc, pno, pnl, pnc, poo, pol, poc⟩, doneS m ⟨ek, eg, eo, ew, el, ez, ef, et⟩, rfl, by omega, by rw [hl1], hnew, ⟨by have := HL.out; rw [hl1]; omega, by have := HL.out; rw [hl1]; omega⟩⟩
            case measure => simp [intOf]; omega
          · have hcb : (C == 0) = false := by simpa using hC0
            go_wp2_with fail
            go_roundw
            case rel => exact ⟨k - 1, es, g, c', lo1, hi1, _, m, rfl, by omega, rfl, HX4, ⟨HL.out.1, by have := HL.out.2; omega⟩⟩
            case measure => simp [intOf]; omega
      · have h5' : sg < 5 := by omega
        go_wp2_with fail
        obtain ⟨V3, hV3⟩ : ∃ V, V = u3.alloc (.cells #[.int .i64 ek, .int .i64 eg, .int .i64 eo, .int .i64 ew, .int .i64 el, .int .i64 ez, .int .i64 ef, .int .i64 et] 31) := ⟨_, rfl⟩
        rw [← hV3] at HX3 kE ⊢
        obtain ⟨eb, heb⟩ : ∃ eb, eb = u3.heap.size := ⟨_, rfl⟩
        rw [← heb] at kE ⊢
        clear hV3 heb s0 s1 s2 s3 s4 c0 c1 c2 c3 c4 c5 c6 c7
        have cD := specDone_any ⟨sg, lo, ll, lc, co, cl, cc, no, nl, nc, oo, ol, oc⟩ m ⟨ek, eg, eo, ew, el, ez, ef, et⟩ V3 HX3.out.scr
        simp only at cD
        refine cD.mono ?_
        rintro x u4 ⟨⟨pg, plo, pll, plc, pco, pcl, pcc, pno, pnl, pnc, poo, pol, poc⟩, rfl, S4, f4⟩
        clear cD
        have fX := Fr.alloc u4 (.cells #[.int .i64 pg, .slice plo pll plc, .slice pco pcl pcc, .slice pno pnl pnc, .slice poo pol poc] 29)
        have kX := ScK.new u4 ⟨pg, plo, pll, plc, pco, pcl, pcc, pno, pnl, pnc, poo, pol, poc⟩
        simp only at kX
        have F4 := f4.trans fX
        have hebl := kE.lt
        have kE4 := kE.keep F4 (by simp)
        have HX4 : Hid (TX w d ao n cap sb g lo1 hi1 c' es ⟨sg, lo, ll, lc, co, cl, cc, no, nl, nc, oo, ol, oc⟩ m (u4.alloc (.cells #[.int .i64 pg, .slice plo pll plc, .slice pco pcl pcc, .slice pno pnl pnc, .slice poo pol poc] 29))) := HX3.out.fr F4
        obtain ⟨C, hC⟩ : ∃ C, C = codeIn m ⟨ek, eg, eo, ew, el, ez, ef, et⟩ := ⟨_, rfl⟩
        rw [← hC]
        have HC : Hid (C = codeIn m ⟨ek, eg, eo, ew, el, ez, ef, et⟩) := hC
        clear hC
        by_cases hC0 : C = 0
        · have hcb : (C == 0) = true := by simp [hC0]
          have HC0 : Hid (codeIn m ⟨ek, eg, eo, ew, el, ez, ef, et⟩ = 0) := HC.out.symm.trans hC0
          clear hC0
          have z4 := f4.size
          obtain ⟨c0, c1, c2, c3, c4, c5, c6, c7⟩ := kE4.at
          simp only at c0 c1 c2 c3 c4 c5 c6 c7
          have hbx := HX4.out.bs
          have hbv := HX3.out.bs
          have hog := HX3.out.own.lt g rfl
          have hsl := HX3.out.sc.lt
          have fY := Fr.alloc (u4.alloc (.cells #[.int .i64 pg, .slice plo pll plc, .slice pco pcl pcc, .slice pno pnl pnc, .slice poo pol poc] 29)) (.cells #[.int .i64 ek, .int .i64 eg, .int .i64 eo, .int .i64 ew, .int .i64 el, .int .i64 ez, .int .i64 ef, .int .i64 et] 31)
          have HO : Hid (OwnE ((u4.alloc (.cells #[.int .i64 pg, .slice plo pll plc, .slice pco pcl pcc, .slice pno pnl pnc, .slice poo pol poc] 29)).alloc (.cells #[.int .i64 ek, .int .i64 eg, .int .i64 eo, .int .i64 ew, .int .i64 el, .int .i64 ez, .int .i64 ef, .int .i64 et] 31)) w.heap.size (.slice (some ⟨g, 0, none⟩) es.length c') es) := ⟨g, c', rfl, (HX4.out.fr fY).own, by have := HL.out; omega⟩
          have HE : Hid (EvC ((u4.alloc (.cells #[.int .i64 pg, .slice plo pll plc, .slice pco pcl pcc, .slice pno pnl pnc, .slice poo pol poc] 29)).alloc (.cells #[.int .i64 ek, .int .i64 eg, .int .i64 eo, .int .i64 ew, .int .i64 el, .int .i64 ez, .int .i64 ef, .int .i64 et] 31)) (u4.heap.size + 1) 0 ⟨ek, eg, eo, ew, el, ez, ef, et⟩) := by
            have q := EvB.new (u4.alloc (.cells #[.int .i64 pg, .slice plo pll plc, .slice pco pcl pcc, .slice pno pnl pnc, .slice poo pol poc] 29)) ⟨ek, eg, eo, ew, el, ez, ef, et⟩
            simp only [World.size_alloc] at q
            obtain ⟨d0, d1, d2, d3, d4, d5, d6, d7⟩ := q.at
            exact ⟨d0, d1, d2, d3, d4, d5, d6, d7⟩
          have HKX : Hid (ScK ((u4.alloc (.cells #[.int .i64 pg, .slice plo pll plc, .slice pco pcl pcc, .slice pno pnl pnc, .slice poo pol poc] 29)).alloc (.cells #[.int .i64 ek, .int .i64 eg, .int .i64 eo, .int .i64 ew, .int .i64 el, .int .i64 ez, .int .i64 ef, .int .i64 et] 31)) u4.heap.size ⟨pg, plo, pll, plc, pco, pcl, pcc, pno, pnl, pnc, poo, pol, poc⟩) := kX.fr fY
          have HS4 : Hid (ScR (fun x => V3.heap.size ≤ x ∧ x < u4.heap.size) ((u4.alloc (.cells #[.int .i64 pg, .slice plo pll plc, .slice pco pcl pcc, .slice pno pnl pnc, .slice poo pol poc] 29)).alloc (.cells #[.int .i64 ek, .int .i64 eg, .int .i64 eo, .int .i64 ew, .int .i64 el, .int .i64 ez, .int .i64 ef, .int .i64 et] 31)) ⟨pg, plo, pll, plc, pco, pcl, pcc, pno, pnl, pnc, poo, pol, poc⟩ (doneS m ⟨ek, eg, eo, ew, el, ez, ef, et⟩)) := (S4.fr fX).fr fY
          have HXY : Hid (TX w d ao n cap sb g lo1 hi1 c' es ⟨sg, lo, ll, lc, co, cl, cc, no, nl, nc, oo, ol, oc⟩ m ((u4.alloc (.cells #[.int .i64 pg, .slice plo pll plc, .slice pco pcl pcc, .slice pno pnl pnc, .slice poo pol poc] 29)).alloc (.cells #[.int .i64 ek, .int .i64 eg, .int .i64 eo, .int .i64 ew, .int .i64 el, .int .i64 ez, .int .i64 ef, .int .i64 et] 31))) := HX4.out.fr fY
          have HZY : Hid (((u4.alloc (.cells #[.int .i64 pg, .slice plo pll plc, .slice pco pcl pcc, .slice pno pnl pnc, .slice poo pol poc] 29)).alloc (.cells #[.int .i64 ek, .int .i64 eg, .int .i64 eo, .int .i64 ew, .int .i64 el, .int .i64 ez, .int .i64 ef, .int .i64 et] 31)).heap.size = u4.heap.size + 2) := by simp [Hid]
          have hwz : w.heap.size ≤ u4.heap.size + 2 := by omega
          have hel : es.length ≤ 16777215 := by have := HL.out; omega
          clear S4 fX fY F4 f4 kX kE kE4 HX4
          go_wp2_with (at_builtin; refine appE _ rfl _ _ rfl w.heap.size (.slice (some ⟨g, 0, none⟩) es.length c') es ⟨ek, eg, eo, ew, el, ez, ef, et⟩ rfl HO.out (u4.heap.size + 1) 1 rfl HE.out hel (by rw [HZY.out]; exact hwz) ?_; intro v5 w5 hv5 hg5 hat5; have kx5 := ScK.keep HKX.out hg5 (by simp only [Value.ownBlock, ne_eq, Option.some.injEq]; omega); have ks5 := ScK.keep HXY.out.sc hg5 (by simp only [Value.ownBlock, ne_eq, Option.some.injEq]; omega); obtain ⟨x0, x1, x2, x3, x4⟩ := kx5.at; obtain ⟨t0, t1, t2, t3, t4⟩ := ks5.at; have tf := fun i => ks5.free i; simp only at x0 x1 x2 x3 x4 t0 t1 t2 t3 t4)
          obtain ⟨g5, c5, rfl, ho5, hl5⟩ := hv5
          have hat6 : g5 = g ∨ g5 = u4.heap.size + 2 := by
            simp only [Value.ownBlock, Option.some.injEq] at hat5
            rw [HZY.out] at hat5
            exact hat5
          have k6 := put5 w5 sb (.int .i64 pg) (.slice plo pll plc) (.slice pco pcl pcc) (.slice pno pnl pnc) (.slice poo pol poc)
          have z5 := hg5.size
          rw [HZY.out] at z5
          have z6 := k6.size
          have hl1 : (es ++ [(⟨ek, eg, eo, ew, el, ez, ef, et⟩ : Ev)]).length = es.length + 1 := by simp
          have hn5 : (⟨ek, eg, eo, ew, el, ez, ef, et⟩ : Ev) = ⟨ek, eg, eo, ew, el, ez, ef, et⟩ := rfl
          have hok := (code_parts HC0.out).2.1
          have hnew : TX w d ao n cap sb g5 V3.heap.size u4.heap.size c5 (es ++ [⟨ek, eg, eo, ew, el, ez, ef, et⟩]) ⟨pg, plo, pll, plc, pco, pcl, pcc, pno, pnl, pnc, poo, pol, poc⟩ (doneS m ⟨ek, eg, eo, ew, el, ez, ef, et⟩) (((((w5.setCell ⟨sb, 0, none⟩ (.int .i64 pg)).setCell ⟨sb, 1, none⟩ (.slice plo pll plc)).setCell ⟨sb, 2, none⟩ (.slice pco pcl pcc)).setCell ⟨sb, 3, none⟩ (.slice pno pnl pnc)).setCell ⟨sb, 4, none⟩ (.slice poo pol poc)) :=
            { dx := (DX.past2 (A := g) HXY.out.dx hg5 ⟨by omega, by omega⟩ hb).past2 k6 ⟨by omega, by omega⟩ hb
              own := ho5.kept k6 (.inr (by simp only [Value.ownBlock, ne_eq, Option.some.injEq]; omega))
              sc := ks5.put5 ⟨pg, plo, pll, plc, pco, pcl, pcc, pno, pnl, pnc, poo, pol, poc⟩
              scr := (HS4.out.keep hg5 (fun j hj q => by simp only [Value.ownBlock, Option.some.injEq] at hj; omega)).keep k6 (fun j hj q => by simp only [Option.some.injEq] at hj; omega)
              leg := by rw [done_yes hok HC0.out, hl1]; exact leg_snoc es scn0 m HXY.out.leg HC0.out
              three := by rw [done_yes hok HC0.out]; have := do_g m ⟨ek, eg, eo, ew, el, ez, ef, et⟩; have := HXY.out.three; omega
              low := by rw [done_yes hok HC0.out]; exact low_do HXY.out.low LO.out
              bs := by omega }
          go_roundw
          case rel => exact ⟨k - 1, es ++ [(⟨ek, eg, eo, ew, el, ez, ef, et⟩ : Ev)], g5, c5, V3.heap.size, u4.heap.size, ⟨pg, plo, pll, plc, pco, pcl, pcc, pno, pnl, pnc, poo, pol, poc⟩, doneS m ⟨ek, eg, eo, ew, el, ez, ef, et⟩, rfl, by omega, by rw [hl1], hnew, ⟨by have := HL.out; rw [hl1]; omega, by have := HL.out; rw [hl1]; omega⟩⟩
          case measure => simp [intOf]; omega
        · have hcb : (C == 0) = false := by simpa using hC0
          go_wp2_with fail
          go_roundw
          case rel => exact ⟨k - 1, es, g, c', lo1, hi1, _, m, rfl, by omega, rfl, HX4, ⟨HL.out.1, by have := HL.out.2; omega⟩⟩
          case measure => simp [intOf]; omega
theorem trace_any {w : World} {d n cap : Nat} {ao : Option Addr} (N : Int) (h : DX w w d ao n cap) (hn : n ≤ 4096) (hN : 1 ≤ N) (hN2 : N ≤ 200) (hb : 0 < n → ∀ q, blk ao = some q → q < w.heap.size) :
    Calls Tryz.prog 20 #[.pointer (some ⟨d, 0, none⟩), .int .i64 N] w fun x w' => ∃ (es : List Ev) (g c : Nat) (m : Scn), x = .returned (.slice (some ⟨g, 0, none⟩) es.length c) ∧ w'.ownsRow w.heap.size 31 8 (.slice (some ⟨g, 0, none⟩) es.length c) es.length (es.flatMap evCells) ∧ (legS scn0 es = (m, es.length, 0) ∧ 3 ≤ m.g) ∧ (2 ≤ es.length ∧ es.length ≤ 210) ∧ DX w w' d ao n cap := by
  refine (trace_low N h hn hN hN2 hb).mono ?_
  rintro x w' ⟨es, g, c, m, h1, h2, -, h3, h4, h5⟩
  exact ⟨es, g, c, m, h1, h2, h3, h4, h5⟩
end Go.Proofs.YtcofhmikdkkigaaGreatDoor
namespace Go.Proofs.YtcofhmikdkkigaaGreatDoor
open Go.RowKit

theorem leg_whole {es : List Ev} {m : Scn} (h : legS scn0 es = (m, es.length, 0)) (hl : es.length ≤ 300) : legLen es = es.length := by
  rw [legLen, if_neg (by omega), h]
theorem leg_first {es : List Ev} {m : Scn} {k : Nat} (h : legS scn0 es = (m, es.length, 0)) (hl : es.length ≤ 300) (hk : k ≤ es.length) : legLen (es.take k) = k := by
  have h1 := (leg_part es scn0 k (by rw [h]; exact hk)).1
  rw [legLen, if_neg (by simp; omega), h1]
theorem touJ_part {es : List Ev} {m : Scn} {J : Nat} (h : legS scn0 es = (m, es.length, 0)) (hl : es.length ≤ 300) (hJ : J < es.length) : touJ (es.take (J + 1)) J = touJ es J := by
  have e1 := leg_whole h hl
  have e2 := leg_first (k := J + 1) h hl (by omega)
  have hJ2 : J < (es.take (J + 1)).length := by simp; omega
  have q1 := touJ_yes (es := es) (j := (J : Int)) ⟨by omega, by rw [e1]; omega, by simpa using hJ⟩
  have q2 := touJ_yes (es := es.take (J + 1)) (j := (J : Int)) ⟨by omega, by rw [e2]; omega, by rw [Int.toNat_natCast]; exact hJ2⟩
  simp only [Int.toNat_natCast] at q1 q2
  rw [q1, q2, List.getElem_take, List.take_take]
  simp
theorem touJ_none {es : List Ev} {J : Nat} : touJ (es.take J) J = [] := touJ_no (fun q => by have := q.2.2; simp at this; omega)
def goodT (t : Tch) : Prop := (1 ≤ t.sp ∧ t.sp ≤ 7) ∧ (t.tk = true ∨ t.gv = true)
theorem ite_good {p : Prop} [Decidable p] {a b : List Tch} (ha : ∀ t ∈ a, goodT t) (hb : ∀ t ∈ b, goodT t) : ∀ t ∈ (if p then a else b), goodT t := by
  by_cases h : p
  · rw [if_pos h]; exact ha
  · rw [if_neg h]; exact hb
theorem tch_good (e : Ev) (z : Int) : ∀ t ∈ tchL e z, goodT t := by
  unfold tchL
  repeat (refine ite_good (by simp [goodT]) ?_)
  simp
theorem touJ_good (es : List Ev) (j : Int) : ∀ t ∈ touJ es j, goodT t := by
  unfold touJ
  split
  · exact tch_good _ _
  · simp
theorem gors_of {m : Scn} {e : Ev} (h : codeIn m e = 0) : memB (gorsL e) e.g = true ∧ decide ((gorsL e).length = 2) = decide (e.k = 9) := by
  obtain ⟨h1, -, h3, -⟩ := code_parts h
  unfold gorsL
  rw [if_pos h1]
  by_cases h9 : e.k = 9
  · have hw : e.w ≠ e.g := fun q => h3 (.inr (.inr ⟨h9, .inr q⟩))
    rw [if_neg (by omega)]
    refine ⟨?_, by simp [h9]⟩
    rw [memB, List.any_eq_true]
    by_cases q : e.g ≤ e.w
    · exact ⟨min e.g e.w, by simp, by simp; omega⟩
    · exact ⟨max e.g e.w, by simp, by simp; omega⟩
  · rw [if_pos (.inl h9)]
    exact ⟨by simp [memB], by simp [h9]⟩
end Go.Proofs.YtcofhmikdkkigaaGreatDoor
namespace Go.Proofs.YtcofhmikdkkigaaGreatDoor
open Go.RowKit

theorem do_same (m : Scn) (e : Ev) (h : e.k ≠ 1) : (doS m e).g = m.g := by
  unfold doS
  rw [if_neg h]
  split
  · rfl
  · split
    · rfl
    · split
      · rfl
      · split
        · rfl
        · split
          · rfl
          · rfl
theorem first_bef {es : List Ev} (hl : es.length ≤ 300) (hleg : (legS scn0 es).2.1 = es.length) (h2 : 2 ≤ es.length) : Bef (eE es) 0 1 := by
  have e : legLen es = es.length := by
    unfold legLen
    rw [if_neg (by omega), hleg]
  obtain ⟨-, a2, -⟩ := leg_at (es := es) (k := 0) (by omega) (by omega)
  obtain ⟨-, b2, -⟩ := leg_at (es := es) (k := 1) (by omega) (by omega)
  have hs1 : (legS scn0 (es.take 1)).1 = doS scn0 es[0] := by
    have e1 : es.take 1 = [es[0]] := by
      rw [List.take_one, List.head?_eq_getElem?, List.getElem?_eq_getElem (by omega)]
      rfl
    rw [e1, leg_go (by simpa [legS] using a2)]
    rfl
  rw [hs1] at b2
  have a2 : codeIn scn0 es[0] = 0 := by simpa [legS] using a2
  have g0 := (gors_of a2).1
  have g1 := (gors_of b2).1
  obtain ⟨p1, -, p3, -⟩ := code_parts a2
  obtain ⟨q1, -, q3, -⟩ := code_parts b2
  obtain ⟨E0, h0⟩ : ∃ E, E = es[0] := ⟨_, rfl⟩
  obtain ⟨E1, h1⟩ : ∃ E, E = es[1] := ⟨_, rfl⟩
  have v0 : evA es 0 = E0 := by rw [h0]; exact evA_at (by omega)
  have v1 : evA es 1 = E1 := by rw [h1]; exact evA_at (by omega)
  rw [← h0] at a2 b2 g0 p1 p3 q3
  rw [← h1] at b2 g1 q1 q3
  refine .edge (by omega) ?_
  unfold eE
  rw [edN_bit hl (by omega), decide_eq_true (by omega), Bool.true_and]
  unfold edgeB
  rw [v0, v1]
  have n0 : E0.g = 0 := by
    unfold gorBad at p3
    simp only [scn0, not_or] at p3
    have := gors_in p1 ((memB_iff _ _).1 g0)
    omega
  have hlast : ∀ g, ofG es 0 g = true → lastG es 1 g = 0 := fun g hg => by
    unfold lastG
    rw [if_pos hg]
    rfl
  by_cases e1 : E1.g = 0
  · have : memB ((gorsL E1).map (lastG es 1)) ((0 : Nat) : Int) = true := by
      rw [memB_iff, List.mem_map]
      refine ⟨0, ?_, hlast 0 ?_⟩
      · rw [e1, memB_iff] at g1
        exact g1
      · unfold ofG
        rw [v0, ← n0]
        exact g0
    rw [this]
    rfl
  · have hk : E0.k = 1 ∧ E0.o = E1.g := by
      have hg1 := gors_in q1 ((memB_iff _ _).1 g1)
      by_cases k1 : E0.k = 1
      · have hg : (doS scn0 E0).g = 2 := by unfold doS; rw [if_pos k1]; rfl
        unfold gorBad at p3 q3
        simp only [scn0, not_or, not_and] at p3
        simp only [hg, not_or] at q3
        have := p3.2.1 k1
        exact ⟨k1, by omega⟩
      · have hg : (doS scn0 E0).g = 1 := do_same scn0 E0 k1
        unfold gorBad at q3
        simp only [hg, not_or] at q3
        omega
    have : memB (gorsL E1) E0.o = true := by rw [hk.2]; exact g1
    rw [this, hk.1]
    simp
theorem rJ_at {es : List Ev} (hl : es.length ≤ 300) (hleg : (legS scn0 es).2.1 = es.length) {J : Nat} (hJ : J < es.length) : rJ es J = (edN es J, befN (eE es) J) := by
  unfold rJ
  rw [if_pos ⟨by omega, by unfold legLen; rw [if_neg (by omega), hleg]; omega⟩, Int.toNat_natCast]
theorem rsL_pop (N : Nat) : (rsL N).length = popS N := by
  unfold rsL popS
  rw [List.length_map]
theorem onceL_at {es : List Ev} (hl : es.length ≤ 300) (hleg : (legS scn0 es).2.1 = es.length) : onceL es = atO es es.length := by
  unfold onceL
  rw [if_pos hl, hleg]
theorem pop_bef (E : Nat → Nat → Bool) {j : Nat} (h : j ≤ 320) : popS (befN E j) = (bitsL j (befN E j)).length := by
  unfold popS
  rw [bitsL_low h (fun i hi => befN_high E hi)]
theorem pop_first {es : List Ev} (hl : es.length ≤ 300) (hleg : (legS scn0 es).2.1 = es.length) (h2 : 2 ≤ es.length) : popS (befN (eE es) 1) = 1 := by
  have h := (befN_bit (eE es) 1 0).2 (first_bef hl hleg h2)
  rw [pop_bef _ (by omega), bitsL_succ, if_pos h]
  simp [bitsL]
theorem once_first {es : List Ev} (hl : es.length ≤ 300) (hleg : (legS scn0 es).2.1 = es.length) (h2 : 2 ≤ es.length) : onceL (es.take 2) = 0 := by
  have e2 : (es.take 2).length = 2 := by simp; omega
  have hc := leg_cut hleg h2
  rw [onceL_at (by omega) hc, e2]
  have p1 := pop_first (es := es.take 2) (by omega) hc (by omega)
  have p0 : popS (befN (eE (es.take 2)) 0) = 0 := by
    rw [pop_bef _ (by omega)]
    simp [bitsL]
  simp only [atO, p0, p1]
  omega
theorem rsL_mem {N : Nat} {x : Int} : x ∈ rsL N ↔ ∃ i : Nat, x = i ∧ i < 320 ∧ N.testBit i = true := by
  unfold rsL
  rw [List.mem_map]
  constructor
  · rintro ⟨i, h1, rfl⟩
    obtain ⟨h2, h3⟩ := (bitsL_mem _ _ _).1 h1
    exact ⟨i, rfl, h2, h3⟩
  · rintro ⟨i, rfl, h2, h3⟩
    exact ⟨i, (bitsL_mem _ _ _).2 ⟨h2, h3⟩, rfl⟩
theorem bef_edges {es : List Ev} (hl : es.length ≤ 300) (hleg : (legS scn0 es).2.1 = es.length) {i K : Nat} (hK : K < es.length) (h : Bef (edgeB es) i K) : Bef (eE es) i K := h.cong2 fun a b h1 h2 => by
  unfold eE
  rw [edN_bit hl (by omega), decide_eq_true h1, Bool.true_and]
theorem order_facts {es : List Ev} (hl : es.length ≤ 300) (hleg : (legS scn0 es).2.1 = es.length) {K : Nat} (hK : K < es.length) :
    (∀ x ∈ rsL (rJ es K).2, ∃ n : Nat, x = n ∧ n < K ∧ ∀ y ∈ rsL (rJ es n).2, memB (rsL (rJ es K).2) y = true) ∧ (∀ y ∈ rsL (rJ es K).1, memB (rsL (rJ es K).2) y = true) ∧ (∀ i, i < K → (evA es i).g = (evA es K).g → (rJ es K).2.testBit i = true) ∧ (rJ es K).2.testBit K = false := by
  rw [rJ_at hl hleg hK]
  refine ⟨fun x hx => ?_, fun y hy => ?_, fun i hi hg => ?_, befN_high _ (Nat.le_refl _)⟩
  · obtain ⟨n, rfl, h1, h2⟩ := rsL_mem.1 hx
    have hb := (befN_bit _ _ _).1 h2
    have hn := hb.lt
    refine ⟨n, rfl, hn, fun y hy => ?_⟩
    rw [rJ_at hl hleg (by omega)] at hy
    obtain ⟨q, rfl, h3, h4⟩ := rsL_mem.1 hy
    exact (memB_iff _ _).2 (rsL_mem.2 ⟨q, rfl, h3, (befN_bit _ _ _).2 (((befN_bit _ _ _).1 h4).trans hb)⟩)
  · obtain ⟨q, rfl, h3, h4⟩ := rsL_mem.1 hy
    have hq : q < K := by
      by_cases q1 : q < K
      · exact q1
      · simp only at h4
        rw [edN_bit hl (by omega), decide_eq_false q1, Bool.false_and] at h4
        cases h4
    exact (memB_iff _ _).2 (rsL_mem.2 ⟨q, rfl, h3, (befN_bit _ _ _).2 (.edge hq h4)⟩)
  · have e : legLen es = es.length := by
      unfold legLen
      rw [if_neg (by omega), hleg]
    have gi := (gors_of (leg_at (es := es) (k := i) (by omega) (by omega)).2.1).1
    have gK := (gors_of (leg_at (es := es) (k := K) hK (by omega)).2.1).1
    rw [← evA_at (by omega)] at gi
    rw [← evA_at hK, ← hg] at gK
    exact (befN_bit _ _ _).2 (bef_edges hl hleg hK (same_gor es _ K i hi gi gK))
end Go.Proofs.YtcofhmikdkkigaaGreatDoor
