/-
  The law FnLocks answers true at every code (the program's table lying as its text lays it), and leaves it as it was.
-/
import Derived.Test.YtihdablgnmkjnaaGreatDoorRows
import Derived.Test.YtihdablgnmkjnaaGreatDoorCards
import Derived.Test.YtihdablgnmkjnaaGreatDoorTie
import Derived.Test.YtihdablgnmkjnaaGreatDoorPileAA
import Derived.Test.YtihdablgnmkjnaaGreatDoorPileAU
import Derived.Deep.QuietTactic
import Derived.BigQuiet
import Derived.Deep.RegionHeld3
import Derived.WalkKit
import Derived.ProofKit
import Derived.OpenShut
import Derived.LaidMore
import Derived.Stop.Joined
import Derived.OpenVars
import Derived.SevenTiedAt
namespace Go.Proofs.YtihdablgnmkjnaaGreatDoor.fnLocks
open Go.ChangeShapes Go.WideShapes Go.ChangeAt Go.RowKit
set_option linter.unusedVariables false

def IsRow (k : IntKind) (w : World) (a : Option Addr) (len cap : Nat) (zs : List Int) : Prop :=
  (a = none ∧ len = 0 ∧ cap = 0 ∧ zs = []) ∨
  ∃ x, a = some x ∧ len ≤ cap ∧ cap ≤ maxLen ∧ zs.length = cap ∧ (∀ i, i < zs.length → w.cell? (x.add i) = some (.int k (zs.getD i 0))) ∧ ∀ n ∈ zs, (Lit.int k n).wf = true

theorem done_yesL {m : Scn} {e : Ev} (h : scB m = true) (hc : codeIn m e = 0) : doneS m e = doS m e := by
  rw [doneS, if_pos h, stepS, if_pos hc]
theorem bytes_below {w : World} {ao : Option Addr} {n : Nat} (h : ByteRow w ao n) : 0 < n → ∀ q, blk ao = some q → q < w.heap.size := fun hn q hq => by
  obtain ⟨b, off, e, hc⟩ := h 0 hn
  obtain ⟨x, q1, -⟩ := hc 0 hn
  have := World.block_lt_of_cell? w _ q1
  rw [e] at hq
  simp only [blk, Option.map_some, Option.some.injEq] at hq
  simp only at this
  omega
theorem roll_dx {w u : World} {ao : Option Addr} {n cap d : Nat} {hh : Int} (h : ByteRow w ao n) (D : Dice u d ao n cap 0 hh) (hd : w.heap.size ≤ d) (f : Fr w u) : DX u u d ao n cap := by
  refine ⟨grown_refl u _, ⟨0, hh, D⟩, fun i hi => ?_, fun q k hk => ?_⟩
  · obtain ⟨b, off, e, hc⟩ := h i hi
    exact ⟨b, off, e, fun j hj => by obtain ⟨x, q1, q2⟩ := hc j hj; exact ⟨x, f.cell q1, q2⟩⟩
  · have := bytes_below h q k hk
    omega

set_option maxHeartbeats 4000000 in
set_option maxRecDepth 20000 in
theorem walk (a0 : Option Addr) (len0 cap0 : Nat) (z0 : List Int) (w : World) (w0 : IsRow .u8 w a0 len0 cap0 z0) (hs : Shapes w) :
    Calls Tryz.prog 4 #[.slice a0 len0 cap0] w fun e w' => e = .returned (.bool true) ∧ Below w.heap.size w w' := by
  have hcap : len0 ≤ 9223372036854775807 := by
    rcases w0 with ⟨_, e, _⟩ | ⟨x, _, h1, h2, _⟩
    · omega
    · unfold maxLen at h2; omega
  by_cases hbig : (4096 : Int) < (len0 : Int)
  · have hd : decide ((4096 : Int) < (len0 : Int)) = true := decide_eq_true hbig
    go_enter Tryz.func4, Tryz.ntmps4
    go_wp2_with fail
    refine (big_any _ _ _ _ hcap).mono ?_
    rintro e u1 ⟨rfl, rfl⟩
    go_wp2_with fail
    go_ret
    exact ⟨rfl, Below.refl _ _⟩
  · have hd : decide ((4096 : Int) < (len0 : Int)) = false := decide_eq_false hbig
    have hr := bytes_of_row w0
    have hl : len0 ≤ 4096 := by omega
    clear hbig
    go_enter Tryz.func4, Tryz.ntmps4
    go_wp2_with fail
    refine (big_any _ _ _ _ hcap).mono ?_
    rintro e u1 ⟨rfl, rfl⟩
    clear w0 hd hcap
    go_wp2_with fail
    refine (roll_any _ _ _ _ _ hr (by omega)).mono ?_
    rintro e u2 ⟨d, hh, rfl, D2, hd2, f2⟩
    have X2 := roll_dx hr D2 hd2 f2
    have hbq := bytes_below hr
    have hz2 := f2.size
    have hdz := D2.lt
    go_wp2_with fail
    refine (trace_any 60 X2 (by omega) (by omega) (by omega) (fun q p hp => by have := hbq q p hp; omega)).mono ?_
    rintro e u3 ⟨es, g, c, m, rfl, o3, ⟨L3, T3⟩, ⟨n2, n3⟩, D3⟩
    clear X2 D2 hr hbq
    have F3 := f2.then D3.g (fun j hj => by simp only [Option.some.injEq] at hj; omega)
    have tg := o3.lt g rfl
    have cA := implAfter_any (some ⟨g, 0, none⟩) es.length c es u3 rfl (own_readsE o3 (by omega)) (hs.fr F3) (fun k hk => by simp only [blk, Option.map_some, Option.some.injEq] at hk; omega)
    have e1 : aftS es = m := by rw [aftS, if_neg (by omega), L3]
    have e2 : aftB es = true := by rw [aftB, if_neg (by omega), L3]; rfl
    rw [e1, e2] at cA
    have HM : Hid (scB m = true) := by
      have q := leg_ok es scn0 (by decide)
      rw [L3] at q
      exact q
    clear e1 e2 L3 D3 o3 hd2 hdz
    go_wp2_with fail
    refine (cA).mono ?_
    rintro e u4 ⟨⟨sg, lo, ll, lc, co, cl, cc, no, nl, nc, oo, ol, oc⟩, rfl, S4, f4, -, -⟩
    have fA := Fr.alloc u4 (.cells #[.int .i64 sg, .slice lo ll lc, .slice co cl cc, .slice no nl nc, .slice oo ol oc] 29)
    have kS := ScK.new u4 ⟨sg, lo, ll, lc, co, cl, cc, no, nl, nc, oo, ol, oc⟩
    simp only at kS
    have S5 := S4.fr fA
    have F5 := F3.trans (f4.trans fA)
    have hsg : sg = m.g := S4.g
    have hlt3 : decide (sg < 3) = false := decide_eq_false (by omega)
    have hlt3' : ¬ sg < 3 := by omega
    have hz5 := fA.size
    clear cA S4 f4 hsg T3
    obtain ⟨s0, s1, s2, s3, s4⟩ := kS.at
    simp only at s0 s1 s2 s3 s4
    go_wp2_with fail
    obtain ⟨V, hV⟩ : ∃ V, V = u4.alloc (.cells #[.int .i64 sg, .slice lo ll lc, .slice co cl cc, .slice no nl nc, .slice oo ol oc] 29) := ⟨_, rfl⟩
    rw [← hV] at kS S5 F5 hz5 ⊢
    obtain ⟨sb, hsb⟩ : ∃ sb, sb = u4.heap.size := ⟨_, rfl⟩
    rw [← hsb] at kS ⊢
    clear hV hsb fA s0 s1 s2 s3 s4
    have KS : Hid (∀ u, Fr V u → ScB u sb ⟨sg, lo, ll, lc, co, cl, cc, no, nl, nc, oo, ol, oc⟩) := fun u f => (kS.fr f).at
    have HSH : Hid (∀ u, Fr V u → Shapes u) := fun u f => hs.fr (F5.trans f)
    have C1 : Hid (∀ l, l ∈ m.ls → ∀ u, Fr V u → Calls Tryz.prog 10 #[.agg #[.int .i64 sg, .slice lo ll lc, .slice co cl cc, .slice no nl nc, .slice oo ol oc], .agg #[.int .i64 (giveE l).k, .int .i64 (giveE l).g, .int .i64 (giveE l).o, .int .i64 (giveE l).w, .int .i64 (giveE l).l, .int .i64 (giveE l).s, .int .i64 (giveE l).f, .int .i64 (giveE l).t]] u fun x w' => ∃ s' : Sv, x = .returned (.tuple #[.agg #[.int .i64 s'.g, .slice s'.lo s'.ll s'.lc, .slice s'.co s'.cl s'.cc, .slice s'.no s'.nl s'.nc, .slice s'.oo s'.ol s'.oc], .int .i64 0]) ∧ ScR (fun x => u.heap.size ≤ x ∧ x < w'.heap.size) w' s' (doS m (giveE l)) ∧ Fr u w') := fun l hl u f => by
      have q := implDone_any ⟨sg, lo, ll, lc, co, cl, cc, no, nl, nc, oo, ol, oc⟩ m (giveE l) u (S5.fr f) (fun x hx => by have := f.size; have := hx.2; omega) (HSH.out u f)
      rw [give_one HM.out hl, done_yesL HM.out (give_one HM.out hl)] at q
      exact q.mono (fun x w' ⟨s', a, b, c, _⟩ => ⟨s', a, b, c⟩)
    have C2 : Hid (∀ l, l ∈ m.ls → ∀ (s' : Sv) (a b : Nat) u, Fr V u → ScR (fun x => a ≤ x ∧ x < b) u s' (doS m (giveE l)) → b ≤ u.heap.size → Calls Tryz.prog 10 #[.agg #[.int .i64 s'.g, .slice s'.lo s'.ll s'.lc, .slice s'.co s'.cl s'.cc, .slice s'.no s'.nl s'.nc, .slice s'.oo s'.ol s'.oc], .agg #[.int .i64 (giveE l).k, .int .i64 (giveE l).g, .int .i64 (giveE l).o, .int .i64 (giveE l).w, .int .i64 (giveE l).l, .int .i64 (giveE l).s, .int .i64 (giveE l).f, .int .i64 (giveE l).t]] u fun x w' => ∃ s'' : Sv, x = .returned (.tuple #[.agg #[.int .i64 s''.g, .slice s''.lo s''.ll s''.lc, .slice s''.co s''.cl s''.cc, .slice s''.no s''.nl s''.nc, .slice s''.oo s''.ol s''.oc], .int .i64 4]) ∧ Fr u w') := fun l hl s' a b u f hS hb => by
      have q := implDone_any s' (doS m (giveE l)) (giveE l) u hS (fun x hx => Nat.lt_of_lt_of_le hx.2 hb) (HSH.out u f)
      rw [give_twice HM.out hl] at q
      exact q.mono (fun x w' ⟨s'', a, b, c, _⟩ => ⟨s'', a, c⟩)
    obtain ⟨lvs, rL, eL, LL⟩ := S5.lks
    simp only at rL eL
    subst eL
    have HS : Hid _ := S5
    have HLL : Hid (lvs.length = m.ls.length ∧ m.ls.length ≤ 1048576) := ⟨LL.len, S5.sl⟩
    have hlb : lvs.length ≤ 1048576 := by have := HLL.out; omega
    clear S5 kS
    go_loopw [6] (fun i wr => ∃ j : Nat, j ≤ lvs.length ∧ i = .int .i64 j ∧ Fr V wr) (fun i _ => lvs.length - (intOf i).toNat)
    case atStart => exact ⟨0, Nat.zero_le _, rfl, Fr.refl _⟩
    case round =>
      obtain ⟨j, hj, rfl, fr⟩ := hrel
      obtain ⟨s0, s1, s2, s3, s4⟩ := KS.out wr fr
      simp only at s0 s1 s2 s3 s4
      by_cases hlt : j < lvs.length
      · have hjl : j < m.ls.length := by have := HLL.out; omega
        obtain ⟨eb0, off0, rfl, d0, d1, d2⟩ := lv_at (rL.fr fr) j hlt
        have hLk := (LL.at_ j hlt hjl).fr fr
        have hi : (j : Int) < lvs.length := by omega
        obtain ⟨lv, hlv⟩ : ∃ lv, lv = lvs[j] := ⟨_, rfl⟩
        have hlm : m.ls[j] ∈ m.ls := List.getElem_mem hjl
        obtain ⟨l, hl⟩ : ∃ l, l = m.ls[j] := ⟨_, rfl⟩
        rw [← hlv] at d0 d1 d2 hLk
        rw [← hl] at hLk hlm
        clear hlv hl
        obtain ⟨vo, vw, vr, vn, vc⟩ := lv
        obtain ⟨q1, q2, q3, q4, q5, q6, q7, q8, q9⟩ := hLk
        simp only at d0 d1 d2 q1 q2 q3 q4 q5 q6
        have HONE := lock_one HM.out hlm
        have zw := fr.size
        rcases HONE with ⟨w1, w2⟩ | ⟨w1, w2⟩
        · have HE : Hid (giveE l = ⟨3, vw, vo, 0, 0, 0, 0, 0⟩) := by rw [Hid, giveE, if_pos w1, q1, q2]
          have h0 : 0 ≤ vw := by omega
          have hb0 : decide (0 ≤ vw) = true := decide_eq_true h0
          have hn0 : ¬ vw < 0 := by omega
          have hb1 : decide (vw < 0) = false := decide_eq_false hn0
          have hvn : vn = 0 := by rw [q3, w2]; rfl
          subst hvn
          clear q1 q2 q3 q4 q5 q6 q7 q8 q9 w1 w2
          have FU : Fr V ((wr.alloc (.cells #[.int .i64 vo, .int .i64 vw, .slice vr 0 vc] 47)).alloc (.cells #[.int .i64 3, .int .i64 vw, .int .i64 vo, .int .i64 0, .int .i64 0, .int .i64 0, .int .i64 0, .int .i64 0] 31)) := (fr.trans (Fr.alloc _ _)).trans (Fr.alloc _ _)
          have kE := EvB.new (wr.alloc (.cells #[.int .i64 vo, .int .i64 vw, .slice vr 0 vc] 47)) ⟨3, vw, vo, 0, 0, 0, 0, 0⟩
          simp only [World.size_alloc] at kE
          obtain ⟨y0, y1, y2, y3, y4⟩ := KS.out _ FU
          simp only at y0 y1 y2 y3 y4
          obtain ⟨c0, c1, c2, c3, c4, c5, c6, c7⟩ := kE.at
          simp only at c0 c1 c2 c3 c4 c5 c6 c7
          go_wp2_with fail
          clear y0 y1 y2 y3 y4 c0 c1 c2 c3 c4 c5 c6 c7 s0 s1 s2 s3 s4 d0 d1 d2
          obtain ⟨U, hU⟩ : ∃ U, U = (wr.alloc (.cells #[.int .i64 vo, .int .i64 vw, .slice vr 0 vc] 47)).alloc (.cells #[.int .i64 3, .int .i64 vw, .int .i64 vo, .int .i64 0, .int .i64 0, .int .i64 0, .int .i64 0, .int .i64 0] 31) := ⟨_, rfl⟩
          rw [← hU] at FU kE ⊢
          obtain ⟨eb, heb⟩ : ∃ eb, eb = wr.heap.size + 1 := ⟨_, rfl⟩
          rw [← heb] at kE ⊢
          clear hU heb
          obtain ⟨s0, s1, s2, s3, s4⟩ := (KS.out U FU)
          simp only at s0 s1 s2 s3 s4
          obtain ⟨c0, c1, c2, c3, c4, c5, c6, c7⟩ := kE.at
          simp only at c0 c1 c2 c3 c4 c5 c6 c7
          have cD := C1.out l hlm U FU
          rw [HE.out] at cD
          simp only at cD
          refine cD.mono ?_
          rintro x u5 ⟨⟨pg, plo, pll, plc, pco, pcl, pcc, pno, pnl, pnc, poo, pol, poc⟩, rfl, S6, f5⟩
          clear s0 s1 s2 s3 s4 c0 c1 c2 c3 c4 c5 c6 c7 cD
          have fX := Fr.alloc u5 (.cells #[.int .i64 pg, .slice plo pll plc, .slice pco pcl pcc, .slice pno pnl pnc, .slice poo pol poc] 29)
          have kX := ScK.new u5 ⟨pg, plo, pll, plc, pco, pcl, pcc, pno, pnl, pnc, poo, pol, poc⟩
          simp only at kX
          have G5 := f5.trans fX
          have kE5 := kE.keep G5 (by simp)
          obtain ⟨c0, c1, c2, c3, c4, c5, c6, c7⟩ := kE5.at
          simp only at c0 c1 c2 c3 c4 c5 c6 c7
          obtain ⟨x0, x1, x2, x3, x4⟩ := kX.at
          simp only at x0 x1 x2 x3 x4
          have cD := C2.out l hlm ⟨pg, plo, pll, plc, pco, pcl, pcc, pno, pnl, pnc, poo, pol, poc⟩ _ _ _ (FU.trans G5) (by rw [HE.out]; exact S6.fr fX) fX.size
          rw [HE.out] at cD
          simp only at cD
          clear S6 kX kE kE5
          go_wp2_with fail
          refine cD.mono ?_
          rintro x u6 ⟨⟨qg, qlo, qll, qlc, qco, qcl, qcc, qno, qnl, qnc, qoo, qol, qoc⟩, rfl, f6⟩
          have fY := Fr.alloc u6 (.cells #[.int .i64 qg, .slice qlo qll qlc, .slice qco qcl qcc, .slice qno qnl qnc, .slice qoo qol qoc] 29)
          clear cD x0 x1 x2 x3 x4 c0 c1 c2 c3 c4 c5 c6 c7
          go_wp2_with fail
          go_roundw
          case rel => exact ⟨j + 1, by omega, by go_num, (FU.trans G5).trans (f6.trans fY)⟩
          case measure => simp [intOf]; omega
        · obtain ⟨b0, o0, rfl, hc⟩ := q4.at_ 0 w2
          have hc0 := hc 0 w2
          have hb0 := World.block_lt_of_cell? wr _ hc0
          simp only at hb0
          simp only [Nat.add_zero] at hc0
          have hvw : vw = -1 := q2.trans w1
          subst hvw
          have HE : Hid (giveE l = ⟨5, l.rd.getD 0 0, vo, 0, 0, 0, 0, 0⟩) := by rw [Hid, giveE, if_neg (by omega), q1]
          obtain ⟨x9, hx9⟩ : ∃ x, x = l.rd.getD 0 0 := ⟨_, rfl⟩
          rw [← hx9] at HE hc0
          have hvn : (0 : Int) < vn := by omega
          have hvb : decide ((0 : Int) < (vn : Int)) = true := decide_eq_true hvn
          have hvn' : 0 < vn := by omega
          have hvb' : decide (0 < vn) = true := decide_eq_true hvn'
          clear q1 q2 q3 q4 q5 q6 q7 q8 q9 w1 w2 hc hx9
          have kL := LvK.new wr ⟨vo, -1, some ⟨b0, o0, none⟩, vn, vc⟩
          simp only at kL
          have kL := kL.keep (Fr.alloc _ (.cells #[.int .i64 3, .int .i64 (-1), .int .i64 vo, .int .i64 0, .int .i64 0, .int .i64 0, .int .i64 0, .int .i64 0] 31)) (by simp)
          have kE0 := EvB.new (wr.alloc (.cells #[.int .i64 vo, .int .i64 (-1), .slice (some ⟨b0, o0, none⟩) vn vc] 47)) ⟨3, -1, vo, 0, 0, 0, 0, 0⟩
          simp only [World.size_alloc] at kE0
          have F2' : Fr wr ((wr.alloc (.cells #[.int .i64 vo, .int .i64 (-1), .slice (some ⟨b0, o0, none⟩) vn vc] 47)).alloc (.cells #[.int .i64 3, .int .i64 (-1), .int .i64 vo, .int .i64 0, .int .i64 0, .int .i64 0, .int .i64 0, .int .i64 0] 31)) := (Fr.alloc _ _).trans (Fr.alloc _ _)
          have hc2 := F2'.cell hc0
          have FV := fr.trans F2'
          go_wp2_with fail
          clear s0 s1 s2 s3 s4 d0 d1 d2 hc0
          obtain ⟨W2, hW2⟩ : ∃ W, W = (wr.alloc (.cells #[.int .i64 vo, .int .i64 (-1), .slice (some ⟨b0, o0, none⟩) vn vc] 47)).alloc (.cells #[.int .i64 3, .int .i64 (-1), .int .i64 vo, .int .i64 0, .int .i64 0, .int .i64 0, .int .i64 0, .int .i64 0] 31) := ⟨_, rfl⟩
          rw [← hW2] at kL kE0 hc2 FV ⊢
          obtain ⟨kb, hkb⟩ : ∃ kb, kb = wr.heap.size := ⟨_, rfl⟩
          rw [← hkb] at kL kE0 hb0 ⊢
          obtain ⟨eb, heb⟩ : ∃ eb, eb = kb + 1 := ⟨_, rfl⟩
          rw [← heb] at kE0 ⊢
          have hVk : V.heap.size ≤ eb := by omega
          have n1 : ¬ kb = eb := by omega
          have n2 : ¬ eb = kb := by omega
          have n3 : ¬ b0 = eb := by omega
          have n4 : ¬ eb = b0 := by omega
          clear hW2 hkb heb F2' hb0 zw
          obtain ⟨y0, y1, y2⟩ := kL.at
          simp only at y0 y1 y2
          obtain ⟨c0, c1, c2, c3, c4, c5, c6, c7⟩ := kE0.at
          simp only at c0 c1 c2 c3 c4 c5 c6 c7
          have cf := fun i => kE0.free i
          go_region_held3 (fun u => u.cell? ⟨kb, 0, none⟩ = some (.int .i64 vo) ∧ u.cell? ⟨kb, 2, none⟩ = some (.slice (some ⟨b0, o0, none⟩) vn vc) ∧ u.cell? ⟨b0, o0, none⟩ = some (.int .i64 x9)) (go_keep) (fail)
          all_goals
            clear y0 y1 y2 c0 c1 c2 c3 c4 c5 c6 c7 cf
            have k8 := put8 W2 eb (.int .i64 5) (.int .i64 x9) (.int .i64 vo) (.int .i64 0) (.int .i64 0) (.int .i64 0) (.int .i64 0) (.int .i64 0)
            have kE := kE0.put8 ⟨5, x9, vo, 0, 0, 0, 0, 0⟩
            simp only at kE
            have kE := kE.keep (Fr.drew _) (by simp)
            have FU := (FV.then k8 (fun j hj => by simp only [Option.some.injEq] at hj; omega)).trans (Fr.drew _)
            obtain ⟨U, hU⟩ : ∃ U, U = ((((((((W2.setCell ⟨eb, 0, none⟩ (.int .i64 5)).setCell ⟨eb, 1, none⟩ (.int .i64 x9)).setCell ⟨eb, 2, none⟩ (.int .i64 vo)).setCell ⟨eb, 3, none⟩ (.int .i64 0)).setCell ⟨eb, 4, none⟩ (.int .i64 0)).setCell ⟨eb, 5, none⟩ (.int .i64 0)).setCell ⟨eb, 6, none⟩ (.int .i64 0)).setCell ⟨eb, 7, none⟩ (.int .i64 0)).drew := ⟨_, rfl⟩
            rw [← hU] at kE FU ⊢
            clear hU k8 kE0 kL FV hc2
            obtain ⟨s0, s1, s2, s3, s4⟩ := (KS.out U FU)
            simp only at s0 s1 s2 s3 s4
            obtain ⟨c0, c1, c2, c3, c4, c5, c6, c7⟩ := kE.at
            simp only at c0 c1 c2 c3 c4 c5 c6 c7
            have cD := C1.out l hlm U FU
            rw [HE.out] at cD
            simp only at cD
            go_wp2_with fail
            refine cD.mono ?_
            rintro x u5 ⟨⟨pg, plo, pll, plc, pco, pcl, pcc, pno, pnl, pnc, poo, pol, poc⟩, rfl, S6, f5⟩
            clear s0 s1 s2 s3 s4 c0 c1 c2 c3 c4 c5 c6 c7 cD
            have fX := Fr.alloc u5 (.cells #[.int .i64 pg, .slice plo pll plc, .slice pco pcl pcc, .slice pno pnl pnc, .slice poo pol poc] 29)
            have kX := ScK.new u5 ⟨pg, plo, pll, plc, pco, pcl, pcc, pno, pnl, pnc, poo, pol, poc⟩
            simp only at kX
            have G5 := f5.trans fX
            have kE5 := kE.keep G5 (by simp)
            obtain ⟨c0, c1, c2, c3, c4, c5, c6, c7⟩ := kE5.at
            simp only at c0 c1 c2 c3 c4 c5 c6 c7
            obtain ⟨x0, x1, x2, x3, x4⟩ := kX.at
            simp only at x0 x1 x2 x3 x4
            have cD := C2.out l hlm ⟨pg, plo, pll, plc, pco, pcl, pcc, pno, pnl, pnc, poo, pol, poc⟩ _ _ _ (FU.trans G5) (by rw [HE.out]; exact S6.fr fX) fX.size
            rw [HE.out] at cD
            simp only at cD
            clear S6 kX kE kE5
            go_wp2_with fail
            refine cD.mono ?_
            rintro x u6 ⟨⟨qg, qlo, qll, qlc, qco, qcl, qcc, qno, qnl, qnc, qoo, qol, qoc⟩, rfl, f6⟩
            have fY := Fr.alloc u6 (.cells #[.int .i64 qg, .slice qlo qll qlc, .slice qco qcl qcc, .slice qno qnl qnc, .slice qoo qol qoc] 29)
            clear cD x0 x1 x2 x3 x4 c0 c1 c2 c3 c4 c5 c6 c7
            go_wp2_with fail
            go_roundw
            case rel => exact ⟨j + 1, by omega, by go_num, (FU.trans G5).trans (f6.trans fY)⟩
            case measure => simp [intOf]; omega
      · go_wp2_with fail
        go_ret
        exact ⟨rfl, (F5.trans fr).below⟩

theorem own : ownKnob Tryz.prog.godebug = none := by kernel_rfl
theorem laidOut : laidOutB Tryz.prog = true := by kernel_rfl
theorem met (os : Os) (args : Array Value) : laidMetH Tryz.prog Rows.fnLocksRow.laid ((World.doorLaid Tryz.prog 400 os).forCall (fun _ _ => 0) ⟨#[], args, []⟩).memory :=
  laidMetH_of_parts3 (fuel := 8) (laidMet_of_run' 8 (by kernel_rfl) (by kernel_rfl)) (by kernel_rfl) (by kernel_rfl)
theorem tables {W : World} (h : laidMetH Tryz.prog Rows.fnLocksRow.laid W) : Shapes W := by
  rw [MakeChecks.laidMetH_plain _ _ _ (by kernel_rfl)] at h
  obtain ⟨ps, hl, -⟩ := h
  exact shapes_of hl

set_option maxRecDepth 100000 in
theorem lifted (os : Os) (started : os.Started) (H : Type) (enc : TypeId × Value → H) :
    ReturnsInHanded {} Tryz.checked os 4 .any (fun w args => (Rows.fnLocksSpec.pre enc Tryz.prog Tryz.f4 [] false w args ∧ laidMetH Tryz.prog Rows.fnLocksRow.laid w) ∧ sizedMet enc Tryz.prog Tryz.f4 (OpenSpec.ofChange Rows.fnLocksSpec) false w args)
      (Rows.fnLocksSpec.post enc Tryz.prog Tryz.f4 false true false false) := by
  refine returnsInHanded_of_change_and (C := Tryz.checked) (X := fun w _ => laidMetH Tryz.prog Rows.fnLocksRow.laid w) (fun _ _ _ hh h => h.of_heap hh) own started (by kernel_rfl) Tryz.func4
    (ChangeSpec.witness_shaped (enc := enc) (C := Tryz.checked) (os := os) (X := fun w _ => laidMetH Tryz.prog Rows.fnLocksRow.laid w) false (World.doorLaid Tryz.prog 400 os) #[.slice none 0 0] 8 rfl (World.shaped_of_RefB (by kernel_rfl) (by kernel_rfl)) (by kernel_rfl) (by kernel_rfl) (by kernel_rfl) (met os _)) ?_
  intro W base args ds gs before hval0 hW _ _ hL _
  have hval : ∀ (j : Nat) t v, Tryz.f4.params[j]? = some t → args[j]? = some v → Value.okWide Tryz.prog W .any base t v := hval0
  have hW' := hW
  obtain ⟨p, q, hA0, hV, rfl, hfz, hnd⟩ := hW
  have hA : DataW.TrodAll enc Tryz.prog W 0 (fun _ => true) true Tryz.f4.params.toList args.toList ds p := hA0
  rw [Tryz.params4] at hA hval
  obtain ⟨v0, vs0, d0, ds0, p0, q0, hargs, rfl, rfl, h0, r0⟩ := trodAll_cons hA
  obtain ⟨rfl, rfl, rfl⟩ := trodAll_nil r0
  obtain rfl : args = #[v0] := by cases args; simp_all
  have k0 := h0
  have lt0 : ∀ x ∈ p0, x.block < W.heap.size := by obtain ⟨m, hm⟩ := k0; exact DataW.trod_lt m _ _ _ hm
  obtain ⟨a0, len0, cap0, rfl⟩ := okWide_slice Tryz.underlying22 (hval 0 22 v0 rfl rfl)
  obtain ⟨z0, w0⟩ : ∃ zs, IsRow .u8 W a0 len0 cap0 zs := by
    obtain ⟨fuel, hf⟩ := h0
    rcases open_ints Tryz.underlying22 Tryz.underlying5 (by kernel_rfl) hf with ⟨hcs, _⟩ | ⟨x, l, c, zs, hcs, _, hl, hm, hz, _, hcell, hwz⟩
    · simp [Value.cells] at hcs
      obtain ⟨rfl, rfl, rfl⟩ := hcs
      exact ⟨[], .inl ⟨rfl, rfl, rfl, rfl⟩⟩
    · simp [Value.cells] at hcs
      obtain ⟨rfl, rfl, rfl⟩ := hcs
      exact ⟨zs, .inr ⟨_, rfl, hl, hm, by simpa using hz, hcell, hwz⟩⟩
  clear hA0 hval0
  refine (walk a0 len0 cap0 z0 W w0 (tables hL)).mono fun e W' ⟨he, bel⟩ => ?_
  subst he
  match gs, hV with
  | [g1], hV =>
    exact ⟨_, rfl, _, _, _, [], _, _, hW', trodAll_mk1 (shut_bool Tryz.underlying4 _), (trodAll_cons_mk (Below.trod laidOut (by kernel_rfl) (of_decide_eq_true (by kernel_rfl)) k0 bel lt0) trodAll_mk0), Below.trodVars laidOut bel (by kernel_rfl) hV, bel.frame _, fun h => by cases h⟩

theorem over : Rows.fnLocksRow.holds Tryz.pinned (OpenSpec.ofChange Rows.fnLocksSpec) :=
  OpenClaim.holds_of_wide 4 Tryz.f4 rfl rfl rfl rfl rfl rfl rfl ⟨rfl, rfl, rfl, rfl, rfl⟩ rfl rfl rfl rfl rfl (by kernel_rfl) Tryz.func4 (by kernel_rfl)
    (of_decide_eq_true (by kernel_rfl)) (by unfold Func.isWrapper; first | (rw [if_pos (by decide +kernel)]; kernel_rfl) | (rw [if_neg (by decide +kernel)]; exact ⟨rfl, rfl⟩))
    (fun os started H enc _ => lifted os started H enc)

theorem carded : Rows.FnLocksCardSaid :=
  Claim7.holds_tied_plain_at .later [] [.data] true (true, "824b5fe7066db245479056315883c2009b2ed03bf3c5857259e750a5560c0d47") false
    over (fun _ h => by cases h) (by kernel_rfl) (fun _ h => by cases h) fnLocks_row_tie rfl ⟨rfl, rfl⟩ (by kernel_rfl) rfl
    (fun f fn hf hfn => by
      obtain rfl : f = 4 := Option.some.inj ((show Tryz.prog.funcNamed "loop.example/g00720/laws.FnLocks" = some 4 by kernel_rfl).symm.trans hf) |>.symm
      obtain rfl : fn = Tryz.f4 := (Option.some.inj (Tryz.func4.symm.trans hfn)).symm
      exact ⟨by kernel_rfl, fun j t ht => by
        rw [Tryz.params4] at ht
        have hm : t ∈ [22] := by simpa using Array.mem_of_getElem? ht
        have hall : ([22].all fun u => !Tryz.prog.wantsStandIn u) = true := by kernel_rfl
        exact (show Tryz.prog.wantsStandIn t = false by simpa using List.all_eq_true.1 hall t hm)⟩)
    (by kernel_rfl)
end Go.Proofs.YtihdablgnmkjnaaGreatDoor.fnLocks
namespace Go.Proofs.YtihdablgnmkjnaaGreatDoor
theorem fnLocks_holds : Rows.FnLocksCardSaid := fnLocks.carded
end Go.Proofs.YtihdablgnmkjnaaGreatDoor
