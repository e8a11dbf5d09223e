/-
  The law FnBursts answers true at every code (no condition), and leaves it as it was.
-/
import Derived.Test.YtcdjblgjcdkdnaaRows
import Derived.Test.YtcdjblgjcdkdnaaLks
import Derived.Test.YtcdjblgjcdkdnaaBrs5
import Derived.Test.YtcdjblgjcdkdnaaGrown
import Derived.BigQuiet
import Derived.Deep.Cut
import Derived.WalkKit
import Derived.ProofKit
import Derived.OpenShut
import Derived.LaidMore
import Derived.Stop.Joined
import Derived.OpenVars
namespace Go.Proofs.Ytcdjblgjcdkdnaa.fnBursts
open Go.ChangeShapes Go.WideShapes Go.ChangeAt Go.RowKit
set_option linter.unusedVariables false

def IsRow (k : IntKind) (w : World) (a : Option Addr) (len cap : Nat) (zs : List Int) : Prop :=
  (a = none ∧ len = 0 ∧ cap = 0 ∧ zs = []) ∨
  ∃ x, a = some x ∧ len ≤ cap ∧ cap ≤ maxLen ∧ zs.length = cap ∧ (∀ i, i < zs.length → w.cell? (x.add i) = some (.int k (zs.getD i 0))) ∧ ∀ n ∈ zs, (Lit.int k n).wf = true

/-- What a step does to a burst. -/
def StP (cb cm : Int) (x y : Bu) (t : Bool) : Prop := (0 ≤ x.l ∧ 0 ≤ x.s) ∧ (0 ≤ y.l ∧ 0 ≤ y.s) ∧ (t = true ↔ x.l ≠ 0) ∧ (x.l ≠ 0 → x.s = 0 ∧ y.l = x.l - 1 ∧ (y.l = 0 → y.s ≤ cm) ∧ (y.l ≠ 0 → y.s = 0)) ∧ (x.l = 0 → x.s ≠ 0 ∧ y.s = x.s - 1 ∧ y.l ≤ cb ∧ (y.l ≠ 0 → y.l = cb))
theorem stp_of {c : Cf} {x : Bu} (h : bkB c x = true) : bkB c (stB1 c x) = true ∧ StP c.b c.m x (stB1 c x) (stB2 c x) := by
  have q := bkB_in h
  have qc := cfB_in q.1
  obtain ⟨q0, q1, q2, q3, q4⟩ := q
  have e2 : stB2 c x = decide (x.l ≠ 0) := by simp [stB2, h]
  rw [e2]
  unfold stB1
  rw [if_pos h]
  by_cases h1 : x.l = 0
  · have h2 := q4.1 h1
    rw [if_neg (fun e => e h1)]
    by_cases h3 : x.s - 1 = 0
    · rw [if_pos h3]
      refine ⟨bkB_mk q0 (by simp only; omega) (by simp only; omega) (by simp only; omega) (by simp only; omega), ?_⟩
      refine ⟨⟨by omega, by omega⟩, ⟨by simp only; omega, by simp only; omega⟩, by simp [h1], fun q => absurd h1 q, fun _ => ⟨h2, rfl, by simp only; omega, fun _ => rfl⟩⟩
    · rw [if_neg h3]
      refine ⟨bkB_mk q0 (by simp only; omega) (by simp only; omega) (by simp only; omega) (by simp only; omega), ?_⟩
      refine ⟨⟨by omega, by omega⟩, ⟨by simp only; omega, by simp only; omega⟩, by simp [h1], fun q => absurd h1 q, fun _ => ⟨h2, rfl, by simp only; omega, fun q => absurd h1 q⟩⟩
  · have h2 : x.s = 0 := by
      by_cases e : x.s = 0
      · exact e
      · exact absurd (q4.2 e) h1
    rw [if_pos h1]
    by_cases h3 : x.l - 1 = 0
    · rw [if_pos h3]
      refine ⟨bkB_mk q0 (by simp only; omega) (by simp only; omega) (by simp only; omega) (by simp only; omega), ?_⟩
      refine ⟨⟨by omega, by omega⟩, ⟨by simp only; omega, by simp only; omega⟩, by simp [h1], fun _ => ⟨h2, rfl, fun _ => by simp only; omega, fun q => absurd h3 q⟩, fun q => absurd q h1⟩
    · rw [if_neg h3]
      refine ⟨bkB_mk q0 (by simp only; omega) (by simp only; omega) (by simp only; omega) (by simp only; omega), ?_⟩
      refine ⟨⟨by omega, by omega⟩, ⟨by simp only; omega, by simp only; omega⟩, by simp [h1], fun _ => ⟨h2, rfl, fun q => absurd q h3, fun _ => h2⟩, fun q => absurd q h1⟩

set_option maxHeartbeats 4000000 in
set_option maxRecDepth 20000 in
theorem walk (a0 : Option Addr) (len0 cap0 : Nat) (z0 : List Int) (w : World) (w0 : IsRow .u8 w a0 len0 cap0 z0)  :
    Calls Try.prog 3 #[.slice a0 len0 cap0] w fun e w' => e = .returned (.bool true) ∧ Below w.heap.size w w' := by
  have hcap : len0 ≤ 9223372036854775807 := by
    rcases w0 with ⟨_, e, _⟩ | ⟨x, _, h1, h2, _⟩
    · omega
    · unfold maxLen at h2; omega
  by_cases hbig : (4096 : Int) < (len0 : Int)
  · have hd : decide ((4096 : Int) < (len0 : Int)) = true := decide_eq_true hbig
    go_enter Try.func3, Try.ntmps3
    go_wp2_with fail
    refine (big_any _ _ _ _ hcap).mono ?_
    rintro e u1 ⟨rfl, rfl⟩
    go_wp2_with fail
    go_ret
    exact ⟨rfl, Below.refl _ _⟩
  · have hd : decide ((4096 : Int) < (len0 : Int)) = false := decide_eq_false hbig
    have hr := bytes_of_row w0
    have hl : len0 ≤ 4096 := by omega
    clear hbig
    go_enter Try.func3, Try.ntmps3
    go_wp2_with fail
    refine (big_any _ _ _ _ hcap).mono ?_
    rintro e u1 ⟨rfl, rfl⟩
    clear w0 hd hcap
    go_wp2_with fail
    refine (roll_any _ _ _ _ _ hr (by omega)).mono ?_
    rintro e u2 ⟨d, hh, rfl, D2, hd2, f2⟩
    have X2 := roll_dx hr D2 hd2 f2
    have hbq := bytes_below hr
    have hz2 := f2.size
    have hdz := D2.lt
    have hb2 : 0 < len0 → ∀ q, blk a0 = some q → q < u2.heap.size := fun q p hp => by have := hbq q p hp; omega
    go_wp2_with fail
    refine (looks_any X2 (by omega) (by omega) hb2).mono ?_
    rintro e u3 ⟨c, v, xs, rfl, hL, o3, D3⟩
    clear X2 D2 hr hbq
    have F3 := f2.then D3.g (fun j hj => by simp only [Option.some.injEq] at hj; omega)
    have hok := hL.ok
    have hB3 := hL.fb
    have hM4 := hL.fm
    clear o3 D3 hL hdz hz2 hb2 hd2 f2
    have cN := fun u => nwB_impl c u
    have cS := fun y u => buStep_impl c y u
    have cO := fun y u => buOk_impl c y u
    have hn : nwB c = ⟨c.b, 0, min c.b c.m⟩ := by simp [nwB, hok]
    rw [hn] at cN
    have HST : Hid (∀ y : Bu, bkB c y = true → bkB c (stB1 c y) = true ∧ StP c.b c.m y (stB1 c y) (stB2 c y)) := fun y hy => stp_of hy
    have HB0 : Hid (bkB c ⟨c.b, 0, min c.b c.m⟩ = true) := bkB_mk hok (by simp only; omega) (by simp only; omega) (by simp only; omega) (by simp only; omega)
    clear hn hok
    obtain ⟨r, s, b, m, q, cc, k⟩ := c
    simp only at hB3 hM4 cN cS cO HST HB0 ⊢
    have fA := Fr.alloc u3 (.cells #[.int .i64 r, .int .i64 s, .int .i64 b, .int .i64 m, .int .i64 q, .int .i64 cc, .int .i64 k] 28)
    have K3 : CfZ (u3.alloc (.cells #[.int .i64 r, .int .i64 s, .int .i64 b, .int .i64 m, .int .i64 q, .int .i64 cc, .int .i64 k] 28)) u3.heap.size #[.int .i64 r, .int .i64 s, .int .i64 b, .int .i64 m, .int .i64 q, .int .i64 cc, .int .i64 k] := heap_alloc_new u3 _
    go_upto_region 5 with fail
    obtain ⟨E, hE⟩ : ∃ E, E = u3.heap.size := ⟨_, rfl⟩
    obtain ⟨U, hU⟩ : ∃ U, U = u3.alloc (.cells #[.int .i64 r, .int .i64 s, .int .i64 b, .int .i64 m, .int .i64 q, .int .i64 cc, .int .i64 k] 28) := ⟨_, rfl⟩
    rw [← hU] at fA K3 ⊢
    rw [← hE] at K3 ⊢
    clear hU hE
    replace F3 := F3.trans fA
    clear fA
    obtain ⟨k0, k1, k2, k3, k4, k5, k6⟩ := CfZ.at (c := ⟨r, s, b, m, q, cc, k⟩) K3
    simp only [Nat.zero_add] at k0 k1 k2 k3 k4 k5 k6
    go_wp2_with fail
    refine (cN _).mono ?_
    rintro e u4 ⟨rfl, f4⟩
    clear k0 k1 k2 k3 k4 k5 k6 cN
    replace K3 := K3.fr f4
    replace F3 := F3.trans f4
    clear f4
    obtain ⟨x, hx⟩ : ∃ x, x = min b m := ⟨_, rfl⟩
    rw [← hx] at HB0 ⊢
    clear hx
    go_upto_region 6 with fail
    have fB := Fr.alloc u4 (.cells #[.int .i64 b, .int .i64 0, .int .i64 x] 33)
    have KB : BuZ (u4.alloc (.cells #[.int .i64 b, .int .i64 0, .int .i64 x] 33)) u4.heap.size #[.int .i64 b, .int .i64 0, .int .i64 x] := heap_alloc_new u4 _
    obtain ⟨G, hG⟩ : ∃ G, G = u4.heap.size := ⟨_, rfl⟩
    have hzF := F3.size
    have hEG : E < G := by rw [hG]; exact K3.lt
    obtain ⟨V, hV⟩ : ∃ V, V = u4.alloc (.cells #[.int .i64 b, .int .i64 0, .int .i64 x] 33) := ⟨_, rfl⟩
    rw [← hV] at fB KB ⊢
    rw [← hG] at KB hzF ⊢
    clear hV hG
    replace K3 := K3.fr fB
    replace F3 := F3.trans fB
    clear fB
    go_wp2_with fail
    go_loopw [7, 8, 9] (fun ro ga i wr => ∃ (p : Nat) (ri gi : Int) (y : Bu), p ≤ 60 ∧ ro = .int .i64 ri ∧ ga = .int .i64 gi ∧ i = .int .i64 p ∧ Hid (bkB ⟨r, s, b, m, q, cc, k⟩ y = true) ∧ (0 ≤ ri ∧ ri + y.l ≤ b) ∧ (0 ≤ gi ∧ gi + y.s ≤ m) ∧ ((p : Int) ≤ b → y.l = b - p) ∧ Fr u1 wr ∧ BuZ wr G #[.int .i64 y.l, .int .i64 y.s, .int .i64 y.g] ∧ CfZ wr E #[.int .i64 r, .int .i64 s, .int .i64 b, .int .i64 m, .int .i64 q, .int .i64 cc, .int .i64 k]) (fun _ _ i _ => 60 - (intOf i).toNat)
    case atStart =>
      exact ⟨0, 0, 0, ⟨b, 0, x⟩, by omega, rfl, rfl, rfl, HB0, ⟨by omega, by simp only; omega⟩, ⟨by omega, by simp only; omega⟩, fun _ => by simp only; omega, F3, KB, K3⟩
    case round =>
      obtain ⟨p, ri, gi, y, hp, rfl, rfl, rfl, HY, hr, hg, hl, hF, kB, kC⟩ := hrel
      by_cases hlt : p < 60
      · have hst := HST.out y HY.out
        have cS := fun u => cS y u
        have cO := fun u => cO (stB1 ⟨r, s, b, m, q, cc, k⟩ y) u
        rw [hst.1] at cO
        generalize stB1 ⟨r, s, b, m, q, cc, k⟩ y = S1 at hst cS cO
        generalize stB2 ⟨r, s, b, m, q, cc, k⟩ y = S2 at hst cS
        obtain ⟨HY2, ⟨⟨s1, s2⟩, ⟨s3, s4⟩, s5, s6, s7⟩⟩ := hst
        replace HY2 : Hid _ := HY2
        obtain ⟨xl, xs, xg⟩ := y
        obtain ⟨yl, ys, yg⟩ := S1
        simp only at hr hg hl s1 s2 s3 s4 s5 s6 s7 cS cO kB
        have kC0 := kC
        obtain ⟨k0, k1, k2, k3, k4, k5, k6⟩ := CfZ.at (c := ⟨r, s, b, m, q, cc, k⟩) kC0
        simp only [Nat.zero_add] at k0 k1 k2 k3 k4 k5 k6
        have l0 := kB.c0
        have l1 := kB.c1
        have l2 := kB.c2
        go_wp2_with fail
        refine (cS _).mono ?_
        rintro e v1 ⟨rfl, f1⟩
        clear k0 k1 k2 k3 k4 k5 k6 l0 l1 l2 kC0
        replace kB := kB.fr f1
        replace kC := kC.fr f1
        replace hF := hF.trans f1
        clear f1
        go_upto_region 12 with fail
        have fX := Fr.alloc v1 (.cells #[.int .i64 yl, .int .i64 ys, .int .i64 yg] 33)
        have kX : BuZ (v1.alloc (.cells #[.int .i64 yl, .int .i64 ys, .int .i64 yg] 33)) v1.heap.size #[.int .i64 yl, .int .i64 ys, .int .i64 yg] := heap_alloc_new v1 _
        have hzG := kB.lt
        obtain ⟨H, hH⟩ : ∃ H, H = v1.heap.size := ⟨_, rfl⟩
        obtain ⟨v2, hV⟩ : ∃ V, V = v1.alloc (.cells #[.int .i64 yl, .int .i64 ys, .int .i64 yg] 33) := ⟨_, rfl⟩
        rw [← hV] at fX kX ⊢
        rw [← hH] at kX hzG ⊢
        clear hV hH
        replace kB := kB.fr fX
        replace kC := kC.fr fX
        replace hF := hF.trans fX
        clear fX
        have kC0 := kC
        obtain ⟨k0, k1, k2, k3, k4, k5, k6⟩ := CfZ.at (c := ⟨r, s, b, m, q, cc, k⟩) kC0
        simp only [Nat.zero_add] at k0 k1 k2 k3 k4 k5 k6
        have l0 := kX.c0
        have l1 := kX.c1
        have l2 := kX.c2
        go_wp2_with fail
        refine (cO _).mono ?_
        rintro e v3 ⟨rfl, f3⟩
        clear k0 k1 k2 k3 k4 k5 k6 l0 l1 l2 kC0 cO cS
        replace kB := kB.fr f3
        replace kC := kC.fr f3
        replace kX := kX.fr f3
        replace hF := hF.trans f3
        clear f3
        have kC0 := kC
        obtain ⟨k0, k1, k2, k3, k4, k5, k6⟩ := CfZ.at (c := ⟨r, s, b, m, q, cc, k⟩) kC0
        simp only [Nat.zero_add] at k0 k1 k2 k3 k4 k5 k6
        have l0 := kX.c0
        have l1 := kX.c1
        have l2 := kX.c2
        have b0 := kB.c0
        have b1 := kB.c1
        have b2 := kB.c2
        have nb := kB.free
        have g4 := grown_trans (grown_trans (grown_set v3 G 0 (.int .i64 yl)) (grown_set _ G 1 (.int .i64 ys))) (grown_set _ G 2 (.int .i64 yg))
        have HZ : Hid (BuZ (((v3.setCell ⟨G, 0, none⟩ (.int .i64 yl)).setCell ⟨G, 1, none⟩ (.int .i64 ys)).setCell ⟨G, 2, none⟩ (.int .i64 yg)) G #[.int .i64 yl, .int .i64 ys, .int .i64 yg] ∧ CfZ (((v3.setCell ⟨G, 0, none⟩ (.int .i64 yl)).setCell ⟨G, 1, none⟩ (.int .i64 ys)).setCell ⟨G, 2, none⟩ (.int .i64 yg)) E #[.int .i64 r, .int .i64 s, .int .i64 b, .int .i64 m, .int .i64 q, .int .i64 cc, .int .i64 k] ∧ Fr u1 (((v3.setCell ⟨G, 0, none⟩ (.int .i64 yl)).setCell ⟨G, 1, none⟩ (.int .i64 ys)).setCell ⟨G, 2, none⟩ (.int .i64 yg))) := ⟨((kB.set0 _).set1 _).set2 _, kC.keep g4 (by simp only [ne_eq, Option.some.injEq]; omega), hF.then g4 (by intro j hj; cases hj; omega)⟩
        clear g4
        cases S2
        · have hx0 : xl = 0 := by
            by_cases e : xl = 0
            · exact e
            · exact absurd (s5.2 e) (by simp)
          obtain ⟨t1, t2, t3, t4⟩ := s7 hx0
          clear s5 s6 s7
          have d3 : decide (m < gi + 1) = false := decide_eq_false (by omega)
          have d4 : decide (b < 0) = false := decide_eq_false (by omega)
          have d1 : decide ((p : Int) < b) = false := decide_eq_false (by omega)
          by_cases hb : (p : Int) = b
          · have d2 : decide ((p : Int) = b) = true := decide_eq_true hb
            replace t1 : Hid _ := t1
            replace t2 : Hid _ := t2
            replace hx0 : Hid _ := hx0
            replace hl : Hid _ := hl
            replace hb : Hid _ := hb
            go_wp2_with fail
            go_roundw
            case rel =>
              have t1 := t1.out
              have t2 := t2.out
              have hx0 := hx0.out
              have hl := hl.out
              have hb := hb.out
              refine ⟨p + 1, 0, gi + 1, ⟨yl, ys, yg⟩, by omega, ?_, ?_, by go_num, HY2, ⟨by omega, by simp only; omega⟩, ⟨by omega, by simp only; omega⟩, fun q => by simp only; omega, HZ.out.2.2, HZ.out.1, HZ.out.2.1⟩ <;> first | rfl | go_num
            case measure => simp [intOf]; omega
          · have d2 : decide ((p : Int) = b) = false := decide_eq_false hb
            replace t1 : Hid _ := t1
            replace t2 : Hid _ := t2
            replace hx0 : Hid _ := hx0
            replace hl : Hid _ := hl
            replace hb : Hid _ := hb
            go_wp2_with fail
            go_roundw
            case rel =>
              have t1 := t1.out
              have t2 := t2.out
              have hx0 := hx0.out
              have hl := hl.out
              have hb := hb.out
              refine ⟨p + 1, 0, gi + 1, ⟨yl, ys, yg⟩, by omega, ?_, ?_, by go_num, HY2, ⟨by omega, by simp only; omega⟩, ⟨by omega, by simp only; omega⟩, fun q => by simp only; omega, HZ.out.2.2, HZ.out.1, HZ.out.2.1⟩ <;> first | rfl | go_num
            case measure => simp [intOf]; omega
        · have hx0 : xl ≠ 0 := s5.1 rfl
          obtain ⟨t1, t2, t3, t4⟩ := s6 hx0
          clear s5 s6 s7
          have d3 : decide (m < 0) = false := decide_eq_false (by omega)
          have d4 : decide (b < ri + 1) = false := decide_eq_false (by omega)
          have d2 : decide ((p : Int) = b) = false := decide_eq_false (by omega)
          have d5 : ((p : Int) = b) = False := eq_false (by omega)
          have d6 : ((p : Int) == b) = false := by simp only [beq_eq_false_iff_ne, ne_eq]; omega
          have hys : ys ≤ m := by
            by_cases e : yl = 0
            · exact t3 e
            · have := t4 e; omega
          by_cases hb : (p : Int) < b
          · have d1 : decide ((p : Int) < b) = true := decide_eq_true hb
            replace t1 : Hid _ := t1
            replace t2 : Hid _ := t2
            replace hx0 : Hid _ := hx0
            replace hl : Hid _ := hl
            replace hb : Hid _ := hb
            go_wp2_with fail
            go_roundw
            case rel =>
              have t1 := t1.out
              have t2 := t2.out
              have hx0 := hx0.out
              have hl := hl.out
              have hb := hb.out
              refine ⟨p + 1, ri + 1, 0, ⟨yl, ys, yg⟩, by omega, ?_, ?_, by go_num, HY2, ⟨by omega, by simp only; omega⟩, ⟨by omega, by simp only; omega⟩, fun q => by simp only; omega, HZ.out.2.2, HZ.out.1, HZ.out.2.1⟩ <;> first | rfl | go_num
            case measure => simp [intOf]; omega
          · have d1 : decide ((p : Int) < b) = false := decide_eq_false hb
            replace t1 : Hid _ := t1
            replace t2 : Hid _ := t2
            replace hx0 : Hid _ := hx0
            replace hl : Hid _ := hl
            replace hb : Hid _ := hb
            go_wp2_with fail
            go_roundw
            case rel =>
              have t1 := t1.out
              have t2 := t2.out
              have hx0 := hx0.out
              have hl := hl.out
              have hb := hb.out
              refine ⟨p + 1, ri + 1, 0, ⟨yl, ys, yg⟩, by omega, ?_, ?_, by go_num, HY2, ⟨by omega, by simp only; omega⟩, ⟨by omega, by simp only; omega⟩, fun q => by simp only; omega, HZ.out.2.2, HZ.out.1, HZ.out.2.1⟩ <;> first | rfl | go_num
            case measure => simp [intOf]; omega
      · obtain rfl : p = 60 := by omega
        go_wp2_with fail
        go_ret
        exact ⟨rfl, hF.below⟩

theorem own : ownKnob Try.prog.godebug = none := by kernel_rfl
theorem laidOut : laidOutB Try.prog = true := by kernel_rfl

set_option maxRecDepth 100000 in
theorem lifted (os : Os) (started : os.Started) (H : Type) (enc : TypeId × Value → H) :
    ReturnsInHanded {} Try.checked os 3 .any (Rows.fnBurstsSpec.pre6 enc Try.prog Try.f3 Rows.fnBurstsRow.domain false) (Rows.fnBurstsSpec.post enc Try.prog Try.f3 false true false false) := by
  refine returnsInHanded_of_change (C := Try.checked) own started (by kernel_rfl) Try.func3
    (ChangeSpec.witness6 (enc := enc) (C := Try.checked) false ⟨#[], #[.slice none 0 0], []⟩ 8 (by kernel_rfl) (by kernel_rfl) (by kernel_rfl) (by kernel_rfl)) ?_
  intro W base args ds gs before hval0 hW hcnd _
  have hval : ∀ (j : Nat) t v, Try.f3.params[j]? = some t → args[j]? = some v → Value.okWide Try.prog W .any base t v := hval0
  have hW' := hW
  obtain ⟨p, q, hA0, hV, rfl, hfz, hnd⟩ := hW
  have hA : DataW.TrodAll enc Try.prog W 0 (fun _ => true) true Try.f3.params.toList args.toList ds p := hA0
  rw [Try.params3] at hA hval
  obtain ⟨v0, vs0, d0, ds0, p0, q0, hargs, rfl, rfl, h0, r0⟩ := trodAll_cons hA
  obtain ⟨rfl, rfl, rfl⟩ := trodAll_nil r0
  obtain rfl : args = #[v0] := by cases args; simp_all
  have k0 := h0
  have lt0 : ∀ x ∈ p0, x.block < W.heap.size := by obtain ⟨m, hm⟩ := k0; exact DataW.trod_lt m _ _ _ hm
  obtain ⟨rfl, rfl⟩ := trodVars_none hV
  obtain ⟨a0, len0, cap0, rfl⟩ := okWide_slice Try.underlying22 (hval 0 22 v0 rfl rfl)
  obtain ⟨z0, w0⟩ : ∃ zs, IsRow .u8 W a0 len0 cap0 zs := by
    obtain ⟨fuel, hf⟩ := h0
    rcases open_ints Try.underlying22 Try.underlying5 (by kernel_rfl) hf with ⟨hcs, _⟩ | ⟨x, l, c, zs, hcs, _, hl, hm, hz, _, hcell, hwz⟩
    · simp [Value.cells] at hcs
      obtain ⟨rfl, rfl, rfl⟩ := hcs
      exact ⟨[], .inl ⟨rfl, rfl, rfl, rfl⟩⟩
    · simp [Value.cells] at hcs
      obtain ⟨rfl, rfl, rfl⟩ := hcs
      exact ⟨zs, .inr ⟨_, rfl, hl, hm, by simpa using hz, hcell, hwz⟩⟩
  clear hA0 hval0
  refine (walk a0 len0 cap0 z0 W w0).mono fun e W' ⟨he, bel⟩ => ?_
  subst he
  exact ⟨_, rfl, _, _, _, [], _, [], hW', trodAll_mk1 (shut_bool Try.underlying4 _), (trodAll_cons_mk (Below.trod laidOut (by kernel_rfl) (of_decide_eq_true (by kernel_rfl)) k0 bel lt0) trodAll_mk0), rfl, bel.frame _, fun h => by cases h⟩

theorem over : Rows.fnBurstsRow.holds Try.pinned (OpenSpec.ofChange Rows.fnBurstsSpec) :=
  OpenClaim.holds_of_wide 3 Try.f3 rfl rfl rfl rfl rfl rfl rfl ⟨rfl, rfl, rfl, rfl, rfl⟩ rfl rfl rfl rfl rfl (by kernel_rfl) Try.func3 (by kernel_rfl)
    (of_decide_eq_true (by kernel_rfl)) (by unfold Func.isWrapper; first | (rw [if_pos (by decide +kernel)]; kernel_rfl) | (rw [if_neg (by decide +kernel)]; exact ⟨rfl, rfl⟩))
    (fun os started H enc _ => lifted os started H enc)
end Go.Proofs.Ytcdjblgjcdkdnaa.fnBursts
namespace Go.Proofs.Ytcdjblgjcdkdnaa
theorem fnBursts_holds : Rows.FnBurstsSaid := fnBursts.over
end Go.Proofs.Ytcdjblgjcdkdnaa
