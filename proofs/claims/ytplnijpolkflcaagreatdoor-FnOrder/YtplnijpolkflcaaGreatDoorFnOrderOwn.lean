/-
  The law FnOrder answers true at every code (the program's table and the library's table of trailing zeros lying as the program's text lays them), and leaves it as it was.
-/
import Derived.Test.YtplnijpolkflcaaGreatDoorRows
import Derived.Test.YtplnijpolkflcaaGreatDoorCards
import Derived.Test.YtplnijpolkflcaaGreatDoorTie
import Derived.Test.YtplnijpolkflcaaGreatDoorPqAI
import Derived.Test.YtplnijpolkflcaaGreatDoorPqBA
import Derived.Test.YtplnijpolkflcaaGreatDoorLawO
import Derived.Test.YtplnijpolkflcaaGreatDoorPqBT
import Derived.Test.YtplnijpolkflcaaGreatDoorDoor2
import Derived.WalkKit
import Derived.ProofKit
import Derived.OpenShut
import Derived.LaidMore
import Derived.Stop.Joined
import Derived.OpenVars
import Derived.SevenTiedAt
namespace Go.Proofs.YtplnijpolkflcaaGreatDoor.fnOrder
open Go.ChangeShapes Go.WideShapes Go.ChangeAt Go.RowKit
set_option linter.unusedVariables false

def IsRow (k : IntKind) (w : World) (a : Option Addr) (len cap : Nat) (zs : List Int) : Prop :=
  (a = none ∧ len = 0 ∧ cap = 0 ∧ zs = []) ∨
  ∃ x, a = some x ∧ len ≤ cap ∧ cap ≤ maxLen ∧ zs.length = cap ∧ (∀ i, i < zs.length → w.cell? (x.add i) = some (.int k (zs.getD i 0))) ∧ ∀ n ∈ zs, (Lit.int k n).wf = true

set_option maxHeartbeats 4000000 in
set_option maxRecDepth 20000 in
theorem walk (a0 : Option Addr) (len0 cap0 : Nat) (z0 : List Int) (w : World) (w0 : IsRow .u8 w a0 len0 cap0 z0) (hs : Shapes w ∧ Tab w) :
    Calls Tryz.prog 4 #[.slice a0 len0 cap0] w fun e w' => e = .returned (.bool true) ∧ Below w.heap.size w w' := by
  have hcap : len0 ≤ 9223372036854775807 := by
    rcases w0 with ⟨_, e, _⟩ | ⟨x, _, h1, h2, _⟩
    · omega
    · unfold maxLen at h2; omega
  by_cases hbig : (4096 : Int) < (len0 : Int)
  · have hd : decide ((4096 : Int) < (len0 : Int)) = true := decide_eq_true hbig
    go_enter Tryz.func4, Tryz.ntmps4
    go_wp2_with fail
    refine (big_any _ _ _ _ hcap).mono ?_
    rintro e u1 ⟨rfl, rfl⟩
    go_wp2_with fail
    go_ret
    exact ⟨rfl, Below.refl _ _⟩
  · have hd : decide ((4096 : Int) < (len0 : Int)) = false := decide_eq_false hbig
    have hr := bytes_of_row w0
    have hl : len0 ≤ 4096 := by omega
    clear hbig
    obtain ⟨hs, hT⟩ := hs
    go_enter Tryz.func4, Tryz.ntmps4
    go_wp2_with fail
    refine (big_any _ _ _ _ hcap).mono ?_
    rintro e u1 ⟨rfl, rfl⟩
    clear w0 hd hcap
    go_wp2_with fail
    refine (roll_any _ _ _ _ _ hr (by omega)).mono ?_
    rintro e u2 ⟨d, hh, rfl, D2, hd2, f2⟩
    have X2 := roll_dx hr D2 hd2 f2
    have hbq := bytes_below hr
    have hz2 := f2.size
    have hdz := D2.lt
    go_wp2_with fail
    refine (trace_any 50 X2 (by omega) (by omega) (by omega) (fun q p hp => by have := hbq q p hp; omega)).mono ?_
    rintro e u3 ⟨es, g, c, m, rfl, o3, ⟨L3, T3⟩, ⟨n2, n3⟩, D3⟩
    clear X2 D2 hr hbq
    have F3 := f2.then D3.g (fun j hj => by simp only [Option.some.injEq] at hj; omega)
    have tg := o3.lt g rfl
    go_wp2_with fail
    refine (belowX D3 (by omega) (es.length : Int) (by omega) (by omega)).mono ?_
    rintro e u4 ⟨r, rfl, r0, r1, g4, -⟩
    have F4 := F3.then g4 (fun j hj => by simp only [Option.some.injEq] at hj; omega)
    have o4 := o3.kept g4 (.inr (by simp only [Value.ownBlock, ne_eq, Option.some.injEq]; omega))
    have z4 := g4.size
    obtain ⟨K, rfl⟩ : ∃ J : Nat, r = J := ⟨r.toNat, by omega⟩
    have hK : K < es.length := by omega
    have R := own_readsE o4 (by omega)
    have hc2 : es.length ≤ c := own_capR o4
    have hleg : (legS scn0 es).2.1 = es.length := by rw [L3]
    have hs4 := hs.fr F4
    have hT4 := hT.fr F4
    have hab : ∀ u, Fr u4 u → ∀ k, blk (some (⟨g, 0, none⟩ : Addr)) = some k → k < u.heap.size := fun u f k hk => by
      simp only [blk, Option.map_some, Option.some.injEq] at hk
      have := f.size
      omega
    have cB := fun u (f : Fr u4 u) (j : Int) => implBef_any (some ⟨g, 0, none⟩) es.length c es u rfl hc2 (R.fr f) j (hs4.fr f) (hT4.fr f) (hab u f)
    have cE := fun u (f : Fr u4 u) (j : Int) => implEdges_any (some ⟨g, 0, none⟩) es.length c es u rfl hc2 (R.fr f) j (hs4.fr f) (hT4.fr f) (hab u f)
    have cO := fun u (f : Fr u4 u) (i j : Int) => implOrd_any (some ⟨g, 0, none⟩) es.length c es u rfl hc2 (R.fr f) i j (hs4.fr f) (hab u f)
    have cS := fun u (f : Fr u4 u) (j : Int) => specBef_any g 0 es.length c es u rfl hc2 (R.fr f) j
    obtain ⟨h1, h2, h3, h4⟩ := order_facts (by omega) hleg hK
    have H1 : Hid _ := h1
    have H2 : Hid _ := h2
    have H3 : Hid _ := h3
    have HL300 : Hid (∀ n : Nat, (rsL (rJ es n).2).length ≤ 320) := fun n => rsL_len _
    have hEl := rsL_len (rJ es K).1
    have hLl := rsL_len (rJ es K).2
    have cB0 := fun u f => cB u f (K : Int)
    have cE0 := fun u f => cE u f (K : Int)
    have cS0 := fun u f => cS u f (K : Int)
    have cO0 := fun u f (i : Int) => cO u f i (K : Int)
    obtain ⟨N, hN⟩ : ∃ N, N = (rJ es K).2 := ⟨_, rfl⟩
    simp only [← hN] at cB0 cS0 cO0 H1 H2 H3 hLl h4
    obtain ⟨L, hL⟩ : ∃ L, L = rsL N := ⟨_, rfl⟩
    obtain ⟨Ed, hEd⟩ : ∃ L, L = rsL (rJ es K).1 := ⟨_, rfl⟩
    simp only [← hL] at cB0 cS0 H1 H2 hLl
    simp only [← hEd] at cE0 H2 hEl
    clear hL hEd hN cS cE cO hleg L3 T3 D3 hd2 o3 o4 hs4 hT4 hab hs hT h1 h2 h3 F3
    have RE : Hid (∀ u, Fr u4 u → ReadsE u (some ⟨g, 0, none⟩) es) := fun u f => R.fr f
    clear R
    have heq : decide (L = L) = true := by simp
    go_wp2_with fail
    refine (cB0 _ (Fr.refl _)).mono ?_
    rintro e u5 ⟨v5, rfl, o5, f5⟩
    obtain ⟨g5, c5, rfl, o5⟩ := o5
    have RL := o5.reads
    clear cB0 o5
    go_wp2_with fail
    refine (cS0 _ f5).mono ?_
    rintro e u6 ⟨v6, rfl, o6, f6⟩
    obtain ⟨g6, c6, rfl, o6⟩ := o6
    have F6 := f5.trans f6
    have RL := RL.fr f6
    clear cS0
    go_wp2_with fail
    refine (like_any _ _ _ _ _ _ L L _ rfl rfl RL o6.reads).mono ?_
    rintro e u7 ⟨rfl, n7, rfl⟩
    have f7 := Fr.drewN u6 n7
    have F7 := F6.trans f7
    have RL := RL.fr f7
    clear o6 F6 f7 f5 f6 heq
    obtain ⟨W, hW⟩ : ∃ W, W = u6.drewN n7 := ⟨_, rfl⟩
    rw [← hW] at F7 RL
    go_wp2_with fail
    rw [← hW]
    clear hW
    go_loopw [7] (fun i wr => ∃ p : Nat, p ≤ L.length ∧ i = .int .i64 p ∧ Fr W wr) (fun i _ => L.length - (intOf i).toNat)
    case atStart => exact ⟨0, Nat.zero_le _, rfl, Fr.refl _⟩
    case round =>
      obtain ⟨p, hp, rfl, fr⟩ := hrel
      by_cases hlt : p < L.length
      · have hpi : (p : Int) < L.length := by omega
        obtain ⟨x, hx, hxK, hxm⟩ := H1.out L[p] (List.getElem_mem hlt)
        have HC : Hid (∀ u, Fr W u → u.cell? ⟨g5, p, none⟩ = some (.int .i64 (x : Int))) := fun u fu => by
          obtain ⟨bb, off2, e0, hc⟩ := (RL.fr fu).at_ p hlt
          simp only [Option.some.injEq, Addr.mk.injEq, and_true] at e0
          obtain ⟨rfl, rfl⟩ := e0
          have := hc p hlt
          rw [getD_at hlt, Nat.zero_add, hx] at this
          exact this
        have hMl := HL300.out x
        have cB := cB _ (F7.trans fr) (x : Int)
        have HXM : Hid _ := hxm
        obtain ⟨M, hM⟩ : ∃ M, M = rsL (rJ es x).2 := ⟨_, rfl⟩
        simp only [← hM] at cB HXM hMl
        have hxk : ((K : Int) ≤ (x : Int)) = False := by simp; omega
        have hxk2 : decide ((K : Int) ≤ (x : Int)) = false := by simp; omega
        clear hxm hx hM
        have c0 := HC.out _ fr
        go_wp2_with fail
        refine cB.mono ?_
        rintro x' u8 ⟨v8, rfl, o8, f8⟩
        clear cB c0
        obtain ⟨g8, c8, rfl, o8⟩ := o8
        have RM := o8.reads
        have c0 := HC.out _ (fr.trans f8)
        clear o8
        go_wp2_with fail
        go_loopw [9] (fun i wq => ∃ q : Nat, q ≤ M.length ∧ i = .int .i64 q ∧ Fr u8 wq) (fun i _ => M.length - (intOf i).toNat)
        case atStart => exact ⟨0, Nat.zero_le _, rfl, Fr.refl _⟩
        case round =>
          obtain ⟨q, hq, rfl, fq⟩ := hrel
          by_cases hlq : q < M.length
          · have hqi : (q : Int) < M.length := by omega
            obtain ⟨bb, off2, e0, hc⟩ := (RM.fr fq).at_ q hlq
            simp only [Option.some.injEq, Addr.mk.injEq, and_true] at e0
            obtain ⟨rfl, rfl⟩ := e0
            have cq := hc q hlq
            rw [getD_at hlq, Nat.zero_add] at cq
            have hm := HXM.out M[q] (List.getElem_mem hlq)
            obtain ⟨y, hy⟩ : ∃ y, y = M[q] := ⟨_, rfl⟩
            rw [← hy] at cq hm
            have cH := has_any (some ⟨g5, 0, none⟩) L.length c5 L y wr rfl (((RL.fr fr).fr f8).fr fq)
            rw [hm] at cH
            clear hc hy hm
            go_wp2_with fail
            refine cH.mono ?_
            rintro x' u9 ⟨rfl, rfl⟩
            clear cH
            go_wp2_with fail
            go_roundw
            case rel => exact ⟨q + 1, by omega, by go_num, fq⟩
            case measure => simp [intOf] <;> omega
          · have e : q = M.length := by omega
            subst e
            go_wp2_with fail
            go_roundw
            case rel => exact ⟨p + 1, by omega, by go_num, (fr.trans f8).trans fq⟩
            case measure => simp [intOf] <;> omega
      · have e : p = L.length := by omega
        subst e
        have cE0 := cE0 _ (F7.trans fr)
        clear H1 HL300 cB
        go_wp2_with fail
        refine cE0.mono ?_
        rintro x' u8 ⟨v8, rfl, o8, f8⟩
        clear cE0
        obtain ⟨g8, c8, rfl, o8⟩ := o8
        have RM := o8.reads
        have F8 := fr.trans f8
        clear o8 hlt hp
        go_wp2_with fail
        go_loopw [11] (fun i wq => ∃ q : Nat, q ≤ Ed.length ∧ i = .int .i64 q ∧ Fr u8 wq) (fun i _ => Ed.length - (intOf i).toNat)
        case atStart => exact ⟨0, Nat.zero_le _, rfl, Fr.refl _⟩
        case round =>
          obtain ⟨q, hq, rfl, fq⟩ := hrel
          by_cases hlq : q < Ed.length
          · have hqi : (q : Int) < Ed.length := by omega
            obtain ⟨bb, off2, e0, hc⟩ := (RM.fr fq).at_ q hlq
            simp only [Option.some.injEq, Addr.mk.injEq, and_true] at e0
            obtain ⟨rfl, rfl⟩ := e0
            have cq := hc q hlq
            rw [getD_at hlq, Nat.zero_add] at cq
            have hm := H2.out Ed[q] (List.getElem_mem hlq)
            obtain ⟨y, hy⟩ : ∃ y, y = Ed[q] := ⟨_, rfl⟩
            rw [← hy] at cq hm
            have cH := has_any (some ⟨g5, 0, none⟩) L.length c5 L y wr rfl ((RL.fr F8).fr fq)
            rw [hm] at cH
            clear hc hy hm
            go_wp2_with fail
            refine cH.mono ?_
            rintro x' u9 ⟨rfl, rfl⟩
            clear cH
            go_wp2_with fail
            go_roundw
            case rel => exact ⟨q + 1, by omega, by go_num, fq⟩
            case measure => simp [intOf] <;> omega
          · have e : q = Ed.length := by omega
            subst e
            have F9 := F8.trans fq
            clear RM RL H2 hq hlq
            go_wp2_with fail
            go_loopw [12] (fun i wz => ∃ q : Nat, q ≤ K ∧ i = .int .i64 q ∧ Fr wr wz) (fun i _ => K - (intOf i).toNat)
            case atStart => exact ⟨0, Nat.zero_le _, rfl, Fr.refl _⟩
            case round =>
              obtain ⟨q, hq, rfl, fz⟩ := hrel
              by_cases hlz : q < K
              · have hqi : (q : Int) < K := by omega
                have hql : (q : Int) < es.length := by omega
                have hKl : (K : Int) < es.length := by omega
                have FZ := F7.trans (F9.trans fz)
                have RR := RE.out _ FZ
                obtain ⟨bb, off2, e0, hc⟩ := RR.at_ q (by omega)
                simp only [Option.some.injEq, Addr.mk.injEq, and_true] at e0
                obtain ⟨rfl, rfl⟩ := e0
                obtain ⟨-, d1, -⟩ := hc q (by omega)
                obtain ⟨-, d2, -⟩ := hc K hK
                have hg := H3.out q hlz
                rw [evA_at (by omega), evA_at hK] at hg
                obtain ⟨ga, hga⟩ : ∃ z, z = es[q].g := ⟨_, rfl⟩
                obtain ⟨gb, hgb⟩ : ∃ z, z = es[K].g := ⟨_, rfl⟩
                rw [← hga] at d1 hg
                rw [← hgb] at d2 hg
                simp only [Nat.zero_add] at d1 d2
                clear hga hgb hc RR
                have p1 : ∀ s : Later wr, s.u.cell? ⟨g, q * 8 + 1, none⟩ = some (.int .i64 ga) := fun s => s.fr.cell d1
                have p2 : ∀ s : Later wr, s.u.cell? ⟨g, K * 8 + 1, none⟩ = some (.int .i64 gb) := fun s => s.fr.cell d2
                by_cases hgg : ga = gb
                · subst hgg
                  have hbt := hg rfl
                  have hin : inB 0 299 (q : Int) = true := by simp [inB]; omega
                  have cO : ∀ s : Later wr, Calls Tryz.prog 28 #[.slice (some ⟨g, 0, none⟩) es.length c, .int .i64 (q : Int), .int .i64 (K : Int)] s.u fun x w' => x = .returned (.bool true) ∧ Fr s.u w' := fun s => by
                    have := cO0 _ (FZ.trans s.fr) (q : Int)
                    rw [Int.toNat_natCast, hin, hbt] at this
                    exact this
                  have hgq : (ga == ga) = true := by simp
                  clear hg hin hbt d1 d2
                  go_wp2_with fail
                  have := Later.some wr
                  refine wp_region_grown (by kernel_rfl) (by kernel_rfl) ?_
                  repeat (go_big_quiet_step (first | with_reducible exact Calls.grown_of (cO _)))
                  refine wpQuiet_nil ?_
                  rintro _ ⟨s, rfl⟩
                  go_wp2_with fail
                  go_roundw
                  case rel => exact ⟨q + 1, by omega, by go_num, fz.trans s.fr⟩
                  case measure => simp [intOf] <;> omega
                · have hgq : (ga == gb) = false := by simp [hgg]
                  clear hg hgg d1 d2
                  go_wp2_with fail
                  have := Later.some wr
                  refine wp_region_grown (by kernel_rfl) (by kernel_rfl) ?_
                  repeat (go_big_quiet_step (fail))
                  refine wpQuiet_nil ?_
                  rintro _ ⟨s, rfl⟩
                  go_wp2_with fail
                  go_roundw
                  case rel => exact ⟨q + 1, by omega, by go_num, fz.trans s.fr⟩
                  case measure => simp [intOf] <;> omega
              · have e : q = K := by omega
                subst e
                have FZ := F7.trans (F9.trans fz)
                have cO := cO0 _ FZ (q : Int)
                rw [Int.toNat_natCast, h4, Bool.and_false] at cO
                clear RE H3 hq hlz
                go_wp2_with fail
                refine cO.mono ?_
                rintro x' u9 ⟨rfl, f9⟩
                clear cO
                go_wp2_with fail
                go_ret
                exact ⟨rfl, (F4.trans (FZ.trans f9)).below⟩

theorem own : ownKnob Tryz.prog.godebug = none := by kernel_rfl
theorem laidOut : laidOutB Tryz.prog = true := by kernel_rfl
theorem met (os : Os) (args : Array Value) : laidMetH Tryz.prog Rows.fnOrderRow.laid ((World.doorLaid Tryz.prog 400 os).forCall (fun _ _ => 0) ⟨#[], args, []⟩).memory :=
  laidMetH_of_parts3 (fuel := 8) (laidMet_of_run' 8 (by kernel_rfl) (by kernel_rfl)) (by kernel_rfl) (by kernel_rfl)
theorem tables {W : World} (h : laidMetH Tryz.prog Rows.fnOrderRow.laid W) : Shapes W ∧ Tab W := tab_of h

set_option maxRecDepth 100000 in
theorem lifted (os : Os) (started : os.Started) (H : Type) (enc : TypeId × Value → H) :
    ReturnsInHanded {} Tryz.checked os 4 .any (fun w args => (Rows.fnOrderSpec.pre enc Tryz.prog Tryz.f4 [] false w args ∧ laidMetH Tryz.prog Rows.fnOrderRow.laid w) ∧ sizedMet enc Tryz.prog Tryz.f4 (OpenSpec.ofChange Rows.fnOrderSpec) false w args)
      (Rows.fnOrderSpec.post enc Tryz.prog Tryz.f4 false true false false) := by
  refine returnsInHanded_of_change_and (C := Tryz.checked) (X := fun w _ => laidMetH Tryz.prog Rows.fnOrderRow.laid w) (fun _ _ _ hh h => h.of_heap hh) own started (by kernel_rfl) Tryz.func4
    (ChangeSpec.witness_shaped (enc := enc) (C := Tryz.checked) (os := os) (X := fun w _ => laidMetH Tryz.prog Rows.fnOrderRow.laid w) false (World.doorLaid Tryz.prog 400 os) #[.slice none 0 0] 8 rfl (World.shaped_of_RefB (by kernel_rfl) (by kernel_rfl)) (by kernel_rfl) (by kernel_rfl) (by kernel_rfl) (met os _)) ?_
  intro W base args ds gs before hval0 hW _ _ hL _
  have hval : ∀ (j : Nat) t v, Tryz.f4.params[j]? = some t → args[j]? = some v → Value.okWide Tryz.prog W .any base t v := hval0
  have hW' := hW
  obtain ⟨p, q, hA0, hV, rfl, hfz, hnd⟩ := hW
  have hA : DataW.TrodAll enc Tryz.prog W 0 (fun _ => true) true Tryz.f4.params.toList args.toList ds p := hA0
  rw [Tryz.params4] at hA hval
  obtain ⟨v0, vs0, d0, ds0, p0, q0, hargs, rfl, rfl, h0, r0⟩ := trodAll_cons hA
  obtain ⟨rfl, rfl, rfl⟩ := trodAll_nil r0
  obtain rfl : args = #[v0] := by cases args; simp_all
  have k0 := h0
  have lt0 : ∀ x ∈ p0, x.block < W.heap.size := by obtain ⟨m, hm⟩ := k0; exact DataW.trod_lt m _ _ _ hm
  obtain ⟨a0, len0, cap0, rfl⟩ := okWide_slice Tryz.underlying22 (hval 0 22 v0 rfl rfl)
  obtain ⟨z0, w0⟩ : ∃ zs, IsRow .u8 W a0 len0 cap0 zs := by
    obtain ⟨fuel, hf⟩ := h0
    rcases open_ints Tryz.underlying22 Tryz.underlying5 (by kernel_rfl) hf with ⟨hcs, _⟩ | ⟨x, l, c, zs, hcs, _, hl, hm, hz, _, hcell, hwz⟩
    · simp [Value.cells] at hcs
      obtain ⟨rfl, rfl, rfl⟩ := hcs
      exact ⟨[], .inl ⟨rfl, rfl, rfl, rfl⟩⟩
    · simp [Value.cells] at hcs
      obtain ⟨rfl, rfl, rfl⟩ := hcs
      exact ⟨zs, .inr ⟨_, rfl, hl, hm, by simpa using hz, hcell, hwz⟩⟩
  clear hA0 hval0
  refine (walk a0 len0 cap0 z0 W w0 (tables hL)).mono fun e W' ⟨he, bel⟩ => ?_
  subst he
  match gs, hV with
  | [g1], hV =>
    exact ⟨_, rfl, _, _, _, [], _, _, hW', trodAll_mk1 (shut_bool Tryz.underlying4 _), (trodAll_cons_mk (Below.trod laidOut (by kernel_rfl) (of_decide_eq_true (by kernel_rfl)) k0 bel lt0) trodAll_mk0), Below.trodVars laidOut bel (by kernel_rfl) hV, bel.frame _, fun h => by cases h⟩

theorem over : Rows.fnOrderRow.holds Tryz.pinned (OpenSpec.ofChange Rows.fnOrderSpec) :=
  OpenClaim.holds_of_wide 4 Tryz.f4 rfl rfl rfl rfl rfl rfl rfl ⟨rfl, rfl, rfl, rfl, rfl⟩ rfl rfl rfl rfl rfl (by kernel_rfl) Tryz.func4 (by kernel_rfl)
    (of_decide_eq_true (by kernel_rfl)) (by unfold Func.isWrapper; first | (rw [if_pos (by decide +kernel)]; kernel_rfl) | (rw [if_neg (by decide +kernel)]; exact ⟨rfl, rfl⟩))
    (fun os started H enc _ => lifted os started H enc)

theorem carded : Rows.FnOrderCardSaid :=
  Claim7.holds_tied_plain_at .later [] [.data, .data] true (true, "c8c86fbfcb0ec0263521a6b49a723e48f4ddd29d4ec6979f56b84374441e9c3a") false
    over (fun _ h => by cases h) (by kernel_rfl) (fun _ h => by cases h) fnOrder_row_tie rfl ⟨rfl, rfl⟩ (by kernel_rfl) rfl
    (fun f fn hf hfn => by
      obtain rfl : f = 4 := Option.some.inj ((show Tryz.prog.funcNamed "loop.example/g00720/laws.FnOrder" = some 4 by kernel_rfl).symm.trans hf) |>.symm
      obtain rfl : fn = Tryz.f4 := (Option.some.inj (Tryz.func4.symm.trans hfn)).symm
      exact ⟨by kernel_rfl, fun j t ht => by
        rw [Tryz.params4] at ht
        have hm : t ∈ [22] := by simpa using Array.mem_of_getElem? ht
        have hall : ([22].all fun u => !Tryz.prog.wantsStandIn u) = true := by kernel_rfl
        exact (show Tryz.prog.wantsStandIn t = false by simpa using List.all_eq_true.1 hall t hm)⟩)
    (by kernel_rfl)
end Go.Proofs.YtplnijpolkflcaaGreatDoor.fnOrder
namespace Go.Proofs.YtplnijpolkflcaaGreatDoor
theorem fnOrder_holds : Rows.FnOrderCardSaid := fnOrder.carded
end Go.Proofs.YtplnijpolkflcaaGreatDoor
