/-
  The law FnLocked answers true at every code (the program's table lying as its text lays it), and leaves it as it was.
-/
import Derived.Test.YtplnijpolkflcaaGreatDoorRows
import Derived.Test.YtplnijpolkflcaaGreatDoorCards
import Derived.Test.YtplnijpolkflcaaGreatDoorTie
import Derived.Test.YtplnijpolkflcaaGreatDoorPqAI
import Derived.Test.YtplnijpolkflcaaGreatDoorLockN
import Derived.Test.YtplnijpolkflcaaGreatDoorDoor2
import Derived.WalkKit
import Derived.ProofKit
import Derived.OpenShut
import Derived.LaidMore
import Derived.Stop.Joined
import Derived.OpenVars
import Derived.SevenTiedAt
namespace Go.Proofs.YtplnijpolkflcaaGreatDoor.fnLocked
open Go.ChangeShapes Go.WideShapes Go.ChangeAt Go.RowKit
set_option linter.unusedVariables false

def IsRow (k : IntKind) (w : World) (a : Option Addr) (len cap : Nat) (zs : List Int) : Prop :=
  (a = none ∧ len = 0 ∧ cap = 0 ∧ zs = []) ∨
  ∃ x, a = some x ∧ len ≤ cap ∧ cap ≤ maxLen ∧ zs.length = cap ∧ (∀ i, i < zs.length → w.cell? (x.add i) = some (.int k (zs.getD i 0))) ∧ ∀ n ∈ zs, (Lit.int k n).wf = true

set_option maxHeartbeats 4000000 in
set_option maxRecDepth 20000 in
theorem walk (a0 : Option Addr) (len0 cap0 : Nat) (z0 : List Int) (w : World) (w0 : IsRow .u8 w a0 len0 cap0 z0) (hs : Shapes w) :
    Calls Tryz.prog 5 #[.slice a0 len0 cap0] w fun e w' => e = .returned (.bool true) ∧ Below w.heap.size w w' := by
  have hcap : len0 ≤ 9223372036854775807 := by
    rcases w0 with ⟨_, e, _⟩ | ⟨x, _, h1, h2, _⟩
    · omega
    · unfold maxLen at h2; omega
  by_cases hbig : (4096 : Int) < (len0 : Int)
  · have hd : decide ((4096 : Int) < (len0 : Int)) = true := decide_eq_true hbig
    go_enter Tryz.func5, Tryz.ntmps5
    go_wp2_with fail
    refine (big_any _ _ _ _ hcap).mono ?_
    rintro e u1 ⟨rfl, rfl⟩
    go_wp2_with fail
    go_ret
    exact ⟨rfl, Below.refl _ _⟩
  · have hd : decide ((4096 : Int) < (len0 : Int)) = false := decide_eq_false hbig
    have hr := bytes_of_row w0
    have hl : len0 ≤ 4096 := by omega
    clear hbig
    go_enter Tryz.func5, Tryz.ntmps5
    go_wp2_with fail
    refine (big_any _ _ _ _ hcap).mono ?_
    rintro e u1 ⟨rfl, rfl⟩
    clear w0 hd hcap
    go_wp2_with fail
    refine (roll_any _ _ _ _ _ hr (by omega)).mono ?_
    rintro e u2 ⟨d, hh, rfl, D2, hd2, f2⟩
    have X2 := roll_dx hr D2 hd2 f2
    have hbq := bytes_below hr
    have hz2 := f2.size
    have hdz := D2.lt
    go_wp2_with fail
    refine (trace_low 30 X2 (by omega) (by omega) (by omega) (fun q p hp => by have := hbq q p hp; omega)).mono ?_
    rintro e u3 ⟨es, g, c, m, rfl, o3, LL, ⟨L3, T3⟩, ⟨n2, n3⟩, D3⟩
    clear X2 D2 hr hbq
    have F3 := f2.then D3.g (fun j hj => by simp only [Option.some.injEq] at hj; omega)
    have tg := o3.lt g rfl
    go_wp2_with fail
    refine (belowX D3 (by omega) 3 (by omega) (by omega)).mono ?_
    rintro e u4 ⟨r, rfl, r0, r1, g4, -⟩
    have F4 := F3.then g4 (fun j hj => by simp only [Option.some.injEq] at hj; omega)
    have o4 := o3.kept g4 (.inr (by simp only [Value.ownBlock, ne_eq, Option.some.injEq]; omega))
    have z4 := g4.size
    have hs4 := hs.fr F4
    have hz3 := F3.size
    have hz44 := F4.size
    have hw0 : IntKind.i64.wrap (r + 1) = r + 1 := by rw [IntKind.wrap_i64]; omega
    have hbb : 0 ≤ (r + 1) % 3 ∧ (r + 1) % 3 < 3 := by omega
    have HB5 := five_bef (b := (r + 1) % 3) L3 T3 LL ⟨r0, r1⟩ hbb n3
    have HB5 : Hid _ := HB5
    have fA := Fr.alloc u4 (fiveC r ((r + 1) % 3))
    have oA : OwnG layEv (u4.alloc (fiveC r ((r + 1) % 3))) u2.heap.size (.slice (some ⟨g, 0, none⟩) es.length c) es := OwnG.fr ⟨g, c, rfl, o4, by omega⟩ fA
    have hnew := five_new u4 r ((r + 1) % 3)
    have hbg : u2.heap.size ≤ (u4.alloc (fiveC r ((r + 1) % 3))).heap.size := by have := fA.size; omega
    have FA := F4.trans fA
    clear o3 o4 D3 g4 L3 T3 LL hbb fA F3 F4 hs4 f2
    go_wp2_with (at_builtin; refine appGL layEv _ rfl _ _ 42 _ 64 rfl Tryz.underlying42 Tryz.info31 rfl (by omega) u2.heap.size (.slice (some ⟨g, 0, none⟩) es.length c) es (fiveL r ((r + 1) % 3)) rfl oA ⟨u4.heap.size, 0, none⟩ 5 rfl hnew (by simp [fiveL]; omega) hbg ?_; intro v5 w5 s5 g5 at5)
    obtain ⟨gv, cv, rfl, ov, lv⟩ := s5
    have F5 := FA.then g5 (fun j hj => by simp only [Value.ownBlock, Option.some.injEq] at hj; omega)
    have hcv := own_capR ov
    have RV := own_readsE ov lv
    have tv := ov.lt gv rfl
    have hlen : (es ++ fiveL r ((r + 1) % 3)).length = es.length + 5 := by simp [fiveL]
    obtain ⟨fs, hfs⟩ : ∃ fs, fs = es ++ fiveL r ((r + 1) % 3) := ⟨_, rfl⟩
    rw [← hfs] at HB5 RV hcv hlen ⊢
    clear hfs ov lv oA hnew g5 at5 FA
    have hs5 := hs.fr F5
    have hab : ∀ u, Fr w5 u → ∀ k, blk (some (⟨gv, 0, none⟩ : Addr)) = some k → k < u.heap.size := fun u f k hk => by
      simp only [blk, Option.map_some, Option.some.injEq] at hk
      have := f.size
      omega
    have cO := fun u (f : Fr w5 u) (i j : Int) => implOrd_any (some ⟨gv, 0, none⟩) fs.length cv fs u rfl hcv (RV.fr f) i j (hs5.fr f) (hab u f)
    have cL := fun u (f : Fr w5 u) => implLen_any (some ⟨gv, 0, none⟩) fs.length cv fs u rfl (RV.fr f) (hs5.fr f) (hab u f)
    obtain ⟨h1, h2, h3⟩ := HB5.out
    have i1 : inB 0 299 ((es.length + 1 : Nat) : Int) = true := by simp [inB]; omega
    have i4 : inB 0 299 ((es.length + 4 : Nat) : Int) = true := by simp [inB]; omega
    have e1 : ((es.length + 1 : Nat) : Int) = (es.length : Int) + 1 := by omega
    have e4 : ((es.length + 4 : Nat) : Int) = (es.length : Int) + 4 := by omega
    have e5 : ((es.length + 5 : Nat) : Int) = (es.length : Int) + 5 := by omega
    have cO1 : ∀ u, Fr w5 u → Calls Tryz.prog 28 #[.slice (some ⟨gv, 0, none⟩) fs.length cv, .int .i64 ((es.length : Int) + 1), .int .i64 ((es.length : Int) + 4)] u fun x w' => x = .returned (.bool true) ∧ Fr u w' := fun u f => by
      have := cO u f ((es.length + 1 : Nat) : Int) ((es.length + 4 : Nat) : Int)
      rw [Int.toNat_natCast, i1, h1, Bool.true_and, e1, e4] at this
      exact this
    have cO2 : ∀ u, Fr w5 u → Calls Tryz.prog 28 #[.slice (some ⟨gv, 0, none⟩) fs.length cv, .int .i64 ((es.length : Int) + 4), .int .i64 ((es.length : Int) + 1)] u fun x w' => x = .returned (.bool false) ∧ Fr u w' := fun u f => by
      have := cO u f ((es.length + 4 : Nat) : Int) ((es.length + 1 : Nat) : Int)
      rw [Int.toNat_natCast, i4, h2, Bool.true_and, e1, e4] at this
      exact this
    rw [h3, e5] at cL
    have w1 : IntKind.i64.wrap ((es.length : Int) + 1) = (es.length : Int) + 1 := by rw [IntKind.wrap_i64]; omega
    have w4 : IntKind.i64.wrap ((es.length : Int) + 4) = (es.length : Int) + 4 := by rw [IntKind.wrap_i64]; omega
    have wf : IntKind.i64.wrap ((es.length : Int) + 5) = (es.length : Int) + 5 := by rw [IntKind.wrap_i64]; omega
    have hq5 : ((es.length : Int) + 5 == (es.length : Int) + 5) = true := by simp
    obtain ⟨L, hL⟩ : ∃ L, L = fs.length := ⟨_, rfl⟩
    rw [← hL] at cO1 cO2 cL ⊢
    clear h1 h2 h3 i1 i4 e1 e4 e5 cO hab RV HB5 hcv hs5 hs tv hL
    go_wp2_with fail
    refine (cO1 _ (Fr.refl _)).mono ?_
    rintro x u6 ⟨rfl, f6⟩
    go_wp2_with fail
    refine (cO2 _ f6).mono ?_
    rintro x u7 ⟨rfl, f7⟩
    go_wp2_with fail
    refine (cL _ (f6.trans f7)).mono ?_
    rintro x u8 ⟨rfl, f8⟩
    go_wp2_with fail
    go_ret
    exact ⟨rfl, (F5.trans ((f6.trans f7).trans f8)).below⟩

theorem own : ownKnob Tryz.prog.godebug = none := by kernel_rfl
theorem laidOut : laidOutB Tryz.prog = true := by kernel_rfl
theorem met (os : Os) (args : Array Value) : laidMetH Tryz.prog Rows.fnLockedRow.laid ((World.doorLaid Tryz.prog 400 os).forCall (fun _ _ => 0) ⟨#[], args, []⟩).memory :=
  laidMetH_of_parts3 (fuel := 8) (laidMet_of_run' 8 (by kernel_rfl) (by kernel_rfl)) (by kernel_rfl) (by kernel_rfl)
theorem tables {W : World} (h : laidMetH Tryz.prog Rows.fnLockedRow.laid W) : Shapes W := by
  rw [MakeChecks.laidMetH_plain _ _ _ (by kernel_rfl)] at h
  obtain ⟨ps, hl, -⟩ := h
  exact shapes_of hl

set_option maxRecDepth 100000 in
theorem lifted (os : Os) (started : os.Started) (H : Type) (enc : TypeId × Value → H) :
    ReturnsInHanded {} Tryz.checked os 5 .any (fun w args => (Rows.fnLockedSpec.pre enc Tryz.prog Tryz.f5 [] false w args ∧ laidMetH Tryz.prog Rows.fnLockedRow.laid w) ∧ sizedMet enc Tryz.prog Tryz.f5 (OpenSpec.ofChange Rows.fnLockedSpec) false w args)
      (Rows.fnLockedSpec.post enc Tryz.prog Tryz.f5 false true false false) := by
  refine returnsInHanded_of_change_and (C := Tryz.checked) (X := fun w _ => laidMetH Tryz.prog Rows.fnLockedRow.laid w) (fun _ _ _ hh h => h.of_heap hh) own started (by kernel_rfl) Tryz.func5
    (ChangeSpec.witness_shaped (enc := enc) (C := Tryz.checked) (os := os) (X := fun w _ => laidMetH Tryz.prog Rows.fnLockedRow.laid w) false (World.doorLaid Tryz.prog 400 os) #[.slice none 0 0] 8 rfl (World.shaped_of_RefB (by kernel_rfl) (by kernel_rfl)) (by kernel_rfl) (by kernel_rfl) (by kernel_rfl) (met os _)) ?_
  intro W base args ds gs before hval0 hW _ _ hL _
  have hval : ∀ (j : Nat) t v, Tryz.f5.params[j]? = some t → args[j]? = some v → Value.okWide Tryz.prog W .any base t v := hval0
  have hW' := hW
  obtain ⟨p, q, hA0, hV, rfl, hfz, hnd⟩ := hW
  have hA : DataW.TrodAll enc Tryz.prog W 0 (fun _ => true) true Tryz.f5.params.toList args.toList ds p := hA0
  rw [Tryz.params5] at hA hval
  obtain ⟨v0, vs0, d0, ds0, p0, q0, hargs, rfl, rfl, h0, r0⟩ := trodAll_cons hA
  obtain ⟨rfl, rfl, rfl⟩ := trodAll_nil r0
  obtain rfl : args = #[v0] := by cases args; simp_all
  have k0 := h0
  have lt0 : ∀ x ∈ p0, x.block < W.heap.size := by obtain ⟨m, hm⟩ := k0; exact DataW.trod_lt m _ _ _ hm
  obtain ⟨a0, len0, cap0, rfl⟩ := okWide_slice Tryz.underlying22 (hval 0 22 v0 rfl rfl)
  obtain ⟨z0, w0⟩ : ∃ zs, IsRow .u8 W a0 len0 cap0 zs := by
    obtain ⟨fuel, hf⟩ := h0
    rcases open_ints Tryz.underlying22 Tryz.underlying5 (by kernel_rfl) hf with ⟨hcs, _⟩ | ⟨x, l, c, zs, hcs, _, hl, hm, hz, _, hcell, hwz⟩
    · simp [Value.cells] at hcs
      obtain ⟨rfl, rfl, rfl⟩ := hcs
      exact ⟨[], .inl ⟨rfl, rfl, rfl, rfl⟩⟩
    · simp [Value.cells] at hcs
      obtain ⟨rfl, rfl, rfl⟩ := hcs
      exact ⟨zs, .inr ⟨_, rfl, hl, hm, by simpa using hz, hcell, hwz⟩⟩
  clear hA0 hval0
  refine (walk a0 len0 cap0 z0 W w0 (tables hL)).mono fun e W' ⟨he, bel⟩ => ?_
  subst he
  match gs, hV with
  | [g1], hV =>
    exact ⟨_, rfl, _, _, _, [], _, _, hW', trodAll_mk1 (shut_bool Tryz.underlying4 _), (trodAll_cons_mk (Below.trod laidOut (by kernel_rfl) (of_decide_eq_true (by kernel_rfl)) k0 bel lt0) trodAll_mk0), Below.trodVars laidOut bel (by kernel_rfl) hV, bel.frame _, fun h => by cases h⟩

theorem over : Rows.fnLockedRow.holds Tryz.pinned (OpenSpec.ofChange Rows.fnLockedSpec) :=
  OpenClaim.holds_of_wide 5 Tryz.f5 rfl rfl rfl rfl rfl rfl rfl ⟨rfl, rfl, rfl, rfl, rfl⟩ rfl rfl rfl rfl rfl (by kernel_rfl) Tryz.func5 (by kernel_rfl)
    (of_decide_eq_true (by kernel_rfl)) (by unfold Func.isWrapper; first | (rw [if_pos (by decide +kernel)]; kernel_rfl) | (rw [if_neg (by decide +kernel)]; exact ⟨rfl, rfl⟩))
    (fun os started H enc _ => lifted os started H enc)

theorem carded : Rows.FnLockedCardSaid :=
  Claim7.holds_tied_plain_at .later [] [.data] true (true, "c8c86fbfcb0ec0263521a6b49a723e48f4ddd29d4ec6979f56b84374441e9c3a") false
    over (fun _ h => by cases h) (by kernel_rfl) (fun _ h => by cases h) fnLocked_row_tie rfl ⟨rfl, rfl⟩ (by kernel_rfl) rfl
    (fun f fn hf hfn => by
      obtain rfl : f = 5 := Option.some.inj ((show Tryz.prog.funcNamed "loop.example/g00720/laws.FnLocked" = some 5 by kernel_rfl).symm.trans hf) |>.symm
      obtain rfl : fn = Tryz.f5 := (Option.some.inj (Tryz.func5.symm.trans hfn)).symm
      exact ⟨by kernel_rfl, fun j t ht => by
        rw [Tryz.params5] at ht
        have hm : t ∈ [22] := by simpa using Array.mem_of_getElem? ht
        have hall : ([22].all fun u => !Tryz.prog.wantsStandIn u) = true := by kernel_rfl
        exact (show Tryz.prog.wantsStandIn t = false by simpa using List.all_eq_true.1 hall t hm)⟩)
    (by kernel_rfl)
end Go.Proofs.YtplnijpolkflcaaGreatDoor.fnLocked
namespace Go.Proofs.YtplnijpolkflcaaGreatDoor
theorem fnLocked_holds : Rows.FnLockedCardSaid := fnLocked.carded
end Go.Proofs.YtplnijpolkflcaaGreatDoor
