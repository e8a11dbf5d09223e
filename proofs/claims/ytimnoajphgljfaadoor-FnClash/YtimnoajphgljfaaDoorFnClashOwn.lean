/-
  The law FnClash answers true at every code (the program's table lying as its text lays it), and leaves it as it was.
-/
import Derived.Test.YtimnoajphgljfaaDoorRows
import Derived.Test.YtimnoajphgljfaaDoorCards
import Derived.Test.YtimnoajphgljfaaDoorTie
import Derived.Test.YtimnoajphgljfaaDoorDoor
import Derived.Test.YtimnoajphgljfaaDoorEvCla
import Derived.Test.YtimnoajphgljfaaDoorEvDraw3
import Derived.WalkKit
import Derived.ProofKit
import Derived.OpenShut
import Derived.LaidMore
import Derived.Stop.Joined
import Derived.OpenVars
import Derived.SevenTiedAt
namespace Go.Proofs.YtimnoajphgljfaaDoor.fnClash
open Go.ChangeShapes Go.WideShapes Go.ChangeAt Go.RowKit
set_option linter.unusedVariables false

def IsRow (k : IntKind) (w : World) (a : Option Addr) (len cap : Nat) (zs : List Int) : Prop :=
  (a = none ∧ len = 0 ∧ cap = 0 ∧ zs = []) ∨
  ∃ x, a = some x ∧ len ≤ cap ∧ cap ≤ maxLen ∧ zs.length = cap ∧ (∀ i, i < zs.length → w.cell? (x.add i) = some (.int k (zs.getD i 0))) ∧ ∀ n ∈ zs, (Lit.int k n).wf = true

theorem cla_sym (a b : Ev) : claB a b = claB b a := by
  unfold claB
  have h1 : (a.g != b.g) = (b.g != a.g) := by simp [bne_comm]
  rw [h1]
  cases accB a <;> cases accB b <;> cases (a.k == 21) <;> cases (b.k == 21) <;> cases (b.g != a.g) <;> simp [Bool.and_comm]

theorem cla_true {a b : Ev} (h : claB a b = true) : accB a = true ∧ accB b = true ∧ (a.g != b.g) = true ∧ 0 ≤ a.l ∧ a.l ≤ 65535 ∧ 1 ≤ a.s ∧ a.s ≤ 64 ∧ (∀ x, a.l ≤ x → x < a.l + a.s → covB a x = true) ∧ ∃ x, a.l ≤ x ∧ x < a.l + a.s ∧ covB b x = true := by
  unfold claB at h
  simp only [Bool.and_eq_true, decide_eq_true_eq] at h
  obtain ⟨⟨⟨⟨⟨h1, h2⟩, h3⟩, -⟩, h4⟩, h5⟩ := h
  have la := acc_lies h1
  refine ⟨h1, h2, h3, la.1, la.2.1, la.2.2.1, la.2.2.2, fun x q1 q2 => ?_, (share h2 h1).2 ⟨h4, h5⟩⟩
  rw [acc_cov h1]
  simp [q1, q2]

set_option maxHeartbeats 4000000 in
theorem walk (a0 : Option Addr) (len0 cap0 : Nat) (z0 : List Int) (w : World) (w0 : IsRow .u8 w a0 len0 cap0 z0) (hs : Shapes w) :
    Calls Tryd.prog 3 #[.slice a0 len0 cap0] w fun e w' => e = .returned (.bool true) ∧ Below w.heap.size w w' := by
  have hcap : len0 ≤ 9223372036854775807 := by
    rcases w0 with ⟨_, e, _⟩ | ⟨x, _, h1, h2, _⟩
    · omega
    · unfold maxLen at h2; omega
  by_cases hbig : (4096 : Int) < (len0 : Int)
  · have hd : decide ((4096 : Int) < (len0 : Int)) = true := decide_eq_true hbig
    go_enter Tryd.func3, Tryd.ntmps3
    go_wp2_with fail
    refine (big_any _ _ _ _ hcap).mono ?_
    rintro e u1 ⟨rfl, rfl⟩
    go_wp2_with fail
    go_ret
    exact ⟨rfl, Below.refl _ _⟩
  have hd : decide ((4096 : Int) < (len0 : Int)) = false := decide_eq_false hbig
  have hr := bytes_of_row w0
  have hl : len0 ≤ 4096 := by omega
  clear hbig
  go_enter Tryd.func3, Tryd.ntmps3
  go_wp2_with fail
  refine (big_any _ _ _ _ hcap).mono ?_
  rintro e u1 ⟨rfl, rfl⟩
  go_wp2_with fail
  refine (drawClashing_any _ _ _ _ hr hl).mono ?_
  rintro e u2 ⟨ea, eb, rfl, ia, ib, f2⟩
  clear w0 hd hr hcap ia ib hl
  have hs := hs.fr f2
  have k1 := fun w h => implCla_any ea eb w h
  have k2 := fun w h => implCla_any eb ea w h
  have k3 := fun w => specCla_any ea eb w
  simp only [cla_sym eb ea] at k2
  have k4 := fun x w h => implCov_any ea x w h
  have k5 := fun x w h => implCov_any eb x w h
  have k6 := fun w h => implAcc_any ea w h
  have k7 := fun w h => implAcc_any eb w h
  have hc := fun h => cla_true (a := ea) (b := eb) h
  obtain ⟨c, ec⟩ : ∃ c, c = claB ea eb := ⟨_, rfl⟩
  simp only [← ec] at k1 k2 k3 hc
  clear ec
  obtain ⟨ca, eca⟩ : ∃ c, c = covB ea := ⟨_, rfl⟩
  obtain ⟨cb, ecb⟩ : ∃ c, c = covB eb := ⟨_, rfl⟩
  simp only [← eca] at k4 hc
  simp only [← ecb] at k5 hc
  clear eca ecb
  obtain ⟨pa, epa⟩ : ∃ c, c = accB ea := ⟨_, rfl⟩
  obtain ⟨pb, epb⟩ : ∃ c, c = accB eb := ⟨_, rfl⟩
  simp only [← epa] at k6 hc
  simp only [← epb] at k7 hc
  clear epa epb
  have na := (EvAt.new u2 ea 25).fr (Fr.alloc _ (.cells #[.int .i64 eb.k, .int .i64 eb.g, .int .i64 eb.o, .int .i64 eb.w, .int .i64 eb.l, .int .i64 eb.s, .int .i64 eb.f, .int .i64 eb.t] 25))
  have nb := EvAt.new (u2.alloc (.cells #[.int .i64 ea.k, .int .i64 ea.g, .int .i64 ea.o, .int .i64 ea.w, .int .i64 ea.l, .int .i64 ea.s, .int .i64 ea.f, .int .i64 ea.t] 25)) eb 25
  have hsz : (u2.alloc (.cells #[.int .i64 ea.k, .int .i64 ea.g, .int .i64 ea.o, .int .i64 ea.w, .int .i64 ea.l, .int .i64 ea.s, .int .i64 ea.f, .int .i64 ea.t] 25)).heap.size = u2.heap.size + 1 := by simp
  rw [hsz] at nb
  clear hsz
  obtain ⟨k, gr, o, wi, l, sz, f, t⟩ := ea
  obtain ⟨k', gr', o', wi', l', sz', f', t'⟩ := eb
  simp only at k1 k2 k3 k4 k5 k6 k7 hc na nb ⊢
  have hs1 := hs.fr ((Fr.alloc u2 (.cells #[.int .i64 k, .int .i64 gr, .int .i64 o, .int .i64 wi, .int .i64 l, .int .i64 sz, .int .i64 f, .int .i64 t] 25)).trans (Fr.alloc _ (.cells #[.int .i64 k', .int .i64 gr', .int .i64 o', .int .i64 wi', .int .i64 l', .int .i64 sz', .int .i64 f', .int .i64 t'] 25)))
  have fb := f2.trans ((Fr.alloc u2 (.cells #[.int .i64 k, .int .i64 gr, .int .i64 o, .int .i64 wi, .int .i64 l, .int .i64 sz, .int .i64 f, .int .i64 t] 25)).trans (Fr.alloc _ (.cells #[.int .i64 k', .int .i64 gr', .int .i64 o', .int .i64 wi', .int .i64 l', .int .i64 sz', .int .i64 f', .int .i64 t'] 25)))
  clear hs f2
  go_wp2_with fail
  refine (k1 _ hs1).mono ?_
  rintro e u3 ⟨rfl, f3⟩
  have na3 := na.fr f3
  have nb3 := nb.fr f3
  have hs3 := hs1.fr f3
  have fb3 := fb.trans f3
  clear na nb hs1 fb f3
  obtain ⟨p, hp⟩ : ∃ p, p = u2.heap.size := ⟨_, rfl⟩
  simp only [← hp] at na3 nb3 ⊢
  clear hp
  have hcH := (show Hid _ from hc)
  clear hc k1
  obtain ⟨c0, c1, c2, c3, c4, c5, c6, c7⟩ := id na3
  obtain ⟨d0, d1, d2, d3, d4, d5, d6, d7⟩ := id nb3
  simp only at c0 c1 c2 c3 c4 c5 c6 c7 d0 d1 d2 d3 d4 d5 d6 d7
  go_wp2_with fail
  refine (k2 _ hs3).mono ?_
  rintro e u4 ⟨rfl, f4⟩
  have na4 := na3.fr f4
  have nb4 := nb3.fr f4
  have hs4 := hs3.fr f4
  have fb4 := fb3.trans f4
  clear na3 nb3 hs3 fb3 f4 k2
  clear c0 c1 c2 c3 c4 c5 c6 c7 d0 d1 d2 d3 d4 d5 d6 d7
  obtain ⟨c0, c1, c2, c3, c4, c5, c6, c7⟩ := id na4
  obtain ⟨d0, d1, d2, d3, d4, d5, d6, d7⟩ := id nb4
  simp only at c0 c1 c2 c3 c4 c5 c6 c7 d0 d1 d2 d3 d4 d5 d6 d7
  go_wp2_with fail
  refine (k3 _).mono ?_
  rintro e u5 ⟨rfl, f5⟩
  have na5 := na4.fr f5
  have nb5 := nb4.fr f5
  have hs5 := hs4.fr f5
  have fb5 := fb4.trans f5
  clear na4 nb4 hs4 fb4 f5 k3
  clear c0 c1 c2 c3 c4 c5 c6 c7 d0 d1 d2 d3 d4 d5 d6 d7
  cases c
  · go_wp2_with fail
    go_ret
    exact ⟨rfl, fb5.below⟩
  obtain ⟨rfl, rfl, hg, l0, l1, s0, s1, hca, hex⟩ := hcH.out rfl
  have hcaH := (show Hid _ from hca)
  have hexH := (show Hid _ from hex)
  clear hcH hca hex
  have c4 : u5.cell? ⟨p, 4, none⟩ = some (.int .i64 l) := na5.2.2.2.2.1
  go_wp2_with fail
  go_loopw [6, 7] (fun bo i wr => ∃ n : Int, ∃ bb : Bool, bo = .bool bb ∧ i = .int .i64 n ∧ l ≤ n ∧ n ≤ l + sz ∧ Hid (bb = true ↔ ∃ y, l ≤ y ∧ y < n ∧ cb y = true) ∧ Fr u5 wr) (fun _ i _ => (l + sz - intOf i).toNat)
  case atStart => exact ⟨l, false, rfl, rfl, by omega, by omega, ⟨(fun h => by cases h), (fun ⟨y, h1, h2, _⟩ => by omega)⟩, Fr.refl _⟩
  case round =>
    obtain ⟨n, bb, rfl, rfl, n0, n1, hn, fr⟩ := hrel
    have na6 := na5.fr fr
    have nb6 := nb5.fr fr
    have hs6 := hs5.fr fr
    clear c4
    obtain ⟨c0, c1, c2, c3, c4, c5, c6, c7⟩ := id na6
    obtain ⟨d0, d1, d2, d3, d4, d5, d6, d7⟩ := id nb6
    simp only at c0 c1 c2 c3 c4 c5 c6 c7 d0 d1 d2 d3 d4 d5 d6 d7
    by_cases hlt : n < l + sz
    · cases bb
      · have q4 := fun w h => k4 n w h
        have q5 := fun w h => k5 n w h
        have e4 := hcaH.out n n0 hlt
        simp only [e4] at q4
        obtain ⟨v, ev⟩ : ∃ v, v = cb n := ⟨_, rfl⟩
        simp only [← ev] at q5
        have evH := (show Hid _ from ev)
        clear ev e4 k4 k5 k6 k7
        go_wp2_with fail
        refine (q4 _ hs6).mono ?_
        rintro e u7 ⟨rfl, f7⟩
        have nb7 := nb6.fr f7
        clear d0 d1 d2 d3 d4 d5 d6 d7
        obtain ⟨d0, d1, d2, d3, d4, d5, d6, d7⟩ := id nb7
        simp only at d0 d1 d2 d3 d4 d5 d6 d7
        go_wp2_with fail
        refine (q5 _ (hs6.fr f7)).mono ?_
        rintro e u8 ⟨rfl, f8⟩
        go_wp2_with fail
        go_roundw
        case rel =>
          refine ⟨n + 1, v, rfl, by go_num, by omega, by omega, ⟨fun h => ⟨n, n0, by omega, ?_⟩, fun ⟨y, h1, h2, h3⟩ => ?_⟩, (fr.trans f7).trans f8⟩
          · rw [← evH.out]; exact h
          · by_cases hy : y < n
            · have := hn.out.2 ⟨y, h1, hy, h3⟩
              cases this
            · have e : y = n := by omega
              rw [e, ← evH.out] at h3
              exact h3
        case measure => simp [intOf]; omega
      · clear k4 k5 k6 k7
        go_wp2_with fail
        go_roundw
        case rel =>
          refine ⟨n + 1, true, rfl, by go_num, by omega, by omega, ⟨fun _ => ?_, fun _ => rfl⟩, fr⟩
          obtain ⟨y, h1, h2, h3⟩ := hn.out.1 rfl
          exact ⟨y, h1, by omega, h3⟩
        case measure => simp [intOf]; omega
    · have e : bb = true := hn.out.2 (by
        obtain ⟨y, h1, h2, h3⟩ := hexH.out
        exact ⟨y, h1, by omega, h3⟩)
      subst e
      go_wp2_with fail
      refine (k6 _ hs6).mono ?_
      rintro e u7 ⟨rfl, f7⟩
      have nb7 := nb6.fr f7
      clear d0 d1 d2 d3 d4 d5 d6 d7
      obtain ⟨d0, d1, d2, d3, d4, d5, d6, d7⟩ := id nb7
      simp only at d0 d1 d2 d3 d4 d5 d6 d7
      go_wp2_with fail
      refine (k7 _ (hs6.fr f7)).mono ?_
      rintro e u8 ⟨rfl, f8⟩
      go_wp2_with fail
      go_ret
      exact ⟨rfl, (((fb5.trans fr).trans f7).trans f8).below⟩

theorem own : ownKnob Tryd.prog.godebug = none := by kernel_rfl
theorem laidOut : laidOutB Tryd.prog = true := by kernel_rfl
theorem met (os : Os) (args : Array Value) : laidMetH Tryd.prog Rows.fnClashRow.laid ((World.doorLaid Tryd.prog 400 os).forCall (fun _ _ => 0) ⟨#[], args, []⟩).memory :=
  laidMetH_of_parts3 (fuel := 8) (laidMet_of_run' 8 (by kernel_rfl) (by kernel_rfl)) (by kernel_rfl) (by kernel_rfl)
theorem tables {W : World} (h : laidMetH Tryd.prog Rows.fnClashRow.laid W) : Shapes W := by
  rw [MakeChecks.laidMetH_plain _ _ _ (by kernel_rfl)] at h
  obtain ⟨ps, hl, -⟩ := h
  exact shapes_of hl

set_option maxRecDepth 100000 in
theorem lifted (os : Os) (started : os.Started) (H : Type) (enc : TypeId × Value → H) :
    ReturnsInHanded {} Tryd.checked os 3 .any (fun w args => (Rows.fnClashSpec.pre enc Tryd.prog Tryd.f3 [] false w args ∧ laidMetH Tryd.prog Rows.fnClashRow.laid w) ∧ sizedMet enc Tryd.prog Tryd.f3 (OpenSpec.ofChange Rows.fnClashSpec) false w args)
      (Rows.fnClashSpec.post enc Tryd.prog Tryd.f3 false true false false) := by
  refine returnsInHanded_of_change_and (C := Tryd.checked) (X := fun w _ => laidMetH Tryd.prog Rows.fnClashRow.laid w) (fun _ _ _ hh h => h.of_heap hh) own started (by kernel_rfl) Tryd.func3
    (ChangeSpec.witness_shaped (enc := enc) (C := Tryd.checked) (os := os) (X := fun w _ => laidMetH Tryd.prog Rows.fnClashRow.laid w) false (World.doorLaid Tryd.prog 400 os) #[.slice none 0 0] 8 rfl (World.shaped_of_RefB (by kernel_rfl) (by kernel_rfl)) (by kernel_rfl) (by kernel_rfl) (by kernel_rfl) (met os _)) ?_
  intro W base args ds gs before hval0 hW _ _ hL _
  have hval : ∀ (j : Nat) t v, Tryd.f3.params[j]? = some t → args[j]? = some v → Value.okWide Tryd.prog W .any base t v := hval0
  have hW' := hW
  obtain ⟨p, q, hA0, hV, rfl, hfz, hnd⟩ := hW
  have hA : DataW.TrodAll enc Tryd.prog W 0 (fun _ => true) true Tryd.f3.params.toList args.toList ds p := hA0
  rw [Tryd.params3] at hA hval
  obtain ⟨v0, vs0, d0, ds0, p0, q0, hargs, rfl, rfl, h0, r0⟩ := trodAll_cons hA
  obtain ⟨rfl, rfl, rfl⟩ := trodAll_nil r0
  obtain rfl : args = #[v0] := by cases args; simp_all
  have k0 := h0
  have lt0 : ∀ x ∈ p0, x.block < W.heap.size := by obtain ⟨m, hm⟩ := k0; exact DataW.trod_lt m _ _ _ hm
  obtain ⟨a0, len0, cap0, rfl⟩ := okWide_slice Tryd.underlying22 (hval 0 22 v0 rfl rfl)
  obtain ⟨z0, w0⟩ : ∃ zs, IsRow .u8 W a0 len0 cap0 zs := by
    obtain ⟨fuel, hf⟩ := h0
    rcases open_ints Tryd.underlying22 Tryd.underlying5 (by kernel_rfl) hf with ⟨hcs, _⟩ | ⟨x, l, c, zs, hcs, _, hl, hm, hz, _, hcell, hwz⟩
    · simp [Value.cells] at hcs
      obtain ⟨rfl, rfl, rfl⟩ := hcs
      exact ⟨[], .inl ⟨rfl, rfl, rfl, rfl⟩⟩
    · simp [Value.cells] at hcs
      obtain ⟨rfl, rfl, rfl⟩ := hcs
      exact ⟨zs, .inr ⟨_, rfl, hl, hm, by simpa using hz, hcell, hwz⟩⟩
  clear hA0 hval0
  refine (walk a0 len0 cap0 z0 W w0 (tables hL)).mono fun e W' ⟨he, bel⟩ => ?_
  subst he
  match gs, hV with
  | [g1], hV =>
    exact ⟨_, rfl, _, _, _, [], _, _, hW', trodAll_mk1 (shut_bool Tryd.underlying4 _), (trodAll_cons_mk (Below.trod laidOut (by kernel_rfl) (of_decide_eq_true (by kernel_rfl)) k0 bel lt0) trodAll_mk0), Below.trodVars laidOut bel (by kernel_rfl) hV, bel.frame _, fun h => by cases h⟩

theorem over : Rows.fnClashRow.holds Tryd.pinned (OpenSpec.ofChange Rows.fnClashSpec) :=
  OpenClaim.holds_of_wide 3 Tryd.f3 rfl rfl rfl rfl rfl rfl rfl ⟨rfl, rfl, rfl, rfl, rfl⟩ rfl rfl rfl rfl rfl (by kernel_rfl) Tryd.func3 (by kernel_rfl)
    (of_decide_eq_true (by kernel_rfl)) (by unfold Func.isWrapper; first | (rw [if_pos (by decide +kernel)]; kernel_rfl) | (rw [if_neg (by decide +kernel)]; exact ⟨rfl, rfl⟩))
    (fun os started H enc _ => lifted os started H enc)

theorem carded : Rows.FnClashCardSaid :=
  Claim7.holds_tied_plain_at .later [] [.data] true (true, "3d8a6a67e4866b239fd1b975a95611639c4f8ff095bc05afdacdeb57ea2a4ca8") false
    over (fun _ h => by cases h) (by kernel_rfl) (fun _ h => by cases h) fnClash_row_tie rfl ⟨rfl, rfl⟩ (by kernel_rfl) rfl
    (fun f fn hf hfn => by
      obtain rfl : f = 3 := Option.some.inj ((show Tryd.prog.funcNamed "loop.example/g00720/laws.FnClash" = some 3 by kernel_rfl).symm.trans hf) |>.symm
      obtain rfl : fn = Tryd.f3 := (Option.some.inj (Tryd.func3.symm.trans hfn)).symm
      exact ⟨by kernel_rfl, fun j t ht => by
        rw [Tryd.params3] at ht
        have hm : t ∈ [22] := by simpa using Array.mem_of_getElem? ht
        have hall : ([22].all fun u => !Tryd.prog.wantsStandIn u) = true := by kernel_rfl
        exact (show Tryd.prog.wantsStandIn t = false by simpa using List.all_eq_true.1 hall t hm)⟩)
    (by kernel_rfl)
end Go.Proofs.YtimnoajphgljfaaDoor.fnClash
namespace Go.Proofs.YtimnoajphgljfaaDoor
theorem fnClash_holds : Rows.FnClashCardSaid := fnClash.carded
end Go.Proofs.YtimnoajphgljfaaDoor
