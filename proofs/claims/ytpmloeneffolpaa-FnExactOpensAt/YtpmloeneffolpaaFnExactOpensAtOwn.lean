/-
  The law FnExactOpensAt answers true at every config, list of numbers and number (no condition), and leaves what it was given as it was.
-/
import Derived.Test.YtpmloeneffolpaaRows
import Derived.Test.YtpmloeneffolpaaArgCf
import Derived.Test.YtpmloeneffolpaaPrd5
import Derived.Test.YtpmloeneffolpaaIntsTo
import Derived.Test.YtpmloeneffolpaaIntsEq
import Derived.WalkKit
import Derived.ProofKit
import Derived.OpenShut
import Derived.LaidMore
import Derived.Stop.Joined
import Derived.OpenVars
namespace Go.Proofs.Ytpmloeneffolpaa.fnExactOpensAt
open Go.ChangeShapes Go.WideShapes Go.ChangeAt Go.RowKit
set_option linter.unusedVariables false

def IsRow (k : IntKind) (w : World) (a : Option Addr) (len cap : Nat) (zs : List Int) : Prop :=
  (a = none ∧ len = 0 ∧ cap = 0 ∧ zs = []) ∨
  ∃ x, a = some x ∧ len ≤ cap ∧ cap ≤ maxLen ∧ zs.length = cap ∧ (∀ i, i < zs.length → w.cell? (x.add i) = some (.int k (zs.getD i 0))) ∧ ∀ n ∈ zs, (Lit.int k n).wf = true

set_option maxHeartbeats 2000000 in
theorem walk (c0 : Cf) (a1 : Option Addr) (len1 cap1 : Nat) (z1 : List Int) (a2 : Int) (w : World) (i0 : CfI c0) (w1 : IsRow .i64 w a1 len1 cap1 z1) (w2 : (Lit.int .i64 a2).wf = true)  :
    Calls Try.prog 6 #[.agg #[.int .i64 c0.r, .int .i64 c0.s, .int .i64 c0.b, .int .i64 c0.m, .int .i64 c0.q, .int .i64 c0.c, .int .i64 c0.w], .slice a1 len1 cap1, .int .i64 a2] w fun e w' => e = .returned (.bool true) ∧ Below w.heap.size w w' := by
  by_cases hbig : 1048576 < len1
  · obtain ⟨r, s, b, m, q, c, k⟩ := c0
    go_enter Try.func6, Try.ntmps6
    go_wp2
    go_ret
    exact ⟨rfl, (Fr.alloc _ _).below⟩
  obtain ⟨hr, hn⟩ := reads_of_row w1 (by omega)
  obtain ⟨xs, hxs⟩ : ∃ xs, xs = z1.take len1 := ⟨_, rfl⟩
  rw [← hxs] at hr hn
  have hI : a2 ≤ 9223372036854775807 := (fitC w2).2
  clear hxs w1 w2
  have ka := CfAt.new w c0 39
  have fW := Fr.alloc w (.cells #[.int .i64 c0.r, .int .i64 c0.s, .int .i64 c0.b, .int .i64 c0.m, .int .i64 c0.q, .int .i64 c0.c, .int .i64 c0.w] 39)
  have cT := fun u => toConfig_any c0 u
  have cX := fun u f => toI_any a1 len1 cap1 xs u hn (hr.fr (w' := u) f)
  have cS := fun u ao cap h => opAt_spec c0 ao len1 cap xs a2 u hn h hI
  have cI := fun u ao cap h => opAt_impl c0 ao len1 cap xs a2 u hn h hI
  generalize opAtB c0 xs a2 = B at cS cI
  obtain ⟨r, s, b, m, q, c, k⟩ := c0
  simp only at cT cS cI ka fW ⊢
  have HQ : Hid (∀ u, Fr (w.alloc (.cells #[.int .i64 r, .int .i64 s, .int .i64 b, .int .i64 m, .int .i64 q, .int .i64 c, .int .i64 k] 39)) u → CfAt u w.heap.size 0 ⟨r, s, b, m, q, c, k⟩) := fun u f => ka.fr f
  clear ka
  go_enter Try.func6, Try.ntmps6
  go_wp2_with fail
  refine (cT _).mono ?_
  rintro e u1 ⟨rfl, f1⟩
  go_wp2_with fail
  refine (cX _ (fW.trans f1)).mono ?_
  rintro e u2 ⟨rfl, o2, f2⟩
  go_wp2_with fail
  refine (cS _ _ _ o2.reads).mono ?_
  rintro e u3 ⟨rfl, f3⟩
  have F3 := (f1.trans f2).trans f3
  go_wp2_with fail
  refine (cX _ (fW.trans F3)).mono ?_
  rintro e u4 ⟨rfl, o4, f4⟩
  have F4 := F3.trans f4
  obtain ⟨k0, k1, k2, k3, k4, k5, k6⟩ := HQ.out _ F4
  simp only [Nat.zero_add] at k0 k1 k2 k3 k4 k5 k6
  go_wp2_with fail
  refine (cT _).mono ?_
  rintro e u5 ⟨rfl, f5⟩
  clear k0 k1 k2 k3 k4 k5 k6
  go_wp2_with fail
  refine (cI _ _ _ (o4.reads.fr f5)).mono ?_
  rintro e u6 ⟨rfl, f6⟩
  go_wp2_with fail
  refine (cX _ (fW.trans (F4.trans (f5.trans f6)))).mono ?_
  rintro e u7 ⟨rfl, o7, f7⟩
  go_wp2_with fail
  refine (eqI_any _ _ _ _ _ _ xs xs _ hn hn (o4.reads.fr ((f5.trans f6).trans f7)) o7.reads).mono ?_
  rintro e u8 ⟨rfl, nq, rfl⟩
  go_wp2_with fail
  go_ret
  exact ⟨rfl, ((fW.trans (F4.trans ((f5.trans f6).trans f7))).trans (Fr.drewN _ _)).below⟩

theorem own : ownKnob Try.prog.godebug = none := by kernel_rfl
theorem laidOut : laidOutB Try.prog = true := by kernel_rfl

set_option maxRecDepth 100000 in
theorem lifted (os : Os) (started : os.Started) (H : Type) (enc : TypeId × Value → H) :
    ReturnsInHanded {} Try.checked os 6 .any (Rows.fnExactOpensAtSpec.pre6 enc Try.prog Try.f6 Rows.fnExactOpensAtRow.domain false) (Rows.fnExactOpensAtSpec.post enc Try.prog Try.f6 false true false false) := by
  refine returnsInHanded_of_change (C := Try.checked) own started (by kernel_rfl) Try.func6
    (ChangeSpec.witness6 (enc := enc) (C := Try.checked) false ⟨#[], #[.agg #[.int .i64 0, .int .i64 0, .int .i64 0, .int .i64 0, .int .i64 0, .int .i64 0, .int .i64 0], .slice none 0 0, .int .i64 0], []⟩ 8 (by kernel_rfl) (by kernel_rfl) (by kernel_rfl) (by kernel_rfl)) ?_
  intro W base args ds gs before hval0 hW hcnd _
  have hval : ∀ (j : Nat) t v, Try.f6.params[j]? = some t → args[j]? = some v → Value.okWide Try.prog W .any base t v := hval0
  have hW' := hW
  obtain ⟨p, q, hA0, hV, rfl, hfz, hnd⟩ := hW
  have hA : DataW.TrodAll enc Try.prog W 0 (fun _ => true) true Try.f6.params.toList args.toList ds p := hA0
  rw [Try.params6] at hA hval
  obtain ⟨v0, vs0, d0, ds0, p0, q0, hargs, rfl, rfl, h0, r0⟩ := trodAll_cons hA
  obtain ⟨v1, vs1, d1, ds1, p1, q1, rfl, rfl, rfl, h1, r1⟩ := trodAll_cons r0
  obtain ⟨v2, vs2, d2, ds2, p2, q2, rfl, rfl, rfl, h2, r2⟩ := trodAll_cons r1
  obtain ⟨rfl, rfl, rfl⟩ := trodAll_nil r2
  obtain rfl : args = #[v0, v1, v2] := by cases args; simp_all
  have k0 := h0
  have lt0 : ∀ x ∈ p0, x.block < W.heap.size := by obtain ⟨m, hm⟩ := k0; exact DataW.trod_lt m _ _ _ hm
  have k1 := h1
  have lt1 : ∀ x ∈ p1, x.block < W.heap.size := by obtain ⟨m, hm⟩ := k1; exact DataW.trod_lt m _ _ _ hm
  have k2 := h2
  have lt2 : ∀ x ∈ p2, x.block < W.heap.size := by obtain ⟨m, hm⟩ := k2; exact DataW.trod_lt m _ _ _ hm
  obtain ⟨rfl, rfl⟩ := trodVars_none hV
  obtain ⟨c0, rfl, i0⟩ := cf_of_arg (hval 0 39 v0 rfl rfl) h0
  obtain ⟨a1, len1, cap1, rfl⟩ := okWide_slice Try.underlying26 (hval 1 26 v1 rfl rfl)
  obtain ⟨z1, w1⟩ : ∃ zs, IsRow .i64 W a1 len1 cap1 zs := by
    obtain ⟨fuel, hf⟩ := h1
    rcases open_ints Try.underlying26 Try.underlying2 (by kernel_rfl) hf with ⟨hcs, _⟩ | ⟨x, l, c, zs, hcs, _, hl, hm, hz, _, hcell, hwz⟩
    · simp [Value.cells] at hcs
      obtain ⟨rfl, rfl, rfl⟩ := hcs
      exact ⟨[], .inl ⟨rfl, rfl, rfl, rfl⟩⟩
    · simp [Value.cells] at hcs
      obtain ⟨rfl, rfl, rfl⟩ := hcs
      exact ⟨zs, .inr ⟨_, rfl, hl, hm, by simpa using hz, hcell, hwz⟩⟩
  obtain ⟨a2, rfl, -, -, w2⟩ := open_int Try.underlying2 (hval 2 2 v2 rfl rfl) h2
  clear hA0 hval0
  refine (walk c0 a1 len1 cap1 z1 a2 W i0 w1 w2).mono fun e W' ⟨he, bel⟩ => ?_
  subst he
  exact ⟨_, rfl, _, _, _, [], _, [], hW', trodAll_mk1 (shut_bool Try.underlying4 _), (trodAll_cons_mk (Below.trod laidOut (by kernel_rfl) (of_decide_eq_true (by kernel_rfl)) k0 bel lt0) (trodAll_cons_mk (Below.trod laidOut (by kernel_rfl) (of_decide_eq_true (by kernel_rfl)) k1 bel lt1) (trodAll_cons_mk (Below.trod laidOut (by kernel_rfl) (of_decide_eq_true (by kernel_rfl)) k2 bel lt2) trodAll_mk0))), rfl, bel.frame _, fun h => by cases h⟩

theorem over : Rows.fnExactOpensAtRow.holds Try.pinned (OpenSpec.ofChange Rows.fnExactOpensAtSpec) :=
  OpenClaim.holds_of_wide 6 Try.f6 rfl rfl rfl rfl rfl rfl rfl ⟨rfl, rfl, rfl, rfl, rfl⟩ rfl rfl rfl rfl rfl (by kernel_rfl) Try.func6 (by kernel_rfl)
    (of_decide_eq_true (by kernel_rfl)) (by unfold Func.isWrapper; first | (rw [if_pos (by decide +kernel)]; kernel_rfl) | (rw [if_neg (by decide +kernel)]; exact ⟨rfl, rfl⟩))
    (fun os started H enc _ => lifted os started H enc)
end Go.Proofs.Ytpmloeneffolpaa.fnExactOpensAt
namespace Go.Proofs.Ytpmloeneffolpaa
theorem fnExactOpensAt_holds : Rows.FnExactOpensAtSaid := fnExactOpensAt.over
end Go.Proofs.Ytpmloeneffolpaa
