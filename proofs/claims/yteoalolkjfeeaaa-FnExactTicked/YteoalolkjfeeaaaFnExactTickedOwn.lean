/-
  The law FnExactTicked answers true at every list of numbers and every number g (no condition), and leaves its arguments as they were.
-/
import Derived.Test.YteoalolkjfeeaaaRows
import Derived.Test.YteoalolkjfeeaaaIntsTo
import Derived.Test.YteoalolkjfeeaaaIntsEq
import Derived.Test.YteoalolkjfeeaaaIntsMark
import Derived.Test.YteoalolkjfeeaaaTick
import Derived.WalkKit
import Derived.ProofKit
import Derived.OpenShut
import Derived.ShutString
import Derived.ChangeOld
import Derived.Below
namespace Go.Proofs.Yteoalolkjfeeaaa.fnExactTicked
open Go.ChangeShapes Go.WideShapes Go.ChangeAt Go.RowKit
open Go.ChangeMaps (open_string shut_string)
set_option linter.unusedVariables false

theorem own : ownKnob Try.prog.godebug = none := by kernel_rfl
theorem laidOut : laidOutB Try.prog = true := by kernel_rfl

def IsRow (k : IntKind) (w : World) (a : Option Addr) (len cap : Nat) (zs : List Int) : Prop :=
  (a = none ∧ len = 0 ∧ cap = 0 ∧ zs = []) ∨
  ∃ x, a = some x ∧ len ≤ cap ∧ cap ≤ maxLen ∧ zs.length = cap ∧ (∀ i, i < zs.length → w.cell? (x.add i) = some (.int k (zs.getD i 0))) ∧ ∀ n ∈ zs, (Lit.int k n).wf = true

set_option maxHeartbeats 1000000 in
theorem walk (a0 : Option Addr) (len0 cap0 : Nat) (z0 : List Int) (a1 : Int) (w : World) (w0 : IsRow .i64 w a0 len0 cap0 z0) (w1 : (Lit.int .i64 a1).wf = true) :
    Calls Try.prog 9 #[.slice a0 len0 cap0, .int .i64 a1] w fun e w' => e = .returned (.bool true) ∧ Below w.heap.size w w' := by
  by_cases hbig : 1048576 < len0
  · go_enter Try.func9, Try.ntmps9
    go_wp2
    go_ret
    exact ⟨rfl, Below.refl _ _⟩
  · obtain ⟨hr, hn⟩ := reads_of_row w0 (by omega)
    obtain ⟨xs, hxs⟩ : ∃ xs, xs = z0.take len0 := ⟨_, rfl⟩
    rw [← hxs] at hr hn
    clear hxs w0
    obtain ⟨J, B, HS, HI⟩ := ticked_both xs a1
    go_enter Try.func9, Try.ntmps9
    go_wp2_with fail
    refine (toI_any _ _ _ xs _ hn hr).mono ?_
    rintro e u1 ⟨rfl, o1, f1⟩
    go_wp2_with fail
    refine (HS _ _ _ _ hn (by simp) o1.reads).mono ?_
    rintro e u3 ⟨vw, rfl, ow, fw⟩
    have f3 := f1.trans fw
    obtain ⟨gw, cw, rfl, ow⟩ := ow
    clear o1 f1 fw HS
    go_wp2_with fail
    refine (toI_any _ _ _ xs _ hn (hr.fr f3)).mono ?_
    rintro e u4 ⟨rfl, o4, f4⟩
    have f34 := f3.trans f4
    have t0 := own_lt ow
    have t1 := own_lt o4
    have s3 := f3.size
    have s4 := f4.size
    have ow := ow.fr f4
    go_wp2_with fail
    refine (HI _ _ _ _ hn (by simp) o4.reads).mono ?_
    rintro e u6 ⟨vg, rfl, og, f6⟩
    obtain ⟨gg, cg, rfl, og⟩ := og
    have t3 := own_lt og
    have ow := ow.fr f6
    have o4 := o4.fr f6
    have f36 := f34.trans f6
    go_wp2_with fail
    refine (eqI_any _ _ _ _ _ _ J J _ rfl rfl og.reads ow.reads).mono ?_
    rintro e u7 ⟨rfl, n7, rfl⟩
    have f37 := f36.trans (Fr.drewN _ n7)
    go_wp2_with fail
    refine (toI_any _ _ _ xs _ hn (hr.fr f37)).mono ?_
    rintro e u8 ⟨rfl, o8, f8⟩
    have g8 := (Fr.drewN u6 n7).trans f8
    have f38 := f37.trans f8
    go_wp2_with fail
    refine (eqI_any _ _ _ _ _ _ xs xs _ hn hn (o4.fr g8).reads o8.reads).mono ?_
    rintro e u9 ⟨rfl, n9, rfl⟩
    have g9 := g8.trans (Fr.drewN _ n9)
    have f39 := f38.trans (Fr.drewN _ n9)
    have ow := ow.fr g9
    have og := og.fr g9
    have o4 := o4.fr g9
    clear o8 f34 f37 f38 g8 f8
    go_wp2_with fail
    refine (mark_any _ _ _ _ 1 xs _ hn (by omega) (by omega) o4).mono ?_
    rintro e u12 ⟨rfl, o12, h12⟩
    have f12 := f39.then h12 (one_blk (by omega))
    have ow := ow.keep h12 (own_ne (by omega))
    have og := og.keep h12 (own_ne (by omega))
    clear o12 h12 f39 g9 f36
    go_wp2_with fail
    refine (eqI_any _ _ _ _ _ _ J J _ rfl rfl og.reads ow.reads).mono ?_
    rintro e u14 ⟨rfl, n14, rfl⟩
    have f14 := f12.trans (Fr.drewN _ n14)
    have og := og.fr (Fr.drewN _ n14)
    have ow := ow.fr (Fr.drewN _ n14)
    have hjl := og.2.1
    go_wp2_with fail
    refine (mark_any _ _ _ _ 1 J _ rfl (by omega) (by omega) og).mono ?_
    rintro e u15 ⟨rfl, o15, h15⟩
    have f15 := f14.then h15 (one_blk (by omega))
    have ow := ow.keep h15 (own_ne (by omega))
    go_wp2_with fail
    refine (held_any _ _ _ 1 _ (by omega) (by omega) o15.reads).mono ?_
    rintro e u16 ⟨rfl, rfl⟩
    clear f14 h15 og f12
    go_wp2_with fail
    refine (toI_any _ _ _ xs _ hn (hr.fr f15)).mono ?_
    rintro e u17 ⟨rfl, o17, f17⟩
    have f317 := f15.trans f17
    go_wp2_with fail
    refine (HI _ _ _ _ hn (by simp) o17.reads).mono ?_
    rintro e u19 ⟨vh, rfl, oh, f19⟩
    have f319 := f317.trans f19
    obtain ⟨gh, ch, rfl, oh⟩ := oh
    have g19 := f17.trans f19
    go_wp2_with fail
    refine (eqI_any _ _ _ _ _ _ J J _ rfl rfl oh.reads (ow.fr g19).reads).mono ?_
    rintro e u20 ⟨rfl, n20, rfl⟩
    have f320 := f319.trans (Fr.drewN _ n20)
    go_wp2_with fail
    refine (held_any _ _ _ 1 _ (by omega) (by omega) (o15.fr (g19.trans (Fr.drewN _ n20))).reads).mono ?_
    rintro e u21 ⟨rfl, rfl⟩
    go_wp2_with fail
    go_ret
    exact ⟨rfl, f320.below⟩

set_option maxRecDepth 100000 in
theorem lifted (os : Os) (started : os.Started) (H : Type) (enc : TypeId × Value → H) :
    ReturnsInHanded {} Try.checked os 9 .any (Rows.fnExactTickedSpec.pre6 enc Try.prog Try.f9 Rows.fnExactTickedRow.domain false) (Rows.fnExactTickedSpec.post enc Try.prog Try.f9 false true false false) := by
  refine returnsInHanded_of_change (C := Try.checked) own started (by kernel_rfl) Try.func9
    (ChangeSpec.witness6 (enc := enc) (C := Try.checked) false ⟨#[], #[.slice none 0 0, .int .i64 0], []⟩ 8 (by kernel_rfl) (by kernel_rfl) (by kernel_rfl) (by kernel_rfl)) ?_
  intro W base args ds gs before hval0 hW hcnd _
  have hval : ∀ (j : Nat) t v, Try.f9.params[j]? = some t → args[j]? = some v → Value.okWide Try.prog W .any base t v := hval0
  have hW' := hW
  obtain ⟨p, q, hA0, hV, rfl, hfz, hnd⟩ := hW
  have hA : DataW.TrodAll enc Try.prog W 0 (fun _ => true) true Try.f9.params.toList args.toList ds p := hA0
  rw [Try.params9] at hA hval
  obtain ⟨v0, vs0, d0, ds0, p0, q0, hargs, rfl, rfl, h0, r0⟩ := trodAll_cons hA
  obtain ⟨v1, vs1, d1, ds1, p1, q1, rfl, rfl, rfl, h1, r1⟩ := trodAll_cons r0
  obtain ⟨rfl, rfl, rfl⟩ := trodAll_nil r1
  obtain rfl : args = #[v0, v1] := by cases args; simp_all
  obtain ⟨rfl, rfl⟩ := trodVars_none hV
  obtain ⟨a0, len0, cap0, rfl⟩ := okWide_slice Try.underlying24 (hval 0 24 v0 rfl rfl)
  have k0 := h0
  have lt0 : ∀ x ∈ p0, x.block < W.heap.size := by obtain ⟨m, hm⟩ := k0; exact DataW.trod_lt m _ _ _ hm
  obtain ⟨z0, w0⟩ : ∃ zs, IsRow .i64 W a0 len0 cap0 zs := by
    obtain ⟨fuel, hf⟩ := h0
    rcases open_ints Try.underlying24 Try.underlying2 (by kernel_rfl) hf with ⟨hcs, _⟩ | ⟨x, l, c, zs, hcs, _, hl, hm, hz, _, hcell, hwz⟩
    · simp [Value.cells] at hcs
      obtain ⟨rfl, rfl, rfl⟩ := hcs
      exact ⟨[], .inl ⟨rfl, rfl, rfl, rfl⟩⟩
    · simp [Value.cells] at hcs
      obtain ⟨rfl, rfl, rfl⟩ := hcs
      exact ⟨zs, .inr ⟨_, rfl, hl, hm, by simpa using hz, hcell, hwz⟩⟩
  obtain ⟨a1, rfl, rfl, rfl, w1⟩ := open_int Try.underlying2 (hval 1 2 v1 rfl rfl) h1
  clear hA0 hval0
  refine (walk a0 len0 cap0 z0 a1 W w0 w1).mono fun e W' ⟨he, bel⟩ => ?_
  subst he
  exact ⟨_, rfl, _, _, _, [], _, [], hW', trodAll_mk1 (shut_bool Try.underlying4 _), (trodAll_cons_mk (Below.trod laidOut (by kernel_rfl) (of_decide_eq_true (by kernel_rfl)) k0 bel lt0) (trodAll_cons_mk (shut_int Try.underlying2 w1) trodAll_mk0)), rfl, bel.frame _, fun h => by cases h⟩

theorem over : Rows.fnExactTickedRow.holds Try.pinned (OpenSpec.ofChange Rows.fnExactTickedSpec) :=
  OpenClaim.holds_of_wide 9 Try.f9 rfl rfl rfl rfl rfl rfl rfl ⟨rfl, rfl, rfl, rfl, rfl⟩ rfl rfl rfl rfl rfl (by kernel_rfl) Try.func9 (by kernel_rfl)
    (of_decide_eq_true (by kernel_rfl)) (by unfold Func.isWrapper; first | (rw [if_pos (by decide +kernel)]; kernel_rfl) | (rw [if_neg (by decide +kernel)]; exact ⟨rfl, rfl⟩))
    (fun os started H enc _ => lifted os started H enc)

end Go.Proofs.Yteoalolkjfeeaaa.fnExactTicked
namespace Go.Proofs.Yteoalolkjfeeaaa
theorem fnExactTicked_holds : Rows.FnExactTickedSaid := fnExactTicked.over
end Go.Proofs.Yteoalolkjfeeaaa
