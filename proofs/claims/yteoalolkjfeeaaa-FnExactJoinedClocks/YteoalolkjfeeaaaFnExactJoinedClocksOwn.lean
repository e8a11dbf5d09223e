/-
  The law FnExactJoinedClocks answers true at every two lists of numbers (no condition), and leaves both as they were.
-/
import Derived.Test.YteoalolkjfeeaaaRows
import Derived.Test.YteoalolkjfeeaaaIntsTo
import Derived.Test.YteoalolkjfeeaaaIntsEq
import Derived.Test.YteoalolkjfeeaaaIntsMark
import Derived.Test.YteoalolkjfeeaaaJoin2
import Derived.WalkKit
import Derived.ProofKit
import Derived.OpenShut
import Derived.ShutString
import Derived.ChangeOld
import Derived.Below
namespace Go.Proofs.Yteoalolkjfeeaaa.fnExactJoinedClocks
open Go.ChangeShapes Go.WideShapes Go.ChangeAt Go.RowKit
open Go.ChangeMaps (open_string shut_string)
set_option linter.unusedVariables false

theorem own : ownKnob Try.prog.godebug = none := by kernel_rfl
theorem laidOut : laidOutB Try.prog = true := by kernel_rfl

def IsRow (k : IntKind) (w : World) (a : Option Addr) (len cap : Nat) (zs : List Int) : Prop :=
  (a = none ∧ len = 0 ∧ cap = 0 ∧ zs = []) ∨
  ∃ x, a = some x ∧ len ≤ cap ∧ cap ≤ maxLen ∧ zs.length = cap ∧ (∀ i, i < zs.length → w.cell? (x.add i) = some (.int k (zs.getD i 0))) ∧ ∀ n ∈ zs, (Lit.int k n).wf = true

set_option maxHeartbeats 1000000 in
theorem walk (a0 : Option Addr) (len0 cap0 : Nat) (z0 : List Int) (a1 : Option Addr) (len1 cap1 : Nat) (z1 : List Int) (w : World) (w0 : IsRow .i64 w a0 len0 cap0 z0) (w1 : IsRow .i64 w a1 len1 cap1 z1) :
    Calls Try.prog 7 #[.slice a0 len0 cap0, .slice a1 len1 cap1] w fun e w' => e = .returned (.bool true) ∧ Below w.heap.size w w' := by
  by_cases hbig : 1048576 < len0
  · go_enter Try.func7, Try.ntmps7
    go_wp2
    go_ret
    exact ⟨rfl, Below.refl _ _⟩
  · by_cases hbig' : 1048576 < len1
    · have hb0 : ¬ 1048576 < len0 := hbig
      go_enter Try.func7, Try.ntmps7
      go_wp2
      go_ret
      exact ⟨rfl, Below.refl _ _⟩
    · obtain ⟨hr, hn⟩ := reads_of_row w0 (by omega)
      obtain ⟨hr', hn'⟩ := reads_of_row w1 (by omega)
      obtain ⟨xs, hxs⟩ : ∃ xs, xs = z0.take len0 := ⟨_, rfl⟩
      obtain ⟨ys, hys⟩ : ∃ ys, ys = z1.take len1 := ⟨_, rfl⟩
      rw [← hxs] at hr hn
      rw [← hys] at hr' hn'
      clear hxs hys w0 w1
      go_enter Try.func7, Try.ntmps7
      go_wp2_with fail
      refine (toI_any _ _ _ xs _ hn hr).mono ?_
      rintro e u1 ⟨rfl, o1, f1⟩
      go_wp2_with fail
      refine (toI_any _ _ _ ys _ hn' (hr'.fr f1)).mono ?_
      rintro e u2 ⟨rfl, o2, f2⟩
      have f12 := f1.trans f2
      obtain ⟨J, HS, HI⟩ := joined_both xs ys
      go_wp2_with fail
      refine (HS _ _ _ _ _ _ _ hn hn' (o1.reads.fr f2) o2.reads).mono ?_
      rintro e u3 ⟨vw, rfl, ow, fw⟩
      have f3 := f12.trans fw
      obtain ⟨gw, cw, rfl, ow⟩ := ow
      clear o1 o2 f1 f2 fw f12 HS
      go_wp2_with fail
      refine (toI_any _ _ _ xs _ hn (hr.fr f3)).mono ?_
      rintro e u4 ⟨rfl, o4, f4⟩
      have f34 := f3.trans f4
      go_wp2_with fail
      refine (toI_any _ _ _ ys _ hn' (hr'.fr f34)).mono ?_
      rintro e u5 ⟨rfl, o5, f5⟩
      have f35 := f34.trans f5
      have t0 := own_lt ow
      have t1 := own_lt o4
      have t2 := own_lt o5
      have s3 := f3.size
      have s4 := f4.size
      have s5 := f5.size
      have ow := (ow.fr f4).fr f5
      have o4 := o4.fr f5
      clear f34
      go_wp2_with fail
      refine (HI _ _ _ _ _ _ _ hn hn' o4.reads o5.reads).mono ?_
      rintro e u6 ⟨vg, rfl, og, f6⟩
      obtain ⟨gg, cg, rfl, og⟩ := og
      have t3 := own_lt og
      have ow := ow.fr f6
      have o4 := o4.fr f6
      have o5 := o5.fr f6
      have f36 := f35.trans f6
      go_wp2_with fail
      refine (eqI_any _ _ _ _ _ _ J J _ rfl rfl og.reads ow.reads).mono ?_
      rintro e u7 ⟨rfl, n7, rfl⟩
      have f37 := f36.trans (Fr.drewN _ n7)
      go_wp2_with fail
      refine (toI_any _ _ _ xs _ hn (hr.fr f37)).mono ?_
      rintro e u8 ⟨rfl, o8, f8⟩
      have g8 := (Fr.drewN u6 n7).trans f8
      have f38 := f37.trans f8
      go_wp2_with fail
      refine (eqI_any _ _ _ _ _ _ xs xs _ hn hn (o4.fr g8).reads o8.reads).mono ?_
      rintro e u9 ⟨rfl, n9, rfl⟩
      have g9 := g8.trans (Fr.drewN _ n9)
      have f39 := f38.trans (Fr.drewN _ n9)
      clear o8 f35 f37 f38 g8
      go_wp2_with fail
      refine (toI_any _ _ _ ys _ hn' (hr'.fr f39)).mono ?_
      rintro e u10 ⟨rfl, o10, f10⟩
      have g10 := g9.trans f10
      have f310 := f39.trans f10
      go_wp2_with fail
      refine (eqI_any _ _ _ _ _ _ ys ys _ hn' hn' (o5.fr g10).reads o10.reads).mono ?_
      rintro e u11 ⟨rfl, n11, rfl⟩
      have g11 := g10.trans (Fr.drewN _ n11)
      have f311 := f310.trans (Fr.drewN _ n11)
      have ow := ow.fr g11
      have og := og.fr g11
      have o4 := o4.fr g11
      have o5 := o5.fr g11
      clear o10 g10 f39 f310 f10 g9 f8
      go_wp2_with fail
      refine (mark_any _ _ _ _ 1 xs _ hn (by omega) (by omega) o4).mono ?_
      rintro e u12 ⟨rfl, o12, h12⟩
      have f12 := f311.then h12 (one_blk (by omega))
      have ow := ow.keep h12 (own_ne (by omega))
      have og := og.keep h12 (own_ne (by omega))
      have o5 := o5.keep h12 (own_ne (by omega))
      go_wp2_with fail
      refine (mark_any _ _ _ _ _ ys _ hn' (by omega) (by omega) o5).mono ?_
      rintro e u13 ⟨rfl, o13, h13⟩
      have f13 := f12.then h13 (one_blk (by omega))
      have ow := ow.keep h13 (own_ne (by omega))
      have og := og.keep h13 (own_ne (by omega))
      clear o12 o13 h12 h13 f12 f311 g11 f36
      go_wp2_with fail
      refine (eqI_any _ _ _ _ _ _ J J _ rfl rfl og.reads ow.reads).mono ?_
      rintro e u14 ⟨rfl, n14, rfl⟩
      have f14 := f13.trans (Fr.drewN _ n14)
      have og := og.fr (Fr.drewN _ n14)
      have ow := ow.fr (Fr.drewN _ n14)
      have hjl := og.2.1
      go_wp2_with fail
      refine (mark_any _ _ _ _ 1 J _ rfl (by omega) (by omega) og).mono ?_
      rintro e u15 ⟨rfl, o15, h15⟩
      have f15 := f14.then h15 (one_blk (by omega))
      have ow := ow.keep h15 (own_ne (by omega))
      go_wp2_with fail
      refine (held_any _ _ _ 1 _ (by omega) (by omega) o15.reads).mono ?_
      rintro e u16 ⟨rfl, rfl⟩
      clear f14 h15 og f13
      go_wp2_with fail
      refine (toI_any _ _ _ xs _ hn (hr.fr f15)).mono ?_
      rintro e u17 ⟨rfl, o17, f17⟩
      have f317 := f15.trans f17
      go_wp2_with fail
      refine (toI_any _ _ _ ys _ hn' (hr'.fr f317)).mono ?_
      rintro e u18 ⟨rfl, o18, f18⟩
      have f318 := f317.trans f18
      go_wp2_with fail
      refine (HI _ _ _ _ _ _ _ hn hn' (o17.fr f18).reads o18.reads).mono ?_
      rintro e u19 ⟨vh, rfl, oh, f19⟩
      have f319 := f318.trans f19
      obtain ⟨gh, ch, rfl, oh⟩ := oh
      have g19 := (f17.trans f18).trans f19
      go_wp2_with fail
      refine (eqI_any _ _ _ _ _ _ J J _ rfl rfl oh.reads (ow.fr g19).reads).mono ?_
      rintro e u20 ⟨rfl, n20, rfl⟩
      have f320 := f319.trans (Fr.drewN _ n20)
      go_wp2_with fail
      refine (held_any _ _ _ 1 _ (by omega) (by omega) (o15.fr (g19.trans (Fr.drewN _ n20))).reads).mono ?_
      rintro e u21 ⟨rfl, rfl⟩
      go_wp2_with fail
      go_ret
      exact ⟨rfl, f320.below⟩

set_option maxRecDepth 100000 in
theorem lifted (os : Os) (started : os.Started) (H : Type) (enc : TypeId × Value → H) :
    ReturnsInHanded {} Try.checked os 7 .any (Rows.fnExactJoinedClocksSpec.pre6 enc Try.prog Try.f7 Rows.fnExactJoinedClocksRow.domain false) (Rows.fnExactJoinedClocksSpec.post enc Try.prog Try.f7 false true false false) := by
  refine returnsInHanded_of_change (C := Try.checked) own started (by kernel_rfl) Try.func7
    (ChangeSpec.witness6 (enc := enc) (C := Try.checked) false ⟨#[], #[.slice none 0 0, .slice none 0 0], []⟩ 8 (by kernel_rfl) (by kernel_rfl) (by kernel_rfl) (by kernel_rfl)) ?_
  intro W base args ds gs before hval0 hW hcnd _
  have hval : ∀ (j : Nat) t v, Try.f7.params[j]? = some t → args[j]? = some v → Value.okWide Try.prog W .any base t v := hval0
  have hW' := hW
  obtain ⟨p, q, hA0, hV, rfl, hfz, hnd⟩ := hW
  have hA : DataW.TrodAll enc Try.prog W 0 (fun _ => true) true Try.f7.params.toList args.toList ds p := hA0
  rw [Try.params7] at hA hval
  obtain ⟨v0, vs0, d0, ds0, p0, q0, hargs, rfl, rfl, h0, r0⟩ := trodAll_cons hA
  obtain ⟨v1, vs1, d1, ds1, p1, q1, rfl, rfl, rfl, h1, r1⟩ := trodAll_cons r0
  obtain ⟨rfl, rfl, rfl⟩ := trodAll_nil r1
  obtain rfl : args = #[v0, v1] := by cases args; simp_all
  obtain ⟨rfl, rfl⟩ := trodVars_none hV
  obtain ⟨a0, len0, cap0, rfl⟩ := okWide_slice Try.underlying24 (hval 0 24 v0 rfl rfl)
  have k0 := h0
  have lt0 : ∀ x ∈ p0, x.block < W.heap.size := by obtain ⟨m, hm⟩ := k0; exact DataW.trod_lt m _ _ _ hm
  obtain ⟨z0, w0⟩ : ∃ zs, IsRow .i64 W a0 len0 cap0 zs := by
    obtain ⟨fuel, hf⟩ := h0
    rcases open_ints Try.underlying24 Try.underlying2 (by kernel_rfl) hf with ⟨hcs, _⟩ | ⟨x, l, c, zs, hcs, _, hl, hm, hz, _, hcell, hwz⟩
    · simp [Value.cells] at hcs
      obtain ⟨rfl, rfl, rfl⟩ := hcs
      exact ⟨[], .inl ⟨rfl, rfl, rfl, rfl⟩⟩
    · simp [Value.cells] at hcs
      obtain ⟨rfl, rfl, rfl⟩ := hcs
      exact ⟨zs, .inr ⟨_, rfl, hl, hm, by simpa using hz, hcell, hwz⟩⟩
  obtain ⟨a1, len1, cap1, rfl⟩ := okWide_slice Try.underlying24 (hval 1 24 v1 rfl rfl)
  have k1 := h1
  have lt1 : ∀ x ∈ p1, x.block < W.heap.size := by obtain ⟨m, hm⟩ := k1; exact DataW.trod_lt m _ _ _ hm
  obtain ⟨z1, w1⟩ : ∃ zs, IsRow .i64 W a1 len1 cap1 zs := by
    obtain ⟨fuel, hf⟩ := h1
    rcases open_ints Try.underlying24 Try.underlying2 (by kernel_rfl) hf with ⟨hcs, _⟩ | ⟨x, l, c, zs, hcs, _, hl, hm, hz, _, hcell, hwz⟩
    · simp [Value.cells] at hcs
      obtain ⟨rfl, rfl, rfl⟩ := hcs
      exact ⟨[], .inl ⟨rfl, rfl, rfl, rfl⟩⟩
    · simp [Value.cells] at hcs
      obtain ⟨rfl, rfl, rfl⟩ := hcs
      exact ⟨zs, .inr ⟨_, rfl, hl, hm, by simpa using hz, hcell, hwz⟩⟩
  clear hA0 hval0
  refine (walk a0 len0 cap0 z0 a1 len1 cap1 z1 W w0 w1).mono fun e W' ⟨he, bel⟩ => ?_
  subst he
  exact ⟨_, rfl, _, _, _, [], _, [], hW', trodAll_mk1 (shut_bool Try.underlying4 _), (trodAll_cons_mk (Below.trod laidOut (by kernel_rfl) (of_decide_eq_true (by kernel_rfl)) k0 bel lt0) (trodAll_cons_mk (Below.trod laidOut (by kernel_rfl) (of_decide_eq_true (by kernel_rfl)) k1 bel lt1) trodAll_mk0)), rfl, bel.frame _, fun h => by cases h⟩

theorem over : Rows.fnExactJoinedClocksRow.holds Try.pinned (OpenSpec.ofChange Rows.fnExactJoinedClocksSpec) :=
  OpenClaim.holds_of_wide 7 Try.f7 rfl rfl rfl rfl rfl rfl rfl ⟨rfl, rfl, rfl, rfl, rfl⟩ rfl rfl rfl rfl rfl (by kernel_rfl) Try.func7 (by kernel_rfl)
    (of_decide_eq_true (by kernel_rfl)) (by unfold Func.isWrapper; first | (rw [if_pos (by decide +kernel)]; kernel_rfl) | (rw [if_neg (by decide +kernel)]; exact ⟨rfl, rfl⟩))
    (fun os started H enc _ => lifted os started H enc)

end Go.Proofs.Yteoalolkjfeeaaa.fnExactJoinedClocks
namespace Go.Proofs.Yteoalolkjfeeaaa
theorem fnExactJoinedClocks_holds : Rows.FnExactJoinedClocksSaid := fnExactJoinedClocks.over
end Go.Proofs.Yteoalolkjfeeaaa
