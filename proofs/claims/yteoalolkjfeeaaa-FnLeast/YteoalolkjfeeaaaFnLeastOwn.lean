/-
  The law FnLeast answers true at every code (no condition), and leaves it as it was.
-/
import Derived.Test.YteoalolkjfeeaaaRows
import Derived.Test.YteoalolkjfeeaaaIntsLike
import Derived.Test.YteoalolkjfeeaaaLeast
import Derived.Test.YteoalolkjfeeaaaDrawClock
import Derived.WalkKit
import Derived.ProofKit
import Derived.OpenShut
import Derived.ShutString
import Derived.ChangeOld
import Derived.Below
namespace Go.Proofs.Yteoalolkjfeeaaa.fnLeast
open Go.ChangeShapes Go.WideShapes Go.ChangeAt Go.RowKit
open Go.ChangeMaps (open_string shut_string)
set_option linter.unusedVariables false

theorem own : ownKnob Try.prog.godebug = none := by kernel_rfl
theorem laidOut : laidOutB Try.prog = true := by kernel_rfl

def IsRow (k : IntKind) (w : World) (a : Option Addr) (len cap : Nat) (zs : List Int) : Prop :=
  (a = none ∧ len = 0 ∧ cap = 0 ∧ zs = []) ∨
  ∃ x, a = some x ∧ len ≤ cap ∧ cap ≤ maxLen ∧ zs.length = cap ∧ (∀ i, i < zs.length → w.cell? (x.add i) = some (.int k (zs.getD i 0))) ∧ ∀ n ∈ zs, (Lit.int k n).wf = true

set_option maxHeartbeats 2000000 in
theorem walk (a0 : Option Addr) (len0 cap0 : Nat) (z0 : List Int) (w : World) (w0 : IsRow .u8 w a0 len0 cap0 z0) :
    Calls Try.prog 3 #[.slice a0 len0 cap0] w fun e w' => e = .returned (.bool true) ∧ Below w.heap.size w w' := by
  have hcap : len0 ≤ 9223372036854775807 := by
    rcases w0 with ⟨_, e, _⟩ | ⟨x, _, h1, h2, _⟩
    · omega
    · unfold maxLen at h2; omega
  by_cases hbig : (4096 : Int) < (len0 : Int)
  · have hd : decide ((4096 : Int) < (len0 : Int)) = true := decide_eq_true hbig
    go_enter Try.func3, Try.ntmps3
    go_wp2_with fail
    refine (big_any _ _ _ _ hcap).mono ?_
    rintro e u1 ⟨rfl, rfl⟩
    go_wp2_with fail
    go_ret
    exact ⟨rfl, Below.refl _ _⟩
  · have hd : decide ((4096 : Int) < (len0 : Int)) = false := decide_eq_false hbig
    have hr := bytes_of_row w0
    have hl : len0 ≤ 4096 := by omega
    clear hbig
    go_enter Try.func3, Try.ntmps3
    go_wp2_with fail
    refine (big_any _ _ _ _ hcap).mono ?_
    rintro e u1 ⟨rfl, rfl⟩
    go_wp2_with fail
    refine (drawJoined_any _ _ _ _ hr hl).mono ?_
    rintro e u2 ⟨va, vb, xs, ys, rfl, oa, ob, f2⟩
    clear w0 hd hr hcap
    obtain ⟨ga, ca, rfl, oa⟩ := oa
    obtain ⟨gb, cb, rfl, ob⟩ := ob
    have ra := oa.reads
    have rb := ob.reads
    clear oa ob
    cases hk : ckB xs
    · have hj := joined_impl (some ⟨ga, 0, none⟩) (some ⟨gb, 0, none⟩) xs.length ys.length ca cb xs ys u2 rfl rfl ra rb
      rw [jcL_n1 hk] at hj
      have hu := unB_n1 (ys := ys) hk
      go_wp2_with fail
      refine (clockOk_spec _ _ _ xs _ rfl ra).mono ?_
      rintro e u3 ⟨rfl, rfl⟩
      go_wp2_with fail
      refine (hj).mono ?_
      rintro e u4 ⟨vj, rfl, oj, f4⟩
      obtain ⟨gj, cj, rfl, oj⟩ := oj
      go_wp2_with fail
      refine (under_impl _ _ _ _ _ _ xs ys _ rfl rfl (ra.fr f4) (rb.fr f4)).mono ?_
      rintro e u5 ⟨rfl, rfl⟩
      go_wp2_with fail
      go_ret
      exact ⟨rfl, (f2.trans f4).below⟩
    · cases hk' : ckB ys
      · have hj := joined_impl (some ⟨ga, 0, none⟩) (some ⟨gb, 0, none⟩) xs.length ys.length ca cb xs ys u2 rfl rfl ra rb
        rw [jcL_n2 hk'] at hj
        have hu := unB_n2 (xs := xs) hk'
        go_wp2_with fail
        refine (clockOk_spec _ _ _ xs _ rfl ra).mono ?_
        rintro e u3 ⟨rfl, rfl⟩
        go_wp2_with fail
        refine (clockOk_spec _ _ _ ys _ rfl rb).mono ?_
        rintro e u3 ⟨rfl, rfl⟩
        go_wp2_with fail
        refine (hj).mono ?_
        rintro e u4 ⟨vj, rfl, oj, f4⟩
        obtain ⟨gj, cj, rfl, oj⟩ := oj
        go_wp2_with fail
        refine (under_impl _ _ _ _ _ _ xs ys _ rfl rfl (ra.fr f4) (rb.fr f4)).mono ?_
        rintro e u5 ⟨rfl, rfl⟩
        go_wp2_with fail
        go_ret
        exact ⟨rfl, (f2.trans f4).below⟩
      · have j0 := jc_ok hk hk'
        have j1 := un_left hk hk'
        have j2 := un_right hk hk'
        have j3 := un_iff hk hk'
        have hj := joined_impl (some ⟨ga, 0, none⟩) (some ⟨gb, 0, none⟩) xs.length ys.length ca cb xs ys u2 rfl rfl ra rb
        have hk2 := fun w ra rb => joined_impl (some ⟨gb, 0, none⟩) (some ⟨ga, 0, none⟩) ys.length xs.length cb ca ys xs w rfl rfl rb ra
        rw [jc_comm hk hk'] at hk2
        have j4 := fun hb : tdB (jcL xs ys) 3 = true => td_un j0 hb
        generalize jcL xs ys = J at hj hk2 j0 j1 j2 j3 j4
        go_wp2_with fail
        refine (clockOk_spec _ _ _ xs _ rfl ra).mono ?_
        rintro e u3 ⟨rfl, rfl⟩
        go_wp2_with fail
        refine (clockOk_spec _ _ _ ys _ rfl rb).mono ?_
        rintro e u3 ⟨rfl, rfl⟩
        go_wp2_with fail
        refine (hj).mono ?_
        rintro e u4 ⟨vj, rfl, oj, f4⟩
        obtain ⟨gj, cj, rfl, oj⟩ := oj
        have rj := oj.reads
        go_wp2_with fail
        refine (hk2 _ (ra.fr f4) (rb.fr f4)).mono ?_
        rintro e u5 ⟨vk, rfl, ok, f5⟩
        obtain ⟨gk, ck, rfl, ok⟩ := ok
        have rk := ok.reads
        have rj := rj.fr f5
        have f45 := f4.trans f5
        clear hj hk2 oj ok
        have ht := ticked_impl (some ⟨gj, 0, none⟩) J.length cj J 3 u5 rfl rj
        have HJ4 : Hid (tdB J 3 = true → unB J (tdL J 3) = true ∧ unB (tdL J 3) J = false ∧ tkL (tdL J 3) 3 = J.getD 3 0 + 1 ∧ tkL J 3 = J.getD 3 0 ∧ 0 ≤ J.getD 3 0 ∧ J.getD 3 0 < 281474976710655) := j4
        clear j4
        generalize htd : tdL J 3 = U at ht HJ4
        clear htd
        go_wp2_with fail
        refine (ht).mono ?_
        rintro e u6 ⟨vu, rfl, ou, f6⟩
        obtain ⟨gu, cu, rfl, ou⟩ := ou
        have ru := ou.reads
        have f46 := f45.trans f6
        clear ht ou
        have ra6 := ra.fr f46
        have rb6 := rb.fr f46
        have rj6 := rj.fr f6
        have rk6 := rk.fr f6
        clear ra rb rj rk
        go_wp2_with fail
        refine (clockOk_impl _ _ _ J _ rfl rj6).mono ?_
        rintro e u7 ⟨rfl, rfl⟩
        go_wp2_with fail
        refine (like_any _ _ _ _ _ _ J J _ rfl rfl rj6 rk6).mono ?_
        rintro e u8 ⟨rfl, n8, rfl⟩
        have d8 := Fr.drewN u7 n8
        go_wp2_with fail
        refine (under_impl _ _ _ _ _ _ xs J _ rfl rfl (ra6.fr d8) (rj6.fr d8)).mono ?_
        rintro e u9 ⟨rfl, rfl⟩
        go_wp2_with fail
        refine (under_impl _ _ _ _ _ _ ys J _ rfl rfl (rb6.fr d8) (rj6.fr d8)).mono ?_
        rintro e u10 ⟨rfl, rfl⟩
        go_wp2_with fail
        refine (under_impl _ _ _ _ _ _ xs ys _ rfl rfl (ra6.fr d8) (rb6.fr d8)).mono ?_
        rintro e u11 ⟨rfl, rfl⟩
        go_wp2_with fail
        refine (like_any _ _ _ _ _ _ J ys _ rfl rfl (rj6.fr d8) (rb6.fr d8)).mono ?_
        rintro e u12 ⟨rfl, n12, rfl⟩
        have d12 : Fr u7 (u7.drewN (n8 + n12)) := Fr.drewN _ _
        have fz := f2.trans (f46.trans d12)
        cases hB : tdB J 3
        · go_wp2_with fail
          go_ret
          exact ⟨rfl, fz.below⟩
        · obtain ⟨q1, q2, q3, q4, q5, q6⟩ := HJ4.out hB
          have ru12 := ru.fr d12
          have rj12 := rj6.fr d12
          generalize J.getD 3 0 = z at q3 q4 q5 q6
          clear HJ4 ra6 rb6 rj6 rk6 ru
          go_wp2_with fail
          refine (under_impl _ _ _ _ _ _ J U _ rfl rfl rj12 ru12).mono ?_
          rintro e u13 ⟨rfl, rfl⟩
          go_wp2_with fail
          refine (under_impl _ _ _ _ _ _ U J _ rfl rfl ru12 rj12).mono ?_
          rintro e u14 ⟨rfl, rfl⟩
          go_wp2_with fail
          refine (tickOf_impl _ _ _ U 3 _ rfl ru12).mono ?_
          rintro e u15 ⟨rfl, rfl⟩
          go_wp2_with fail
          refine (tickOf_impl _ _ _ J 3 _ rfl rj12).mono ?_
          rintro e u16 ⟨rfl, rfl⟩
          go_wp2_with fail
          go_ret
          exact ⟨rfl, fz.below⟩

set_option maxRecDepth 100000 in
theorem lifted (os : Os) (started : os.Started) (H : Type) (enc : TypeId × Value → H) :
    ReturnsInHanded {} Try.checked os 3 .any (Rows.fnLeastSpec.pre6 enc Try.prog Try.f3 Rows.fnLeastRow.domain false) (Rows.fnLeastSpec.post enc Try.prog Try.f3 false true false false) := by
  refine returnsInHanded_of_change (C := Try.checked) own started (by kernel_rfl) Try.func3
    (ChangeSpec.witness6 (enc := enc) (C := Try.checked) false ⟨#[], #[.slice none 0 0], []⟩ 8 (by kernel_rfl) (by kernel_rfl) (by kernel_rfl) (by kernel_rfl)) ?_
  intro W base args ds gs before hval0 hW hcnd _
  have hval : ∀ (j : Nat) t v, Try.f3.params[j]? = some t → args[j]? = some v → Value.okWide Try.prog W .any base t v := hval0
  have hW' := hW
  obtain ⟨p, q, hA0, hV, rfl, hfz, hnd⟩ := hW
  have hA : DataW.TrodAll enc Try.prog W 0 (fun _ => true) true Try.f3.params.toList args.toList ds p := hA0
  rw [Try.params3] at hA hval
  obtain ⟨v0, vs0, d0, ds0, p0, q0, hargs, rfl, rfl, h0, r0⟩ := trodAll_cons hA
  obtain ⟨rfl, rfl, rfl⟩ := trodAll_nil r0
  obtain rfl : args = #[v0] := by cases args; simp_all
  obtain ⟨rfl, rfl⟩ := trodVars_none hV
  obtain ⟨a0, len0, cap0, rfl⟩ := okWide_slice Try.underlying22 (hval 0 22 v0 rfl rfl)
  have k0 := h0
  have lt0 : ∀ x ∈ p0, x.block < W.heap.size := by obtain ⟨m, hm⟩ := k0; exact DataW.trod_lt m _ _ _ hm
  obtain ⟨z0, w0⟩ : ∃ zs, IsRow .u8 W a0 len0 cap0 zs := by
    obtain ⟨fuel, hf⟩ := h0
    rcases open_ints Try.underlying22 Try.underlying5 (by kernel_rfl) hf with ⟨hcs, _⟩ | ⟨x, l, c, zs, hcs, _, hl, hm, hz, _, hcell, hwz⟩
    · simp [Value.cells] at hcs
      obtain ⟨rfl, rfl, rfl⟩ := hcs
      exact ⟨[], .inl ⟨rfl, rfl, rfl, rfl⟩⟩
    · simp [Value.cells] at hcs
      obtain ⟨rfl, rfl, rfl⟩ := hcs
      exact ⟨zs, .inr ⟨_, rfl, hl, hm, by simpa using hz, hcell, hwz⟩⟩
  clear hA0 hval0
  refine (walk a0 len0 cap0 z0 W w0).mono fun e W' ⟨he, bel⟩ => ?_
  subst he
  exact ⟨_, rfl, _, _, _, [], _, [], hW', trodAll_mk1 (shut_bool Try.underlying4 _), (trodAll_cons_mk (Below.trod laidOut (by kernel_rfl) (of_decide_eq_true (by kernel_rfl)) k0 bel lt0) trodAll_mk0), rfl, bel.frame _, fun h => by cases h⟩

theorem over : Rows.fnLeastRow.holds Try.pinned (OpenSpec.ofChange Rows.fnLeastSpec) :=
  OpenClaim.holds_of_wide 3 Try.f3 rfl rfl rfl rfl rfl rfl rfl ⟨rfl, rfl, rfl, rfl, rfl⟩ rfl rfl rfl rfl rfl (by kernel_rfl) Try.func3 (by kernel_rfl)
    (of_decide_eq_true (by kernel_rfl)) (by unfold Func.isWrapper; first | (rw [if_pos (by decide +kernel)]; kernel_rfl) | (rw [if_neg (by decide +kernel)]; exact ⟨rfl, rfl⟩))
    (fun os started H enc _ => lifted os started H enc)

end Go.Proofs.Yteoalolkjfeeaaa.fnLeast
namespace Go.Proofs.Yteoalolkjfeeaaa
theorem fnLeast_holds : Rows.FnLeastSaid := fnLeast.over
end Go.Proofs.Yteoalolkjfeeaaa
