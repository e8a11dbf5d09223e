/-
  The law FnNumbers answers true at every code (no condition but that errNumber and errors.errorType lie as the program's text lays them), and leaves it as it was.
-/
import Derived.Test.YtlpmcfooaakdgaaDoorRows
import Derived.Test.YtlpmcfooaakdgaaDoorCards
import Derived.Test.YtlpmcfooaakdgaaDoorTie
import Derived.Test.YtlpmcfooaakdgaaDoorDoor
import Derived.Test.YtlpmcfooaakdgaaDoorDoorE
import Derived.Test.YtlpmcfooaakdgaaDoorPut
import Derived.Test.YtlpmcfooaakdgaaDoorRdN
import Derived.Test.YtlpmcfooaakdgaaDoorDrawPut
import Derived.WalkKit
import Derived.ProofKit
import Derived.OpenShut
import Derived.LaidMore
import Derived.Stop.Joined
import Derived.OpenVars
import Derived.SevenTiedAt
namespace Go.Proofs.YtlpmcfooaakdgaaDoor.fnNumbers
open Go.ChangeShapes Go.WideShapes Go.ChangeAt Go.RowKit
set_option linter.unusedVariables false

def IsRow (k : IntKind) (w : World) (a : Option Addr) (len cap : Nat) (zs : List Int) : Prop :=
  (a = none ∧ len = 0 ∧ cap = 0 ∧ zs = []) ∨
  ∃ x, a = some x ∧ len ≤ cap ∧ cap ≤ maxLen ∧ zs.length = cap ∧ (∀ i, i < zs.length → w.cell? (x.add i) = some (.int k (zs.getD i 0))) ∧ ∀ n ∈ zs, (Lit.int k n).wf = true

theorem rd_in (m : Int) (h0 : 0 ≤ m) (h1 : m ≤ 4398046511103) : rdV (([7] ++ putL m) ++ [7]) 1 = (m, 1 + ((putL m).length : Int), true) := by
  have h := rdN_put (bs := ([7] ++ putL m) ++ [7]) (rest := [7]) (n := m) (p := 1) h0 h1 (by simp)
  have := rdV_some h
  simpa using this
theorem rd_short (m : Int) (h0 : 0 ≤ m) : rdV ((putL m).take ((putL m).length - 1)) 0 = (0, 0, false) := by
  have h := rdN_cut (bs := (putL m).take ((putL m).length - 1)) (n := m) (p := 0) h0 (by rw [List.drop_zero, List.dropLast_eq_take])
  have := rdV_none h
  simpa using this
theorem ownB_seven (w : World) : OwnBS (w.alloc (.cells #[.int .u8 7] 5)) w.heap.size (.slice (some ⟨w.heap.size, 0, none⟩) 1 1) [7] :=
  ownB_lit w [7] (by simp) (by intro x hx; simp at hx; subst hx; exact ⟨by decide, by decide⟩)

set_option maxHeartbeats 1000000 in
theorem walk (a0 : Option Addr) (len0 cap0 : Nat) (z0 : List Int) (w : World) (w0 : IsRow .u8 w a0 len0 cap0 z0) (hs : ∃ y, NumV y w) :
    Calls Tryd.prog 5 #[.slice a0 len0 cap0] w fun e w' => e = .returned (.bool true) ∧ Below w.heap.size w w' := by
  obtain ⟨y, hs⟩ := hs
  have hcap : len0 ≤ 9223372036854775807 := by
    rcases w0 with ⟨_, e, _⟩ | ⟨x, _, h1, h2, _⟩
    · omega
    · unfold maxLen at h2; omega
  by_cases hbig : (4096 : Int) < (len0 : Int)
  · have hd : decide ((4096 : Int) < (len0 : Int)) = true := decide_eq_true hbig
    go_enter Tryd.func5, Tryd.ntmps5
    go_wp2_with fail
    refine (big_any _ _ _ _ hcap).mono ?_
    rintro e u1 ⟨rfl, rfl⟩
    go_wp2_with fail
    go_ret
    exact ⟨rfl, Below.refl _ _⟩
  · have hd : decide ((4096 : Int) < (len0 : Int)) = false := decide_eq_false hbig
    have hr := bytes_of_row w0
    have hl : len0 ≤ 4096 := by omega
    clear hbig
    go_enter Tryd.func5, Tryd.ntmps5
    go_wp2_with fail
    refine (big_any _ _ _ _ hcap).mono ?_
    rintro e u1 ⟨rfl, rfl⟩
    go_wp2_with fail
    refine (drawPut_any _ _ _ _ hr hl).mono ?_
    rintro e u2 ⟨m, rfl, hm, f2⟩
    clear w0 hd hr hcap
    have cP := fun w => implPut_any m w
    by_cases hin : 0 ≤ m ∧ m ≤ 4398046511103
    · obtain ⟨m0, m1⟩ := hin
      rw [putA, inB_mk m0 m1] at cP
      simp only [if_true] at cP
      go_wp2_with fail
      refine (cP _).mono ?_
      rintro e u3 ⟨vb, rfl, ob, f3⟩
      obtain ⟨gb, cb, rfl, ob⟩ := ob
      have f23 := f2.trans f3
      have tb := ownB_lt ob
      have hlen := putL_len m
      have hE : Hid (rdV (([7] ++ putL m) ++ [7]) 1 = (m, 1 + ((putL m).length : Int), true)) := rd_in m m0 m1
      have hZ : Hid (rdV ((putL m).take ((putL m).length - 1)) 0 = (0, 0, false)) := rd_short m m0
      obtain ⟨P, hP⟩ : ∃ P, P = putL m := ⟨_, rfl⟩
      rw [← hP] at ob hlen hE hZ
      simp only [← hP]
      clear hP cP
      have bl := ob.reads
      obtain ⟨N, hN⟩ : ∃ N, N = P.length := ⟨_, rfl⟩
      rw [← hN] at hlen hE hZ ob
      simp only [← hN]
      have HN : Hid (P.length = N) := hN.symm
      clear hN
      have b7 := readsB_one u3 7 ⟨by decide, by decide⟩
      have o7 := ownB_seven u3
      go_wp2_with (first
        | (at_builtin; refine appB _ rfl _ _ rfl u3.heap.size _ [7] P rfl o7 _ _ _ rfl HN.out (by simp) (bl.fr (Fr.alloc u3 _)) (by rw [HN.out]; simp; omega) (by simp) ?_; intro v4 u4 o4 g4; have s4 := g4.size; simp at s4)
        | (at_builtin; refine appB _ rfl _ _ rfl u3.heap.size _ ([7] ++ P) [7] rfl (o4.fr (Fr.alloc _ _)) _ _ _ rfl rfl (by simp) (readsB_one u4 7 ⟨by decide, by decide⟩) (by simp [HN.out]; omega) (by simp; omega) ?_; intro v5 u5 o5 g5))
      have fA : Fr u3 u4 := (Fr.alloc u3 _).then g4 o7.blk
      have fB : Fr u3 u5 := (fA.trans (Fr.alloc u4 _)).then g5 o4.blk
      clear g4 g5 o4 o7 b7
      obtain ⟨g5, c5, rfl, o5⟩ := o5
      have t5 := ownB_lt o5
      have f25 := f23.trans fB
      have cR := implRead_any _ _ c5 _ 1 y u5 rfl ⟨by decide, by decide⟩ o5.reads (hs.fr f25) (fun j hj => by simp only [blk, Option.map_some, Option.some.injEq] at hj; omega)
      rw [hE.out] at cR
      simp only [rdT] at cR
      refine cR.mono ?_
      rintro e u6 ⟨rfl, f6⟩
      have fC := fB.trans f6
      have hcb := ownB_cap ob
      have cS := implRead_any (some ⟨gb, 0, none⟩) (N - 1) cb _ 0 y u6 (by simp [HN.out]) ⟨by decide, by decide⟩ ((bl.fr fC).take (N - 1)) (hs.fr (f23.trans fC)) (fun j hj => by simp only [blk, Option.map_some, Option.some.injEq] at hj; have := fC.size; omega)
      rw [hZ.out] at cS
      simp only [rdT] at cS
      clear cR o5 ob bl hE hZ
      obtain ⟨hcb, hcb2⟩ := hcb
      clear hcb
      obtain ⟨hl1, hl6⟩ := hlen
      go_wp2_with fail
      refine cS.mono ?_
      rintro e u7 ⟨rfl, f7⟩
      go_wp2_with fail
      go_ret
      exact ⟨rfl, ((f23.trans fC).trans f7).below⟩
    · rw [putA, inB_not (by omega)] at cP
      simp only [Bool.false_eq_true, if_false] at cP
      go_wp2_with fail
      refine (cP _).mono ?_
      rintro e u3 ⟨vb, rfl, ob, f3⟩
      obtain ⟨gb, cb, rfl, ob⟩ := ob
      by_cases h0 : 0 ≤ m
      · have h1 : ¬ m ≤ 4398046511103 := fun q => hin ⟨h0, q⟩
        clear hin
        go_wp2_with fail
        go_ret
        exact ⟨rfl, (f2.trans f3).below⟩
      · clear hin
        go_wp2_with fail
        go_ret
        exact ⟨rfl, (f2.trans f3).below⟩

theorem own : ownKnob Tryd.prog.godebug = none := by kernel_rfl
theorem laidOut : laidOutB Tryd.prog = true := by kernel_rfl
theorem met (os : Os) (args : Array Value) : laidMetH Tryd.prog Rows.fnNumbersRow.laid ((World.doorLaid Tryd.prog 400 os).forCall (fun _ _ => 0) ⟨#[], args, []⟩).memory :=
  laidMetH_of_parts3 (fuel := 8) (laidMet_of_run' 8 (by kernel_rfl) (by kernel_rfl)) (by kernel_rfl) (by kernel_rfl)
theorem tables {W : World} (h : laidMetH Tryd.prog Rows.fnNumbersRow.laid W) : ∃ y, NumV y W := num_of h

set_option maxRecDepth 100000 in
theorem lifted (os : Os) (started : os.Started) (H : Type) (enc : TypeId × Value → H) :
    ReturnsInHanded {} Tryd.checked os 5 .any (fun w args => (Rows.fnNumbersSpec.pre enc Tryd.prog Tryd.f5 [] false w args ∧ laidMetH Tryd.prog Rows.fnNumbersRow.laid w) ∧ sizedMet enc Tryd.prog Tryd.f5 (OpenSpec.ofChange Rows.fnNumbersSpec) false w args)
      (Rows.fnNumbersSpec.post enc Tryd.prog Tryd.f5 false true false false) := by
  refine returnsInHanded_of_change_and (C := Tryd.checked) (X := fun w _ => laidMetH Tryd.prog Rows.fnNumbersRow.laid w) (fun _ _ _ hh h => h.of_heap hh) own started (by kernel_rfl) Tryd.func5
    (ChangeSpec.witness_shaped (enc := enc) (C := Tryd.checked) (os := os) (X := fun w _ => laidMetH Tryd.prog Rows.fnNumbersRow.laid w) false (World.doorLaid Tryd.prog 400 os) #[.slice none 0 0] 8 rfl (World.shaped_of_RefB (by kernel_rfl) (by kernel_rfl)) (by kernel_rfl) (by kernel_rfl) (by kernel_rfl) (met os _)) ?_
  intro W base args ds gs before hval0 hW _ _ hL _
  have hval : ∀ (j : Nat) t v, Tryd.f5.params[j]? = some t → args[j]? = some v → Value.okWide Tryd.prog W .any base t v := hval0
  have hW' := hW
  obtain ⟨p, q, hA0, hV, rfl, hfz, hnd⟩ := hW
  have hA : DataW.TrodAll enc Tryd.prog W 0 (fun _ => true) true Tryd.f5.params.toList args.toList ds p := hA0
  rw [Tryd.params5] at hA hval
  obtain ⟨v0, vs0, d0, ds0, p0, q0, hargs, rfl, rfl, h0, r0⟩ := trodAll_cons hA
  obtain ⟨rfl, rfl, rfl⟩ := trodAll_nil r0
  obtain rfl : args = #[v0] := by cases args; simp_all
  have k0 := h0
  have lt0 : ∀ x ∈ p0, x.block < W.heap.size := by obtain ⟨m, hm⟩ := k0; exact DataW.trod_lt m _ _ _ hm
  obtain ⟨a0, len0, cap0, rfl⟩ := okWide_slice Tryd.underlying22 (hval 0 22 v0 rfl rfl)
  obtain ⟨z0, w0⟩ : ∃ zs, IsRow .u8 W a0 len0 cap0 zs := by
    obtain ⟨fuel, hf⟩ := h0
    rcases open_ints Tryd.underlying22 Tryd.underlying5 (by kernel_rfl) hf with ⟨hcs, _⟩ | ⟨x, l, c, zs, hcs, _, hl, hm, hz, _, hcell, hwz⟩
    · simp [Value.cells] at hcs
      obtain ⟨rfl, rfl, rfl⟩ := hcs
      exact ⟨[], .inl ⟨rfl, rfl, rfl, rfl⟩⟩
    · simp [Value.cells] at hcs
      obtain ⟨rfl, rfl, rfl⟩ := hcs
      exact ⟨zs, .inr ⟨_, rfl, hl, hm, by simpa using hz, hcell, hwz⟩⟩
  clear hA0 hval0
  refine (walk a0 len0 cap0 z0 W w0 (tables hL)).mono fun e W' ⟨he, bel⟩ => ?_
  subst he
  match gs, hV with
  | [g1], hV =>
    exact ⟨_, rfl, _, _, _, [], _, _, hW', trodAll_mk1 (shut_bool Tryd.underlying4 _), (trodAll_cons_mk (Below.trod laidOut (by kernel_rfl) (of_decide_eq_true (by kernel_rfl)) k0 bel lt0) trodAll_mk0), Below.trodVars laidOut bel (by kernel_rfl) hV, bel.frame _, fun h => by cases h⟩

theorem over : Rows.fnNumbersRow.holds Tryd.pinned (OpenSpec.ofChange Rows.fnNumbersSpec) :=
  OpenClaim.holds_of_wide 5 Tryd.f5 rfl rfl rfl rfl rfl rfl rfl ⟨rfl, rfl, rfl, rfl, rfl⟩ rfl rfl rfl rfl rfl (by kernel_rfl) Tryd.func5 (by kernel_rfl)
    (of_decide_eq_true (by kernel_rfl)) (by unfold Func.isWrapper; first | (rw [if_pos (by decide +kernel)]; kernel_rfl) | (rw [if_neg (by decide +kernel)]; exact ⟨rfl, rfl⟩))
    (fun os started H enc _ => lifted os started H enc)

theorem carded : Rows.FnNumbersCardSaid :=
  Claim7.holds_tied_plain_at .later [] [.handle, .sentinel] true (true, "5c1e312e8c4e4c46e4c5620dc3ceab4d5b953ae6546209ec39f7de05bc4231ef") true
    over (fun _ h => by cases h) (by kernel_rfl) (fun _ h => by cases h) fnNumbers_row_tie rfl ⟨rfl, rfl⟩ (by kernel_rfl) rfl
    (fun f fn hf hfn => by
      obtain rfl : f = 5 := Option.some.inj ((show Tryd.prog.funcNamed "loop.example/g00720/laws.FnNumbers" = some 5 by kernel_rfl).symm.trans hf) |>.symm
      obtain rfl : fn = Tryd.f5 := (Option.some.inj (Tryd.func5.symm.trans hfn)).symm
      exact ⟨by kernel_rfl, fun j t ht => by
        rw [Tryd.params5] at ht
        have hm : t ∈ [22] := by simpa using Array.mem_of_getElem? ht
        have hall : ([22].all fun u => !Tryd.prog.wantsStandIn u) = true := by kernel_rfl
        exact (show Tryd.prog.wantsStandIn t = false by simpa using List.all_eq_true.1 hall t hm)⟩)
    (by kernel_rfl)
end Go.Proofs.YtlpmcfooaakdgaaDoor.fnNumbers
namespace Go.Proofs.YtlpmcfooaakdgaaDoor
theorem fnNumbers_holds : Rows.FnNumbersCardSaid := fnNumbers.carded
end Go.Proofs.YtlpmcfooaakdgaaDoor
