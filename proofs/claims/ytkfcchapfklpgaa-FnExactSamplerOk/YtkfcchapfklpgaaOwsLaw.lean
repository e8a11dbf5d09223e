/-
  The laws' own functions on samplers: how many, a copy, a comparison.
-/
import Derived.Test.YtkfcchapfklpgaaOwK
import Derived.Test.YtkfcchapfklpgaaArgBu
import Derived.Test.YtkfcchapfklpgaaGrown
import Derived.BigQuiet
import Derived.OwnWalk
import Derived.Deep.DeepCutAuto
namespace Go.Proofs.Ytkfcchapfklpgaa
open Go.RowKit

theorem szOwS_any (ao : Option Addr) (n cap : Nat) (w : World) (hn : n ≤ 9223372036854775807) :
    Calls Try.prog 21 #[.slice ao n cap, .int .i64 1048576] w fun e w' => e = .returned (.int .i64 (if n ≤ 1048576 then 1048576 - (n : Int) else -1)) ∧ w' = w := by
  by_cases h : n ≤ 1048576
  · rw [if_pos h]
    go_enter Try.func21, Try.ntmps21
    go_wp2
    go_ret
    exact ⟨rfl, rfl⟩
  · rw [if_neg h]
    go_enter Try.func21, Try.ntmps21
    go_wp2
    go_ret
    exact ⟨rfl, rfl⟩
theorem szSm_any (ao : Option Addr) (n cap : Nat) (p u : Int) (w : World) (hn : n ≤ 9223372036854775807) :
    Calls Try.prog 6 #[.agg #[.slice ao n cap, .int .i64 p, .int .i64 u], .int .i64 1048576] w fun e w' => e = .returned (.int .i64 (if n ≤ 1048576 then 1048576 - (n : Int) else -1)) ∧ Fr w w' := by
  have c := fun w => szOwS_any ao n cap w hn
  have f := Fr.alloc w (.cells #[.slice ao n cap, .int .i64 p, .int .i64 u] 26)
  by_cases h : n ≤ 1048576
  · rw [if_pos h] at c ⊢
    go_enter Try.func6, Try.ntmps6
    go_wp2_with fail
    refine (c _).mono ?_
    rintro e u1 ⟨rfl, rfl⟩
    go_wp2_with fail
    go_ret
    exact ⟨rfl, f⟩
  · rw [if_neg h] at c ⊢
    go_enter Try.func6, Try.ntmps6
    go_wp2_with fail
    refine (c _).mono ?_
    rintro e u1 ⟨rfl, rfl⟩
    go_wp2_with fail
    go_ret
    exact ⟨rfl, f⟩
set_option maxHeartbeats 1000000 in
theorem toOw_any (o : Ow) (w : World) :
    Calls Try.prog 47 #[.agg #[.int .i64 o.g, .int .i64 o.f, .int .i64 o.b.l, .int .i64 o.b.s, .int .i64 o.b.g]] w fun x w' => x = .returned (.agg #[.int .i64 o.g, .int .i64 o.f, .int .i64 o.b.l, .int .i64 o.b.s, .int .i64 o.b.g]) ∧ Fr w w' := by
  have cB := fun u => toBurst_any o.b u
  obtain ⟨g, f, l, s, p⟩ := o
  simp only at cB ⊢
  have f1 := Fr.alloc w (.cells #[.int .i64 g, .int .i64 f, .int .i64 l, .int .i64 s, .int .i64 p] 81)
  obtain ⟨V, hV⟩ : ∃ V, V = w.alloc (.cells #[.int .i64 g, .int .i64 f, .int .i64 l, .int .i64 s, .int .i64 p] 81) := ⟨_, rfl⟩
  have hs : V.heap.size = w.heap.size + 1 := by rw [hV]; simp
  have f2 := Fr.alloc V (.cells #[.int .i64 0, .int .i64 0, .int .i64 0, .int .i64 0, .int .i64 0] 53)
  have kR : OwZ (V.alloc (.cells #[.int .i64 0, .int .i64 0, .int .i64 0, .int .i64 0, .int .i64 0] 53)) (w.heap.size + 1) #[.int .i64 0, .int .i64 0, .int .i64 0, .int .i64 0, .int .i64 0] := by
    have := heap_alloc_new V (.cells #[.int .i64 0, .int .i64 0, .int .i64 0, .int .i64 0, .int .i64 0] 53)
    rwa [hs] at this
  have hs2 : (V.alloc (.cells #[.int .i64 0, .int .i64 0, .int .i64 0, .int .i64 0, .int .i64 0] 53)).heap.size = w.heap.size + 1 + 1 := by simp [hs]
  have kO : OwZ ((V.alloc (.cells #[.int .i64 0, .int .i64 0, .int .i64 0, .int .i64 0, .int .i64 0] 53)).alloc (.cells #[.int .i64 g, .int .i64 f, .int .i64 0, .int .i64 0, .int .i64 0] 53)) (w.heap.size + 1 + 1) #[.int .i64 g, .int .i64 f, .int .i64 0, .int .i64 0, .int .i64 0] := by
    have := heap_alloc_new (V.alloc (.cells #[.int .i64 0, .int .i64 0, .int .i64 0, .int .i64 0, .int .i64 0] 53)) (.cells #[.int .i64 g, .int .i64 f, .int .i64 0, .int .i64 0, .int .i64 0] 53)
    rwa [hs2] at this
  have f3 := Fr.alloc (V.alloc (.cells #[.int .i64 0, .int .i64 0, .int .i64 0, .int .i64 0, .int .i64 0] 53)) (.cells #[.int .i64 g, .int .i64 f, .int .i64 0, .int .i64 0, .int .i64 0] 53)
  rw [← hV] at f1
  replace kR := kR.fr f3
  have F := (f1.trans f2).trans f3
  rw [hV] at kR kO F
  clear f1 f2 f3 hs hs2 hV V
  go_enter Try.func47, Try.ntmps47
  go_wp2_with fail
  obtain ⟨U, hU⟩ : ∃ U, U = ((w.alloc (.cells #[.int .i64 g, .int .i64 f, .int .i64 l, .int .i64 s, .int .i64 p] 81)).alloc (.cells #[.int .i64 0, .int .i64 0, .int .i64 0, .int .i64 0, .int .i64 0] 53)).alloc (.cells #[.int .i64 g, .int .i64 f, .int .i64 0, .int .i64 0, .int .i64 0] 53) := ⟨_, rfl⟩
  rw [← hU] at kR kO F ⊢
  clear hU
  refine (cB _).mono ?_
  rintro e u1 ⟨rfl, k1⟩
  have kR := kR.fr k1
  have kO := kO.fr k1
  obtain ⟨o0, o1, o2, o3, o4⟩ := kO.cs
  obtain ⟨r0, r1, r2, r3, r4⟩ := kR.cs
  have of := fun i => kO.free i
  have rf := fun i => kR.free i
  have F := F.trans k1
  clear k1 cB
  have z1 : OwZ (((u1.setCell ⟨w.heap.size + 1 + 1, 2, none⟩ (.int .i64 l)).setCell ⟨w.heap.size + 1 + 1, 3, none⟩ (.int .i64 s)).setCell ⟨w.heap.size + 1 + 1, 4, none⟩ (.int .i64 p)) (w.heap.size + 1 + 1) #[.int .i64 g, .int .i64 f, .int .i64 l, .int .i64 s, .int .i64 p] := heap_setCell_same _ _ 4 _ _ _ (heap_setCell_same _ _ 3 _ _ _ (heap_setCell_same _ _ 2 _ _ _ kO))
  have g1 := grown_trans (grown_trans (grown_set u1 (w.heap.size + 1 + 1) 2 (.int .i64 l)) (grown_set _ (w.heap.size + 1 + 1) 3 (.int .i64 s))) (grown_set _ (w.heap.size + 1 + 1) 4 (.int .i64 p))
  have HZ : Hid (OwZ (((u1.setCell ⟨w.heap.size + 1 + 1, 2, none⟩ (.int .i64 l)).setCell ⟨w.heap.size + 1 + 1, 3, none⟩ (.int .i64 s)).setCell ⟨w.heap.size + 1 + 1, 4, none⟩ (.int .i64 p)) (w.heap.size + 1 + 1) #[.int .i64 g, .int .i64 f, .int .i64 l, .int .i64 s, .int .i64 p] ∧ Fr w (((u1.setCell ⟨w.heap.size + 1 + 1, 2, none⟩ (.int .i64 l)).setCell ⟨w.heap.size + 1 + 1, 3, none⟩ (.int .i64 s)).setCell ⟨w.heap.size + 1 + 1, 4, none⟩ (.int .i64 p)) ∧ OwZ (((u1.setCell ⟨w.heap.size + 1 + 1, 2, none⟩ (.int .i64 l)).setCell ⟨w.heap.size + 1 + 1, 3, none⟩ (.int .i64 s)).setCell ⟨w.heap.size + 1 + 1, 4, none⟩ (.int .i64 p)) (w.heap.size + 1) #[.int .i64 0, .int .i64 0, .int .i64 0, .int .i64 0, .int .i64 0]) := ⟨z1, F.then g1 (fun j e => by cases e; omega), kR.keep g1 (by simp)⟩
  clear z1 g1 kR kO F r0 r1 r2 r3 r4 rf
  go_upto_region 5 with fail
  obtain ⟨u2, hu2⟩ : ∃ u2, u2 = ((u1.setCell ⟨w.heap.size + 1 + 1, 2, none⟩ (.int .i64 l)).setCell ⟨w.heap.size + 1 + 1, 3, none⟩ (.int .i64 s)).setCell ⟨w.heap.size + 1 + 1, 4, none⟩ (.int .i64 p) := ⟨_, rfl⟩
  rw [← hu2] at HZ ⊢
  clear hu2 o0 o1 o2 o3 o4 of
  obtain ⟨kO, F, kR⟩ := HZ.out
  obtain ⟨o0, o1, o2, o3, o4⟩ := kO.cs
  obtain ⟨r0, r1, r2, r3, r4⟩ := kR.cs
  have rf := fun i => kR.free i
  have z2 : OwZ (((((u2.setCell ⟨w.heap.size + 1, 0, none⟩ (.int .i64 g)).setCell ⟨w.heap.size + 1, 1, none⟩ (.int .i64 f)).setCell ⟨w.heap.size + 1, 2, none⟩ (.int .i64 l)).setCell ⟨w.heap.size + 1, 3, none⟩ (.int .i64 s)).setCell ⟨w.heap.size + 1, 4, none⟩ (.int .i64 p)) (w.heap.size + 1) #[.int .i64 g, .int .i64 f, .int .i64 l, .int .i64 s, .int .i64 p] := heap_setCell_same _ _ 4 _ _ _ (heap_setCell_same _ _ 3 _ _ _ (heap_setCell_same _ _ 2 _ _ _ (heap_setCell_same _ _ 1 _ _ _ (heap_setCell_same _ _ 0 _ _ _ kR))))
  have g2 := grown_trans (grown_trans (grown_trans (grown_trans (grown_set u2 (w.heap.size + 1) 0 (.int .i64 g)) (grown_set _ (w.heap.size + 1) 1 (.int .i64 f))) (grown_set _ (w.heap.size + 1) 2 (.int .i64 l))) (grown_set _ (w.heap.size + 1) 3 (.int .i64 s))) (grown_set _ (w.heap.size + 1) 4 (.int .i64 p))
  obtain ⟨s0, s1, s2, s3, s4⟩ := z2.cs
  clear z2 kO kR
  go_wp2_with fail
  refine bodyPost_ret (v := .agg #[.int .i64 g, .int .i64 f, .int .i64 l, .int .i64 s, .int .i64 p]) (by simp [results, Try.results47, go_sem, s0, s1, s2, s3, s4]) rfl ⟨rfl, ?_⟩
  exact F.then g2 (fun j e => by cases e; omega)
end Go.Proofs.Ytkfcchapfklpgaa
