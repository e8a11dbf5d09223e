/-
  A watch: whose burst; a new one; a step.
-/
import Derived.Test.YtkfcchapfklpgaaPackAI
import Derived.Deep.RegionHeld3
import Derived.RangeFuncNested
import Derived.RangeFuncBound
import Derived.RangeFuncCalls
import Derived.RangeFuncLeaves
import Derived.RangeFuncGives
import Derived.RangeFuncSeq
import Derived.RangeFuncOwn
import Derived.Shelf.SlIterI.Keys
import Derived.Shelf.SlIter.Collect
import Derived.Maps.AppendAt
namespace Go.Proofs.Ytkfcchapfklpgaa
open Go.RowKit

theorem MapO.cong {w : World} {b n : Nat} {os os' : List Ow} {V : Int → Int → Value} (h : MapO w b n os V) (he : ∀ i j, (getO os' i j).isSome = (getO os i j).isSome) : MapO w b n os' V := by
  obtain ⟨D, h1, h2⟩ := h
  exact ⟨D, h1, fun g f z hg hf => by rw [he]; exact h2 g f z hg hf⟩
/-- Their burst is moved on. -/
theorem WatW.step {lo : Nat} {w w' : World} {wb mb : Nat} {c : Cf} {x : Value} {s : Smp} {B : Int → Int → Nat} {N : Nat} (h : WatW lo w wb mb c x s B N) (hr : RisO s.os) {g f : Int} {b b' : Bu} (hm : getO s.os g f = some b) (hb : BuZ w' (B g f) #[.int .i64 b'.l, .int .i64 b'.s, .int .i64 b'.g]) (k : w.grownBy w' (some (B g f))) : WatW lo w' wb mb c x ⟨putO s.os ⟨g, f, b'⟩, s.p, s.u⟩ B N := by
  have hmem := getO_some hm
  obtain ⟨n1, n2⟩ := h.ne
  obtain ⟨n3, n4⟩ := n2 _ hmem
  simp only at n3 n4
  refine ⟨h.box.keep k (by simpa using n3), (h.map.keep k (by simp only [ne_eq, Option.some.injEq]; omega)).cong fun i j => ?_, fun o ho => ?_, fun o ho q hq e => ?_, h.low.1, h.low.2.1, fun o ho => ?_⟩
  · simp only
    rw [putO_get hr]
    by_cases e : samB ⟨g, f, b'⟩ i j = true
    · rw [if_pos e]
      obtain ⟨rfl, rfl⟩ := samB_true.1 e
      rw [hm]; rfl
    · rw [if_neg e]
  · rcases putO_old hr ho with rfl | ⟨ho', hne⟩
    · exact hb
    · refine (h.bur o ho').keep k ?_
      simp only [ne_eq, Option.some.injEq]
      intro e
      exact hne ⟨(h.inj o ho' _ hmem e.symm).1, (h.inj o ho' _ hmem e.symm).2⟩
  · have key : ∀ o ∈ putO s.os ⟨g, f, b'⟩, ∃ o' ∈ s.os, o'.g = o.g ∧ o'.f = o.f := fun o ho => by
      rcases putO_old hr ho with rfl | ⟨ho', -⟩
      · exact ⟨_, hmem, rfl, rfl⟩
      · exact ⟨o, ho', rfl, rfl⟩
    obtain ⟨o', ho', e1, e2⟩ := key o ho
    obtain ⟨q', hq', e3, e4⟩ := key q hq
    rw [← e1, ← e2, ← e3, ← e4] at e
    have := h.inj o' ho' q' hq' e
    omega
  · rcases putO_old hr ho with rfl | ⟨ho', -⟩
    · exact h.low.2.2 ⟨g, f, b⟩ hmem
    · exact h.low.2.2 o ho'
/-- A burst of their own is put. -/
theorem WatW.put {lo : Nat} {w w1 w2 : World} {wb mb : Nat} {c : Cf} {x : Value} {s : Smp} {B : Int → Int → Nat} {N M p : Nat} (h : WatW lo w wb mb c x s B N) {g f : Int} {b : Bu} (hm : getO s.os g f = none) (k1 : Fr w w1) (hb : BuZ w1 p #[.int .i64 b.l, .int .i64 b.s, .int .i64 b.g]) (hp : w.heap.size ≤ p) (hlo : lo ≤ w.heap.size)
    (hM : MapO w2 mb M (putO s.os ⟨g, f, b⟩) (fun i j => if i = g ∧ j = f then lbV c p else lbV c (B i j))) (k2 : w1.grownBy w2 (some mb)) : WatW lo w2 wb mb c x ⟨putO s.os ⟨g, f, b⟩, s.p, s.u⟩ (fun i j => if i = g ∧ j = f then p else B i j) M := by
  obtain ⟨n1, n2⟩ := h.ne
  have hmb := h.map.lt
  have hold : ∀ o ∈ s.os, ¬ (o.g = g ∧ o.f = f) := getO_none.1 hm
  refine ⟨(h.box.fr k1).keep k2 (by simp only [ne_eq, Option.some.injEq]; omega), ?_, fun o ho => ?_, fun o ho q hq e => ?_, h.low.1, h.low.2.1, fun o ho => ?_⟩
  · have e : (fun i j => lbV c (if i = g ∧ j = f then p else B i j)) = (fun i j => if i = g ∧ j = f then lbV c p else lbV c (B i j)) := by
      funext i j
      by_cases q : i = g ∧ j = f
      · rw [if_pos q, if_pos q]
      · rw [if_neg q, if_neg q]
    rw [e]
    exact hM
  · rcases putO_mem ho with rfl | ho'
    · simp only [and_self, if_true]
      exact hb.keep k2 (by simp only [ne_eq, Option.some.injEq]; omega)
    · simp only [if_neg (hold o ho')]
      exact ((h.bur o ho').fr k1).keep k2 (by have := (n2 o ho').2; simp only [ne_eq, Option.some.injEq]; omega)
  · have hlt := fun o ho => (h.bur o ho).lt
    rcases putO_mem ho with rfl | ho' <;> rcases putO_mem hq with rfl | hq'
    · exact ⟨rfl, rfl⟩
    · simp only [and_self, if_true, if_neg (hold q hq')] at e
      have := hlt q hq'
      omega
    · simp only [and_self, if_true, if_neg (hold o ho')] at e
      have := hlt o ho'
      omega
    · simp only [if_neg (hold o ho'), if_neg (hold q hq')] at e
      exact h.inj o ho' q hq' e
  · rcases putO_mem ho with rfl | ho'
    · simp only [and_self, if_true]
      omega
    · simp only [if_neg (hold o ho')]
      exact h.low.2.2 o ho'

/-- What is written into another block is nothing to it. -/
theorem WatW.past {lo : Nat} {w w' : World} {wb mb k : Nat} {c : Cf} {x : Value} {s : Smp} {B : Int → Int → Nat} {N : Nat} {cs : Array Value} (h : WatW lo w wb mb c x s B N) (g : w.grownBy w' (some k)) (hk : w.heap[k]? = some (.cells cs 93 (0, 0))) : WatW lo w' wb mb c x s B N := by
  have n1 : k ≠ mb := h.map.ne hk
  have n2 : k ≠ wb := fun e => by
    have h2 := h.box
    unfold WtZ at h2
    rw [← e, hk] at h2
    exact absurd (Obj.cells.inj (Option.some.inj h2)).2.1 (by decide)
  refine ⟨h.box.keep g (by simp only [ne_eq, Option.some.injEq]; omega), h.map.keep g (by simp only [ne_eq, Option.some.injEq]; omega), fun o ho => (h.bur o ho).keep g (fun e => ?_), h.inj, h.low⟩
  simp only [Option.some.injEq] at e
  have h2 := h.bur o ho
  unfold BuZ at h2
  rw [← e, hk] at h2
  exact absurd (Obj.cells.inj (Option.some.inj h2)).2.1 (by decide)
theorem zeroLb (w : World) : (zeroValue 93).run Try.prog w = .ok (.agg #[.pointer none, .nilFunc]) w := by kernel_rfl
/-- The question of a map, in whatever world that goes on. -/
theorem WatW.asks {lo : Nat} {w : World} {wb mb : Nat} {c : Cf} {x : Value} {s : Smp} {B : Int → Int → Nat} {N : Nat} (h : WatW lo w wb mb c x s B N) {g f : Int} (hg : I64 g) (hf : I64 f) : ∀ u, Fr w u → (Instr.lookup 88 (.map (some mb)) (.agg #[.int .i64 g, .int .i64 f]) true).run Try.prog u = .ok (.tuple #[if (getO s.os g f).isSome then lbV c (B g f) else .agg #[.pointer none, .nilFunc], .bool (getO s.os g f).isSome]) u := fun u k =>
  (h.fr k).map.look_ok Try.underlying88 (zeroLb u) hg hf

set_option maxRecDepth 20000 in
set_option maxHeartbeats 2000000 in
theorem burstOf_has {lo : Nat} {w : World} {wb mb : Nat} {c : Cf} {x : Value} {s : Smp} {B : Int → Int → Nat} {N : Nat} (h : WatW lo w wb mb c x s B N) {g f : Int} (hg : I64 g) (hf : I64 f) (hs : (getO s.os g f).isSome = true) :
    Calls Try.prog 61 #[.pointer (some ⟨wb, 0, none⟩), .agg #[.int .i64 g, .int .i64 f]] w fun e w' => e = .returned (lbV c (B g f)) ∧ Fr w w' := by
  have HL := h.asks hg hf
  rw [hs] at HL
  simp only [if_true] at HL
  obtain ⟨SA, hSA⟩ : ∃ SA, lbV c (B g f) = .agg #[.pointer (some ⟨B g f, 0, none⟩), .func (.func 75) SA #[]] := ⟨_, rfl⟩
  obtain ⟨P, hP⟩ : ∃ P, P = B g f := ⟨_, rfl⟩
  rw [hSA] at HL ⊢
  rw [← hP] at HL ⊢
  clear hSA hP
  have HL : Hid _ := HL
  have fA := Fr.alloc w (.cells #[.int .i64 g, .int .i64 f] 74)
  have hs1 : (w.alloc (.cells #[.int .i64 g, .int .i64 f] 74)).heap.size = w.heap.size + 1 := by simp
  have fB := Fr.alloc (w.alloc (.cells #[.int .i64 g, .int .i64 f] 74)) (.cells #[.pointer none, .nilFunc] 93)
  have kO : KyZ (w.alloc (.cells #[.int .i64 g, .int .i64 f] 74)) w.heap.size 74 #[.int .i64 g, .int .i64 f] := heap_alloc_new _ _
  have kR : KyZ ((w.alloc (.cells #[.int .i64 g, .int .i64 f] 74)).alloc (.cells #[.pointer none, .nilFunc] 93)) (w.heap.size + 1) 93 #[.pointer none, .nilFunc] := by
    have := heap_alloc_new (w.alloc (.cells #[.int .i64 g, .int .i64 f] 74)) (.cells #[.pointer none, .nilFunc] 93)
    rwa [hs1] at this
  replace kO := kO.fr fB
  have fW := fA.trans fB
  have hm := (h.fr fW).box.cm
  clear h fA fB hs1 hs
  go_enter Try.func61, Try.ntmps61
  go_wp2_with fail
  obtain ⟨W, hW⟩ : ∃ W, W = (w.alloc (.cells #[.int .i64 g, .int .i64 f] 74)).alloc (.cells #[.pointer none, .nilFunc] 93) := ⟨_, rfl⟩
  rw [← hW] at fW kO kR hm ⊢
  clear hW
  have o0 := kO.c0
  have o1 := kO.c1
  have l1 := HL.out _ (fW.trans (Fr.drew W))
  have l2 := HL.out _ ((fW.trans (Fr.alloc W (.cells #[.pointer none, .nilFunc] 93))).trans (Fr.drew _))
  go_region_held3 (fun u => u.cell? ⟨wb, 22, none⟩ = some (.map (some mb)) ∧ u.cell? ⟨w.heap.size, 0, none⟩ = some (.int .i64 g) ∧ u.cell? ⟨w.heap.size, 1, none⟩ = some (.int .i64 f)) (go_keep) (fail)
  all_goals (
    clear l1 l2 HL o0 o1 hm kO
    obtain ⟨V, hV⟩ : ∃ V, V = (W.alloc (.cells #[.pointer (some ⟨P, 0, none⟩), .func (.func 75) SA #[]] 93)).drew := ⟨_, rfl⟩
    have fA : Fr W V := by rw [hV]; exact (Fr.alloc _ _).trans (Fr.drew _)
    have fV : Fr w V := fW.trans fA
    have kV : KyZ V W.heap.size 93 #[.pointer (some ⟨P, 0, none⟩), .func (.func 75) SA #[]] := by rw [hV]; exact heap_alloc_new W _
    have y0 := kV.c0
    have y1 := kV.c1
    have kR := kR.fr fA
    have r0 := kR.c0
    have r1 := kR.c1
    have rf := fun i => kR.free i
    rw [← hV]
    clear hV fA kV
    have z := (kR.set0 (.pointer (some ⟨P, 0, none⟩))).set1 (.func (.func 75) SA #[])
    have gr := grown_trans (grown_set V (w.heap.size + 1) 0 (.pointer (some ⟨P, 0, none⟩))) (grown_set _ (w.heap.size + 1) 1 (.func (.func 75) SA #[]))
    have z0 := z.c0
    have z1 := z.c1
    clear z kR
    go_wp2_with fail
    refine bodyPost_ret (v := .agg #[.pointer (some ⟨P, 0, none⟩), .func (.func 75) SA #[]]) (by simp [results, Try.results61, go_sem, z0, z1]) rfl ⟨rfl, ?_⟩
    exact fV.then gr (by intro j hj; cases hj; omega))
theorem wp_mapput {o : Oper} {a : Act} {u w' : World} {K : Act → World → Prop} {Q : Exit → Act → World → Prop} (t : TypeId) (m x v : Operand) (ho : o.op = .mapUpdate t m x v) (hrun : (Instr.mapUpdate t (a.eval m) (a.eval x) (a.eval v)).run Try.prog u = .ok () w') (hK : K (a.put o.dst undef) w') : o.wp Try.prog a u K Q := by
  unfold Oper.wp execOp
  simp [ho, hrun, Result.andThen]
  exact hK

set_option maxRecDepth 20000 in
set_option maxHeartbeats 4000000 in
theorem burstOf_new {lo : Nat} {w : World} {wb mb : Nat} {c : Cf} {x : Value} {s : Smp} {B : Int → Int → Nat} {N : Nat} (h : WatW lo w wb mb c x s B N) (hr : RisO s.os) (hlo : lo ≤ w.heap.size) (hN : N < 1000000) {g f : Int} (hg : I64 g) (hf : I64 f) (hn : getO s.os g f = none) :
    Calls Try.prog 61 #[.pointer (some ⟨wb, 0, none⟩), .agg #[.int .i64 g, .int .i64 f]] w fun e w' => ∃ p, e = .returned (lbV c p) ∧ WatW lo w' wb mb c x ⟨putO s.os ⟨g, f, nwB c⟩, s.p, s.u⟩ (fun i j => if i = g ∧ j = f then p else B i j) (N + 1) ∧ w.grownBy w' (some mb) := by
  have HL := h.asks hg hf
  rw [hn] at HL
  simp only [Option.isSome_none, Bool.false_eq_true, if_false] at HL
  have HL : Hid _ := HL
  have HW : Hid (WatW lo w wb mb c x s B N) := h
  have HG : Hid (I64 g ∧ I64 f ∧ getO s.os g f = none ∧ lo ≤ w.heap.size ∧ N < 1000000 ∧ RisO s.os) := ⟨hg, hf, hn, hlo, hN, hr⟩
  have fA := Fr.alloc w (.cells #[.int .i64 g, .int .i64 f] 74)
  have hs1 : (w.alloc (.cells #[.int .i64 g, .int .i64 f] 74)).heap.size = w.heap.size + 1 := by simp
  have fB := Fr.alloc (w.alloc (.cells #[.int .i64 g, .int .i64 f] 74)) (.cells #[.pointer none, .nilFunc] 93)
  have kO : KyZ (w.alloc (.cells #[.int .i64 g, .int .i64 f] 74)) w.heap.size 74 #[.int .i64 g, .int .i64 f] := heap_alloc_new _ _
  have kR : KyZ ((w.alloc (.cells #[.int .i64 g, .int .i64 f] 74)).alloc (.cells #[.pointer none, .nilFunc] 93)) (w.heap.size + 1) 93 #[.pointer none, .nilFunc] := by
    have := heap_alloc_new (w.alloc (.cells #[.int .i64 g, .int .i64 f] 74)) (.cells #[.pointer none, .nilFunc] 93)
    rwa [hs1] at this
  replace kO := kO.fr fB
  have fW := fA.trans fB
  have hm := (h.fr fW).box.cm
  have hwz : ((w.alloc (.cells #[.int .i64 g, .int .i64 f] 74)).alloc (.cells #[.pointer none, .nilFunc] 93)).heap.size = w.heap.size + 2 := by simp
  clear h fA fB hs1 hg hf hn hlo hN hr
  go_enter Try.func61, Try.ntmps61
  go_wp2_with fail
  obtain ⟨W, hW⟩ : ∃ W, W = (w.alloc (.cells #[.int .i64 g, .int .i64 f] 74)).alloc (.cells #[.pointer none, .nilFunc] 93) := ⟨_, rfl⟩
  rw [← hW] at fW kO kR hm hwz ⊢
  clear hW
  have HZ : Hid (W.heap.size = w.heap.size + 2) := hwz
  clear hwz
  have o0 := kO.c0
  have o1 := kO.c1
  have l1 := HL.out _ (fW.trans (Fr.drew W))
  have l2 := HL.out _ ((fW.trans (Fr.alloc W (.cells #[.pointer none, .nilFunc] 93))).trans (Fr.drew _))
  go_region_held3 (fun u => u.cell? ⟨wb, 22, none⟩ = some (.map (some mb)) ∧ u.cell? ⟨w.heap.size, 0, none⟩ = some (.int .i64 g) ∧ u.cell? ⟨w.heap.size, 1, none⟩ = some (.int .i64 f)) (go_keep) (fail)
  all_goals (
    clear l1 l2 HL o0 o1 hm
    obtain ⟨V, hV⟩ : ∃ V, V = (W.alloc (.cells #[.pointer none, .nilFunc] 93)).drew := ⟨_, rfl⟩
    have fA : Fr W V := by rw [hV]; exact (Fr.alloc _ _).trans (Fr.drew _)
    have fV : Fr w V := fW.trans fA
    have kV : KyZ V W.heap.size 93 #[.pointer none, .nilFunc] := by rw [hV]; exact heap_alloc_new W _
    replace kR := kR.fr fA
    replace kO := kO.fr fA
    rw [← hV]
    clear hV fA
    obtain ⟨K, hK⟩ : ∃ K, K = W.heap.size := ⟨_, rfl⟩
    rw [← hK] at kV ⊢
    have HK : Hid (K = w.heap.size + 2) := by rw [hK]; exact HZ.out
    clear hK fW HZ
    go_wp2_with fail
    have HV : Hid (Fr w V) := fV
    have aC := (HW.out.fr fV).box.cf
    have cN := fun u => nwB_impl c u
    have cL := fun u => longBurst_any c (nwB c) u
    obtain ⟨NB, hNB⟩ : ∃ NB, NB = nwB c := ⟨_, rfl⟩
    have HB : Hid (NB = nwB c) := hNB
    rw [← hNB] at cL
    simp only [← hNB] at cN
    clear hNB
    have cL : ∀ u, Calls Try.prog 58 #[.agg #[.int .i64 c.r, .int .i64 c.s, .int .i64 c.b, .int .i64 c.m, .int .i64 c.q, .int .i64 c.c, .int .i64 c.w], .agg #[.int .i64 NB.l, .int .i64 NB.s, .int .i64 NB.g]] u fun e w' => ∃ p SA, e = .returned (.agg #[.pointer (some ⟨p, 0, none⟩), .func (.func 75) SA #[]]) ∧ Hid (.agg #[.pointer (some ⟨p, 0, none⟩), .func (.func 75) SA #[]] = lbV c p) ∧ BuZ w' p #[.int .i64 NB.l, .int .i64 NB.s, .int .i64 NB.g] ∧ u.heap.size ≤ p ∧ Fr u w' := fun u => (cL u).mono fun e w' ⟨p, h1, h2, h3, h4⟩ => ⟨p, _, h1, rfl, h2, h3, h4⟩
    obtain ⟨k0, k1, k2, k3, k4, k5, k6⟩ := aC
    simp only [Nat.reduceAdd] at k0 k1 k2 k3 k4 k5 k6
    have p0 : ∀ s : Later V, s.u.cell? ⟨wb, 14, none⟩ = some (.int .i64 c.r) := fun s => s.fr.cell k0
    have p1 : ∀ s : Later V, s.u.cell? ⟨wb, 15, none⟩ = some (.int .i64 c.s) := fun s => s.fr.cell k1
    have p2 : ∀ s : Later V, s.u.cell? ⟨wb, 16, none⟩ = some (.int .i64 c.b) := fun s => s.fr.cell k2
    have p3 : ∀ s : Later V, s.u.cell? ⟨wb, 17, none⟩ = some (.int .i64 c.m) := fun s => s.fr.cell k3
    have p4 : ∀ s : Later V, s.u.cell? ⟨wb, 18, none⟩ = some (.int .i64 c.q) := fun s => s.fr.cell k4
    have p5 : ∀ s : Later V, s.u.cell? ⟨wb, 19, none⟩ = some (.int .i64 c.c) := fun s => s.fr.cell k5
    have p6 : ∀ s : Later V, s.u.cell? ⟨wb, 20, none⟩ = some (.int .i64 c.w) := fun s => s.fr.cell k6
    have hne := Later.some V
    clear k0 k1 k2 k3 k4 k5 k6 fV
    refine wp_region_force (C := fun w' => ∃ s : Later V, w' = s.u) (C2 := fun w' => ∃ p SA, Hid (.agg #[.pointer (some ⟨p, 0, none⟩), .func (.func 75) SA #[]] = lbV c p) ∧ BuZ w' p #[.int .i64 NB.l, .int .i64 NB.s, .int .i64 NB.g] ∧ V.heap.size ≤ p ∧ KyZ w' K 93 #[.pointer (some ⟨p, 0, none⟩), .func (.func 75) SA #[]] ∧ V.grownBy w' (some K)) 11 1 (by kernel_rfl) (by kernel_rfl) ⟨⟨V.drew, Fr.drew V⟩, rfl⟩ ?_
    simp only [List.take_succ_cons, List.take_zero, List.drop_succ_cons, List.drop_zero]
    repeat (go_big_quiet_step (first | with_reducible exact Calls.grown_of (cN _)))
    refine wpQuiet_nil ?_
    rintro _ ⟨σ, rfl⟩
    refine ⟨rfl, ?_⟩
    go_simp
    refine (cL _).mono ?_
    rintro e u2 ⟨p, SA, rfl, HS, hb, hp, fp⟩
    refine ⟨rfl, ?_⟩
    have kz := (kV.fr σ.fr).fr fp
    refine wp_store_row 93 (.tmp 5) (.tmp 29) rfl K #[.pointer (some ⟨p, 0, none⟩), .func (.func 75) SA #[]] rfl rfl 93 _ kz (by kernel_rfl) rfl (by simp [Value.oneCell']) ?_
    refine ⟨⟨p, SA, HS, hb.keep (LcZ.grown u2 K _) ?_, by have := σ.fr.size; omega, kz.setRow, ?_⟩, ?_⟩
    · have := hb.lt
      have := kV.lt
      have := σ.fr.size
      simp only [ne_eq, Option.some.injEq]
      omega
    · exact grown_trans (σ.fr.trans fp).wide (LcZ.grown u2 K _)
    refine wpQuiet_nil ?_
    rintro w3 ⟨p', SA', HS, hb, hp, kz, gV⟩
    simp only [Act.put]
    obtain ⟨hg, hf, hn, hlo, hN, hr⟩ := HG.out
    have hKz := HK.out
    have hVz := HV.out.size
    have f3 : Fr w w3 := HV.out.then gV (fun j e => by cases e; omega)
    replace kO := kO.keep gV (by simp only [ne_eq, Option.some.injEq]; omega)
    replace kR := kR.keep gV (by simp only [ne_eq, Option.some.injEq]; omega)
    have hm := (HW.out.fr f3).box.cm
    have o0 := kO.c0
    have o1 := kO.c1
    have z0 := kz.c0
    have z1 := kz.c1
    have HF : Hid (Fr w w3 ∧ BuZ w3 p' #[.int .i64 NB.l, .int .i64 NB.s, .int .i64 NB.g] ∧ w.heap.size ≤ p' ∧ NB = nwB c ∧ w.heap.size + 2 = K) := ⟨f3, hb, by omega, HB.out, HK.out.symm⟩
    clear hg hf hn hlo hN hr hKz hVz f3 hb hp kV gV p0 p1 p2 p3 p4 p5 p6 fp hne cL cN HB HK HV kO
    go_wp2_with fail
    have q0 : ∀ s : Later w3, s.u.cell? ⟨wb, 22, none⟩ = some (.map (some mb)) := fun s => s.fr.cell hm
    have q1 : ∀ s : Later w3, s.u.cell? ⟨w.heap.size, 0, none⟩ = some (.int .i64 g) := fun s => s.fr.cell o0
    have q2 : ∀ s : Later w3, s.u.cell? ⟨w.heap.size, 1, none⟩ = some (.int .i64 f) := fun s => s.fr.cell o1
    have q3 : ∀ s : Later w3, s.u.cell? ⟨K, 0, none⟩ = some (.pointer (some ⟨p', 0, none⟩)) := fun s => s.fr.cell z0
    have q4 : ∀ s : Later w3, s.u.cell? ⟨K, 1, none⟩ = some (.func (.func 75) SA' #[]) := fun s => s.fr.cell z1
    have hne := Later.some w3
    clear hm o0 o1 z0 z1
    refine wp_region_force (C := fun w' => ∃ s : Later w3, w' = s.u) (C2 := fun w' => WatW lo w' wb mb c x ⟨putO s.os ⟨g, f, nwB c⟩, s.p, s.u⟩ (fun i j => if i = g ∧ j = f then p' else B i j) (N + 1) ∧ w.grownBy w' (some mb) ∧ KyZ w' K 93 #[.pointer (some ⟨p', 0, none⟩), .func (.func 75) SA' #[]] ∧ KyZ w' (w.heap.size + 1) 93 #[.pointer none, .nilFunc]) 6 0 (by kernel_rfl) (by kernel_rfl) ⟨⟨w3.drew, Fr.drew w3⟩, rfl⟩ ?_
    simp only [List.take_succ_cons, List.take_zero, List.drop_succ_cons, List.drop_zero]
    repeat (go_big_quiet_step (fail))
    refine wpQuiet_nil ?_
    rintro _ ⟨σ, rfl⟩
    refine ⟨rfl, ?_⟩
    obtain ⟨hg, hf, hn, hlo, hN, hr⟩ := HG.out
    obtain ⟨f3, hb, hp, hB, hK⟩ := HF.out
    have fs := f3.trans σ.fr
    obtain ⟨w4, hrun, hM, g4⟩ := (HW.out.fr fs).map.put (os' := putO s.os ⟨g, f, nwB c⟩) Try.underlying88 (by unfold maxLen; omega) hg hf (.agg #[.pointer (some ⟨p', 0, none⟩), .func (.func 75) SA' #[]]) (fun i j => by
      rw [putO_get hr]
      by_cases e : i = g ∧ j = f
      · obtain ⟨rfl, rfl⟩ := e
        rw [if_pos (samB_true.2 ⟨rfl, rfl⟩)]
        simp
      · rw [if_neg (by rw [samB_true]; simp only; omega), decide_eq_false e, Bool.false_or])
    have hml := (HW.out).map.lt
    refine wp_mapput 88 (.tmp 33) (.tmp 34) (.tmp 35) rfl hrun ?_
    refine ⟨⟨?_, ?_, (kz.fr σ.fr).keep g4 (by simp only [ne_eq, Option.some.injEq]; omega), (kR.fr σ.fr).keep g4 (by simp only [ne_eq, Option.some.injEq]; omega)⟩, ?_⟩
    · rw [HS.out] at hM
      exact HW.out.put hn fs (by rw [← hB]; exact hb.fr σ.fr) hp hlo hM g4
    · exact grown_trans fs.wide g4
    refine wpQuiet_nil ?_
    rintro w5 ⟨hW5, g5, kz5, kR5⟩
    simp only [Act.put]
    have HE : Hid (WatW lo w5 wb mb c x ⟨putO s.os ⟨g, f, nwB c⟩, s.p, s.u⟩ (fun i j => if i = g ∧ j = f then p' else B i j) (N + 1) ∧ w.grownBy w5 (some mb) ∧ K = w.heap.size + 2 ∧ wb < w.heap.size ∧ mb < w.heap.size ∧ lo ≤ w.heap.size) := ⟨hW5, g5, hK.symm, HW.out.box.lt, hml, hlo⟩
    clear hrun hM g4 fs f3 hb hp hB hK hml hg hf hn hlo hN hr q0 q1 q2 q3 q4 hne kz kR hW5 g5 HF HG HW HL
    have y0 := kz5.c0
    have y1 := kz5.c1
    have r0 := kR5.c0
    have r1 := kR5.c1
    have rf := fun i => kR5.free i
    have z := (kR5.set0 (.pointer (some ⟨p', 0, none⟩))).set1 (.func (.func 75) SA' #[])
    have gr := grown_trans (grown_set w5 (w.heap.size + 1) 0 (.pointer (some ⟨p', 0, none⟩))) (grown_set _ (w.heap.size + 1) 1 (.func (.func 75) SA' #[]))
    have z0 := z.c0
    have z1 := z.c1
    clear z
    go_wp2_with fail
    refine bodyPost_ret (v := .agg #[.pointer (some ⟨p', 0, none⟩), .func (.func 75) SA' #[]]) (by simp [results, Try.results61, go_sem, z0, z1]) rfl ⟨p', by rw [HS.out], ?_, ?_⟩
    · obtain ⟨h1, h2, h3, h4, h5, h6⟩ := HE.out
      exact h1.past gr (by have := kR5; unfold KyZ at this; exact this)
    · obtain ⟨h1, h2, h3, h4, h5, h6⟩ := HE.out
      refine ⟨gr.os.trans h2.os, gr.tape.trans h2.tape, gr.output.trans h2.output, Nat.le_trans h2.size gr.size, fun i hi hne => ?_⟩
      exact (gr.block i (Nat.lt_of_lt_of_le hi h2.size) (fun q => by cases q; omega)).trans (h2.block i hi hne))
end Go.Proofs.Ytkfcchapfklpgaa
/-
  A range over a function whose rounds never leave: the iterator's contract is handed what a round does, and says itself what lies behind.
-/
namespace Go.Proofs.Ytkfcchapfklpgaa
open Go.RowKit

/-- A round ends by itself. -/
def goesOn (R : World → Prop) : Exit → Act → World → Prop
  | .normal, _, W' => R W'
  | _, _, _ => False

theorem wpIn_range {F : Fence} {n : Nat} {P : Program} {α : Type} {g : Operand} {ps : Array Tmp} {assign body : Code} {Q : Exit → Act → World → Prop} {a : Act} {w : World}
    (hro : F.round = none) (h1 : 1 ≤ n) {gf : Nat} {lb : Array Value} (hg : a.eval g = .func (.func gf) #[] lb) (hFg : F.fn gf) (eg : ∀ args w, (callFunc gf args).run P w = .ok (.enter gf args) w)
    (encs : α → Array Value) (hps : ∀ x, (encs x).size = ps.size) (Pre : α → World → Prop) (Post : α → World → World → Prop) (Fin : World → Prop) (a₁ : α → Act)
    (hassign : ∀ (l : Nat) (x : α) (W : World) (K : Act → World → Prop), K (a₁ x) W →
      assign.wpIn (F.inRound l) (n - 1 - 1) P (Exit.then K (fun _ _ _ => False)) { tmps := (ps.zip (encs x)).foldl (fun t (p, v) => t.setIfInBounds p v) a.tmps, defers := [] } W)
    (hbody : ∀ (l : Nat) (x : α) (W : World), Pre x W → body.wpIn (F.inRound l) (n - 1 - 1) P (goesOn (fun W' => KeepsOthers W W' ∧ Post x W W')) (a₁ x) W)
    (hPre : ∀ (x : α) (W : World) (o o' : Obj), W.heap[w.heap.size + 1]? = some o → Pre x W → Pre x (W.putObj (w.heap.size + 1) o'))
    (hPost : ∀ (x : α) (W W3 : World) (o1 o3 : Obj), Post x (W.putObj (w.heap.size + 1) o1) W3 → Post x W (W3.putObj (w.heap.size + 1) o3))
    (hit : ∀ (W1 : World) (Rec : World → Prop), Below w.heap.size w W1 → W1.heap.size = w.heap.size + 2 → Rec W1 → (∀ A B : World, Rec A → B.heap[w.heap.size]? = A.heap[w.heap.size]? → B.heap[w.heap.size + 1]? = A.heap[w.heap.size + 1]? → Rec B) → (∀ A, Rec A → w.heap.size + 1 < A.heap.size) →
      (∀ x W, Rec W → Pre x W → YieldAt F (n - 1 - 1) P (w.heap.size + 1) (encs x) W fun e W' => e = .returned (.bool true) ∧ Rec W' ∧ Post x W W') →
      CallsIn F (n - 1) P gf (#[.func (.yield (w.heap.size + 1)) #[] #[]] ++ lb) W1 fun e W' => (∃ v, e = .returned v) ∧ Rec W' ∧ Fin W')
    (hdone : ∀ (W : World) (o : Obj), Fin W → (W.putObj (w.heap.size + 1) o).heap[w.heap.size]? = some (.deferred (some [])) → Q .normal { a with defers := { target := .collected w.heap.size, args := #[] } :: a.defers } (W.putObj (w.heap.size + 1) o)) :
    (Code.rangeFunc g ps assign body).wpIn F n P Q a w := by
  refine wpIn_rangeFunc ?_
  intro fn hfn
  rw [hro]
  obtain ⟨rec, hrec⟩ : ∃ rec : LoopState → Option Code → Loop, rec = fun st pe => { state := st, pending := pe, fn, tmps := a.tmps, params := ps, assign, body, defers := w.heap.size } := ⟨_, rfl⟩
  obtain ⟨W1, hW1⟩ : ∃ W1, (w.alloc (.deferred (some []))).alloc (.loop (rec .ready none)) = W1 := ⟨_, rfl⟩
  have hL1 : W1.heap[w.heap.size + 1]? = some (.loop (rec .ready none)) := by
    rw [← hW1]; have := World.alloc_heap_new (w.alloc (.deferred (some []))) (.loop (rec .ready none)); rwa [World.size_alloc] at this
  have hK1 : W1.heap[w.heap.size]? = some (.deferred (some [])) := by
    rw [← hW1]; exact (Below.heap_alloc _ _ _ (by simp)).trans (World.alloc_heap_new w _)
  have hb1 : Below w.heap.size w W1 := by
    rw [← hW1]; exact ((Below.refl _ w).alloc (Nat.le_refl _) _).alloc (by simp) _
  have hs1 : W1.heap.size = w.heap.size + 2 := by rw [← hW1]; simp
  refine ⟨w.heap.size + 1, [{ target := .collected w.heap.size, args := #[] }], W1, { target := .fn (.func gf) lb, args := #[.func (.yield (w.heap.size + 1)) #[] #[]] }, W1, gf,
    #[.func (.yield (w.heap.size + 1)) #[] #[]] ++ lb, W1, ?_, ?_, ?_, ?_, fun _ => h1, ?_⟩
  · rw [← hW1, hrec]; exact run_enterLoop_outer _ _ _ _ _
  · simp only [resolve, hg]
    simp [go_sem]
  · intro f' hf'; simp [Target.leads] at hf'; subst hf'; exact hFg
  · simp [invoke, go_sem, eg]
  · refine (hit W1 (fun W => W.heap[w.heap.size + 1]? = some (.loop (rec .ready none)) ∧ W.heap[w.heap.size]? = some (.deferred (some []))) hb1 hs1 ⟨hL1, hK1⟩
      (fun A B hA q1 q2 => ⟨q2.trans hA.1, q1.trans hA.2⟩) (fun A hA => (Array.getElem?_eq_some_iff.1 hA.1).1) ?_).mono ?_
    · rintro x W ⟨hl, hk⟩ hp
      have hlt : w.heap.size + 1 < W.heap.size := (Array.getElem?_eq_some_iff.1 hl).1
      have hy := run_yield (P := P) (args := encs x) hl (by rw [hrec]; exact hps x)
      rw [hrec] at hy
      refine ⟨fn, _, assign, body, hy, roundIn_of_wpIn hfn (hassign _ x W _ ⟨_, run_beginRound hl (by rw [hrec]), ?_⟩)⟩
      have hl2 : (W.putObj (w.heap.size + 1) (.loop { rec .ready none with state := .busy })).heap[w.heap.size + 1]? = some (.loop { rec .ready none with state := .busy }) := World.putObj_heap_same hlt
      have hk2 : (W.putObj (w.heap.size + 1) (.loop { rec .ready none with state := .busy })).heap[w.heap.size]? = some (.deferred (some [])) := (World.putObj_heap_other (by omega)).trans hk
      refine wpIn_mono (hbody _ x _ (hPre x W _ _ hl hp)) ?_
      rintro e a3 W3 hp3
      cases e with
      | normal =>
        obtain ⟨hk3, hpo⟩ := hp3
        have hl3 := hk3.same _ _ hl2 rfl
        have hr := run_endRound (P := P) none hl3
        rw [hrec] at hr
        have hl4 : (W3.putObj (w.heap.size + 1) (.loop (rec .ready none))).heap[w.heap.size + 1]? = some (.loop (rec .ready none)) := World.putObj_heap_same (Array.getElem?_eq_some_iff.1 hl3).1
        have hk4 : (W3.putObj (w.heap.size + 1) (.loop (rec .ready none))).heap[w.heap.size]? = some (.deferred (some [])) := (World.putObj_heap_other (by omega)).trans (hk3.same _ _ hk2 rfl)
        refine ⟨_, _, hr, rfl, ?_, ?_⟩
        · rw [hrec] at hl4 hk4 ⊢
          exact ⟨hl4, hk4⟩
        · exact hPost x W W3 _ _ hpo
      | ret => exact hp3.elim
      | exit id => exact hp3.elim
      | goto t => exact hp3.elim
      | panic ch => exact hp3.elim
      | outgrown => exact hp3.elim
    · rintro e W2 ⟨⟨v, rfl⟩, ⟨hl, hk⟩, hf⟩
      refine ⟨none, _, by have := run_endLoop (P := P) hl (by rw [hrec]; simp); rw [hrec] at this; exact this, hdone W2 _ hf ((World.putObj_heap_other (by omega)).trans hk)⟩
end Go.Proofs.Ytkfcchapfklpgaa
/-
  A range over a function whose rounds never leave, against an iterator of which one only knows what it gives; what comes is boxed.
-/
namespace Go.Proofs.Ytkfcchapfklpgaa
open Go.RowKit

theorem wpIn_seq {F : Fence} {n : Nat} {P : Program} {α : Type} {g : Operand} {ps : Array Tmp} {assign body : Code} {Q : Exit → Act → World → Prop} {a : Act} {w w0 : World}
    (hro : F.round = none) (h1 : 1 ≤ n) {gf : Nat} {lb : Array Value} (hg : a.eval g = .func (.func gf) #[] lb) (hFg : F.fn gf) (eg : ∀ args w, (callFunc gf args).run P w = .ok (.enter gf args) w)
    (enc : α → Value) (hps : ps.size = 1) (A : List α → World → Prop) (S : List α → Prop) (N : Nat) (hseq : SeqGives F (n - 1) P gf lb enc S N w0) (hw : Below w0.heap.size w0 w) (a₁ : α → Nat → Act) (o₁ : α → Obj)
    (hassign : ∀ (l : Nat) (x : α) (W : World) (K : Act → World → Prop), K (a₁ x W.heap.size) (W.alloc (o₁ x)) →
      assign.wpIn (F.inRound l) (n - 1 - 1) P (Exit.then K (fun _ _ _ => False)) { tmps := (ps.zip #[enc x]).foldl (fun t (p, v) => t.setIfInBounds p v) a.tmps, defers := [] } W)
    (hbody : ∀ (l : Nat) (ss : List α) (x : α) (p : Nat) (V : World), A ss V → ss.length < N → w.heap.size + 2 ≤ p → V.heap[p]? = some (o₁ x) → body.wpIn (F.inRound l) (n - 1 - 1) P (goesOn (fun W' => KeepsOthers V W' ∧ A (ss ++ [x]) W')) (a₁ x p) V)
    (hput : ∀ (ss : List α) (W : World) (r : Loop) (o' : Obj), W.heap[w.heap.size + 1]? = some (.loop r) → A ss W → A ss (W.putObj (w.heap.size + 1) o'))
    (hab : AbidesFrom w.heap.size A)
    (h0 : ∀ W1, Below w.heap.size w W1 → A [] W1)
    (hdone : ∀ (ss : List α) (W : World) (o : Obj) (r : Loop), S ss → A ss W → W.heap[w.heap.size + 1]? = some (.loop r) → (W.putObj (w.heap.size + 1) o).heap[w.heap.size]? = some (.deferred (some [])) → Q .normal { a with defers := { target := .collected w.heap.size, args := #[] } :: a.defers } (W.putObj (w.heap.size + 1) o)) :
    (Code.rangeFunc g ps assign body).wpIn F n P Q a w := by
  refine wpIn_rangeFunc ?_
  intro fn hfn
  rw [hro]
  obtain ⟨rec, hrec⟩ : ∃ rec : LoopState → Option Code → Loop, rec = fun st pe => { state := st, pending := pe, fn, tmps := a.tmps, params := ps, assign, body, defers := w.heap.size } := ⟨_, rfl⟩
  obtain ⟨W1, hW1⟩ : ∃ W1, (w.alloc (.deferred (some []))).alloc (.loop (rec .ready none)) = W1 := ⟨_, rfl⟩
  have hL1 : W1.heap[w.heap.size + 1]? = some (.loop (rec .ready none)) := by
    rw [← hW1]; have := World.alloc_heap_new (w.alloc (.deferred (some []))) (.loop (rec .ready none)); rwa [World.size_alloc] at this
  have hK1 : W1.heap[w.heap.size]? = some (.deferred (some [])) := by
    rw [← hW1]; exact (Below.heap_alloc _ _ _ (by simp)).trans (World.alloc_heap_new w _)
  have hb1 : Below w.heap.size w W1 := by
    rw [← hW1]; exact ((Below.refl _ w).alloc (Nat.le_refl _) _).alloc (by simp) _
  have hs1 : W1.heap.size = w.heap.size + 2 := by rw [← hW1]; simp
  have hb01 : Below w0.heap.size w0 W1 := by
    refine ⟨hb1.os.trans hw.os, hb1.tape.trans hw.tape, hb1.output.trans hw.output, Nat.le_trans hw.size (by omega), fun k hk => ?_⟩
    exact (hb1.block k (Nat.lt_of_lt_of_le hk hw.size)).trans (hw.block k hk)
  refine ⟨w.heap.size + 1, [{ target := .collected w.heap.size, args := #[] }], W1, { target := .fn (.func gf) lb, args := #[.func (.yield (w.heap.size + 1)) #[] #[]] }, W1, gf,
    #[.func (.yield (w.heap.size + 1)) #[] #[]] ++ lb, W1, ?_, ?_, ?_, ?_, fun _ => h1, ?_⟩
  · rw [← hW1, hrec]; exact run_enterLoop_outer _ _ _ _ _
  · simp only [resolve, hg]
    simp [go_sem]
  · intro f' hf'; simp [Target.leads] at hf'; subst hf'; exact hFg
  · simp [invoke, go_sem, eg]
  · refine (hseq (w.heap.size + 1) (fun ss W => A ss W ∧ W.heap[w.heap.size + 1]? = some (.loop (rec .ready none)) ∧ W.heap[w.heap.size]? = some (.deferred (some []))) W1 hb01 ?_ ?_ ⟨h0 W1 hb1, hL1, hK1⟩).mono ?_
    · rintro ss W W' row ⟨hA, hl, hk⟩ hgr hrow
      have hrow' : ∀ r, row = some r → ∃ o : Obj, W.heap[r]? = some o ∧ o.isWalk = true := fun r e => (hrow r e).2
      exact ⟨hab ss W W' row hA hgr (fun r e => ⟨by have := (hrow r e).1; omega, (hrow r e).2⟩), (grownBy_keeps hgr hrow' hl rfl).trans hl, (grownBy_keeps hgr hrow' hk rfl).trans hk⟩
    · rintro ss x W ⟨hA, hl, hk⟩ hlen
      have hlt : w.heap.size + 1 < W.heap.size := (Array.getElem?_eq_some_iff.1 hl).1
      have hy := run_yield (P := P) (args := #[enc x]) hl (by rw [hrec]; exact hps.symm)
      rw [hrec] at hy
      refine ⟨fn, _, assign, body, hy, roundIn_of_wpIn hfn (hassign _ x W _ ?_)⟩
      have hl' : (W.alloc (o₁ x)).heap[w.heap.size + 1]? = some (.loop (rec .ready none)) := (Below.heap_alloc _ _ _ hlt).trans hl
      have hk' : (W.alloc (o₁ x)).heap[w.heap.size]? = some (.deferred (some [])) := (Below.heap_alloc _ _ _ (by omega)).trans hk
      have hn' : (W.alloc (o₁ x)).heap[W.heap.size]? = some (o₁ x) := World.alloc_heap_new W _
      have hA' : A ss (W.alloc (o₁ x)) := hab ss W _ none hA (World.grownBy_alloc W _ none) (fun r e => by cases e)
      refine ⟨_, run_beginRound hl' (by rw [hrec]), ?_⟩
      have hl2 : ((W.alloc (o₁ x)).putObj (w.heap.size + 1) (.loop { rec .ready none with state := .busy })).heap[w.heap.size + 1]? = some (.loop { rec .ready none with state := .busy }) := World.putObj_heap_same (by simp; omega)
      have hk2 : ((W.alloc (o₁ x)).putObj (w.heap.size + 1) (.loop { rec .ready none with state := .busy })).heap[w.heap.size]? = some (.deferred (some [])) := (World.putObj_heap_other (by omega)).trans hk'
      have hn2 : ((W.alloc (o₁ x)).putObj (w.heap.size + 1) (.loop { rec .ready none with state := .busy })).heap[W.heap.size]? = some (o₁ x) := (World.putObj_heap_other (by omega)).trans hn'
      have hA2 := hput ss _ _ (.loop { rec .ready none with state := .busy }) hl' hA'
      have hk0 : KeepsWalks W ((W.alloc (o₁ x)).putObj (w.heap.size + 1) (.loop { rec .ready none with state := .busy })) := (KeepsWalks.alloc W _).trans (KeepsWalks.putObj _ hl' rfl)
      refine wpIn_mono (hbody _ ss x W.heap.size _ hA2 hlen (by omega) hn2) ?_
      rintro e a3 W3 hp3
      cases e with
      | normal =>
        obtain ⟨hk3, hpo⟩ := hp3
        have hl3 := hk3.same _ _ hl2 rfl
        have hr := run_endRound (P := P) none hl3
        rw [hrec] at hr
        have hl4 : (W3.putObj (w.heap.size + 1) (.loop (rec .ready none))).heap[w.heap.size + 1]? = some (.loop (rec .ready none)) := World.putObj_heap_same (Array.getElem?_eq_some_iff.1 hl3).1
        have hk4 : (W3.putObj (w.heap.size + 1) (.loop (rec .ready none))).heap[w.heap.size]? = some (.deferred (some [])) := (World.putObj_heap_other (by omega)).trans (hk3.same _ _ hk2 rfl)
        have hA4 := hput _ _ _ (.loop (rec .ready none)) hl3 hpo
        have hw4 : KeepsWalks W (W3.putObj (w.heap.size + 1) (.loop (rec .ready none))) := (hk0.trans hk3.walks).trans (KeepsWalks.putObj _ hl3 rfl)
        rw [hrec] at hl4 hk4 hA4 hw4
        exact ⟨_, _, hr, rfl, ⟨hA4, by rw [hrec]; exact hl4, hk4⟩, hw4⟩
      | ret => exact hp3.elim
      | exit id => exact hp3.elim
      | goto t => exact hp3.elim
      | panic ch => exact hp3.elim
      | outgrown => exact hp3.elim
    · rintro e W2 ⟨⟨v, rfl⟩, ss, hS, hA, hl, hk⟩
      exact ⟨none, _, by have := run_endLoop (P := P) hl (by rw [hrec]; simp); rw [hrec] at this; exact this, hdone ss W2 _ _ hS hA hl ((World.putObj_heap_other (by omega)).trans hk)⟩
end Go.Proofs.Ytkfcchapfklpgaa
/-
  The keys of a map from owners.
-/
namespace Go.Proofs.Ytkfcchapfklpgaa
open Go.RowKit Go.Maps Go.Sort Go.Shelf

/-- A pair as a key. -/
abbrev kyP (p : Int × Int) : Value := .agg #[.int .i64 p.1, .int .i64 p.2]
/-- No key twice; a key is on the list just where the map has it and it is no longer to come. -/
def CollO {H : Type} (D0 : DataW H) (left : Lit → Bool) (ss : List (Int × Int)) : Prop :=
  ss.Nodup ∧ (∀ p ∈ ss, I64 p.1 ∧ I64 p.2) ∧ ∀ g f, I64 g → I64 f → ((g, f) ∈ ss ↔ (has D0 (kyL g f) = true ∧ left (kyL g f) = false))
theorem CollO.start {H : Type} (D0 : DataW H) : CollO D0 (has D0) [] :=
  ⟨List.nodup_nil, fun p hp => by simp at hp, fun g f _ _ => by cases has D0 (kyL g f) <;> simp⟩
theorem CollO.step {H : Type} {D0 : DataW H} {left : Lit → Bool} {ss : List (Int × Int)} (h : CollO D0 left ss) {g f : Int} (hg : I64 g) (hf : I64 f) {y : DataW H} (hlk : left (kyL g f) = true) (hat : ∀ zd, D0.atKey (kyL g f) zd = y) : CollO D0 (fun z => left z && !z.sameKey (kyL g f)) (ss ++ [(g, f)]) := by
  have hhas : has D0 (kyL g f) = true := has_true_of_atKey hat
  have hnew : (g, f) ∉ ss := fun hx => by have := ((h.2.2 g f hg hf).1 hx).2; rw [hlk] at this; cases this
  refine ⟨List.nodup_append.2 ⟨h.1, by simp, fun a ha b hb => by simp at hb; subst hb; exact fun e => hnew (e ▸ ha)⟩, fun p hp => ?_, fun i j hi hj => ?_⟩
  · rcases List.mem_append.1 hp with hp | hp
    · exact h.2.1 p hp
    · simp only [List.mem_singleton] at hp
      subst hp
      exact ⟨hg, hf⟩
  · by_cases e : i = g ∧ j = f
    · obtain ⟨rfl, rfl⟩ := e
      have : (kyL i j).sameKey (kyL i j) = true := kyL_same.2 rfl
      simp [hhas, this]
    · have hs : (kyL i j).sameKey (kyL g f) = false := by
        cases hq : (kyL i j).sameKey (kyL g f)
        · rfl
        · exact absurd (kyL_same.1 hq) (kyL_ne hi hj hg hf e)
      have he : ((i, j) ∈ ss ++ [(g, f)]) ↔ (i, j) ∈ ss := by
        rw [List.mem_append, List.mem_singleton]
        constructor
        · rintro (q | q)
          · exact q
          · simp only [Prod.mk.injEq] at q
            exact absurd q e
        · exact .inl
      rw [he, h.2.2 i j hi hj]
      show _ ↔ _ ∧ (left (kyL i j) && !(kyL i j).sameKey (kyL g f)) = false
      rw [hs]
      simp
theorem CollO.perm {left : Lit → Bool} {ss : List (Int × Int)} {os : List Ow} {V : Int → Int → Value} {D : DataW Value} (h : CollO D left ss) (hD : ∀ g f z, I64 g → I64 f → D.atKey (kyL g f) z = if (getO os g f).isSome then .held (V g f) else z) (hr : RisO os) (hi : InO os) (hl : ∀ kl, left kl = false) : ss.Perm (os.map fun o => (o.g, o.f)) := by
  refine (List.perm_ext_iff_of_nodup h.1 ?_).2 fun p => ?_
  · refine List.pairwise_map.2 (hr.imp fun {p q} hh e => ?_)
    rw [ahB_true] at hh
    simp only [Prod.mk.injEq] at e
    omega
  · constructor
    · intro hp
      obtain ⟨h1, h2⟩ := h.2.1 p hp
      have := ((h.2.2 p.1 p.2 h1 h2).1 hp).1
      rw [mapO_has hD h1 h2] at this
      obtain ⟨b, hb⟩ := Option.isSome_iff_exists.1 this
      exact List.mem_map.2 ⟨_, getO_some hb, rfl⟩
    · intro hp
      obtain ⟨o, ho, rfl⟩ := List.mem_map.1 hp
      refine (h.2.2 o.g o.f (hi o ho).1 (hi o ho).2).2 ⟨?_, hl _⟩
      rw [mapO_has hD (hi o ho).1 (hi o ho).2, getO_mem hr ho]
      rfl

set_option maxRecDepth 100000 in
set_option maxHeartbeats 2000000 in
theorem keysO1_in (n : Nat) (hn : 1 ≤ n) (l Bm b nn : Nat) (os : List Ow) (V : Int → Int → Value) (J : List (Int × Int) → World → Prop)
    (hY : ∀ pre x W, J pre W → pre.length < os.length → YieldAt Fence.wide (n - 1) Try.prog l #[kyP x] W fun e W' => e = .returned (.bool true) ∧ J (pre ++ [x]) W' ∧ KeepsWalks W W')
    (W : World) (hJ : AbidesFrom W.heap.size J) (hm : W.cell? ⟨Bm, 0, none⟩ = some (.map (some b))) (hM : MapO W b nn os V) (hr : RisO os) (hi : InO os) (h0 : J [] W) :
    CallsIn Fence.wide n Try.prog 73 #[.func (.yield l) #[] #[], .pointer (some ⟨Bm, 0, none⟩)] W fun e W' => (∃ v, e = .returned v) ∧ ∃ ss : List (Int × Int), ss.Perm (os.map fun o => (o.g, o.f)) ∧ J ss W' := by
  obtain ⟨D, hown, hD⟩ := hM
  have hsz := mapO_size hown hD hr hi
  refine callsIn_of_wp Try.func73 rfl trivial ?_ rfl
  simp only [Try.ntmps73, List.size_toArray, List.length_cons, List.length_nil, Nat.reduceAdd, Nat.reduceSub, Array.replicate_succ, Array.replicate_zero, List.push_toArray, List.append_toArray, List.nil_append, List.cons_append]
  gi_wp2_with (first
    | (gi_at_range; refine wpListIn_range_own _ rfl _ 88 rfl 74 93 keyedO Try.underlying88 _ b nn _ rfl hown ?_; intro w0 hrg0 hg0 hs0)
    | gi_in)
  go_frame
  gi_loopw [3] (fun _ wr => ∃ (left : Lit → Bool) (cnt : Nat) (ss : List (Int × Int)), wr.ranges Try.prog 74 asIsO b W.heap.size nn D left cnt ∧ ss.length + cnt ≤ Maps.size D ∧ CollO D left ss ∧ J ss wr)
    (fun _ wr => wr.rangeLeft b W.heap.size)
  case atStart =>
    exact ⟨_, _, [], hrg0, by simp, CollO.start _, hJ [] W w0 none h0 hg0 (fun r e => by cases e)⟩
  case round =>
    obtain ⟨left, cnt, ss, hrg, hcs, hC, hJs⟩ := hrel
    gi_wp2_with (first
      | (gi_at_next; refine wpListIn_next_ranges _ rfl _ rfl 74 keyedO asIsO kyP id (fun key kl hk => by obtain ⟨g, f, e, -⟩ := kyInv hk; exact ⟨(g, f), e⟩) (fun v _ _ => ⟨v, rfl⟩) b W.heap.size nn _ _ _ rfl hrg ?_ ?_)
      | gi_in)
    · intro hc0 hl0
      gi_wp2
      go_end0
      exact ⟨⟨_, rfl⟩, ss, hC.perm hD hr hi hl0, hJs⟩
    · intro x1 x2 c kl yd yp w2 cnt2 hkey hlk hv hat hrg2 hlt hg2 hs2 hen
      obtain ⟨g, f, ex, rfl, hg, hf⟩ := kyInv hkey
      simp only [kyP, kyV, Value.agg.injEq, Array.mk.injEq, List.cons.injEq, Value.int.injEq, true_and, and_true] at ex
      obtain ⟨rfl, rfl⟩ := ex
      have hJ2 : J ss w2 := hJ ss wr w2 (some W.heap.size) hJs hg2 (fun r e => by cases e; exact ⟨Nat.le_refl _, hrg.iter_walk⟩)
      have hJ3 : J ss (w2.alloc (.cells #[.int .i64 x1, .int .i64 x2] 74)) := hJ ss w2 _ none hJ2 (World.grownBy_alloc w2 _ none) (fun r e => by cases e)
      have hrg3 := hrg2.of_walks (KeepsWalks.alloc w2 (.cells #[.int .i64 x1, .int .i64 x2] 74))
      have hY := hY ss (x1, x2) _ hJ3 (by omega)
      obtain ⟨fn, tmps, assign, body, hy, hR⟩ := hY
      have HC : Hid (CollO D (fun z => left z && !z.sameKey (kyL x1 x2)) (ss ++ [(x1, x2)])) := hC.step hg hf hlk hat
      clear hs2 hJ3 hJ2 hrg2 hC
      gi_wp2
      refine hR.mono ?_
      rintro e W3 ⟨rfl, hJ3, hk3⟩
      gi_wp2
      have hrg4 := hrg3.of_walks hk3
      go_roundw
      case rel => exact ⟨_, cnt2, ss ++ [(x1, x2)], hrg4, by simp; omega, HC.out, hJ3⟩
      case measure => rw [hrg4.left_eq, hrg.left_eq]; exact hlt
end Go.Proofs.Ytkfcchapfklpgaa
/-
  slices.AppendSeq and slices.Collect of owners.
-/
namespace Go.Proofs.Ytkfcchapfklpgaa
open Go.RowKit Go.Maps Go.Sort Go.Shelf

def kyC (p : Int × Int) : List Value := [.int .i64 p.1, .int .i64 p.2]
theorem MapO.below {w w' : World} {b n : Nat} {os : List Ow} {V : Int → Int → Value} (h : MapO w b n os V) (k : Below w.heap.size w w') : MapO w' b n os V := by
  have hl := h.lt
  obtain ⟨D, ⟨es, clock, hb, F, hs, hD⟩, h2⟩ := h
  exact ⟨D, ⟨es, clock, (k.block b hl).trans hb, F, hs, hD⟩, h2⟩
theorem keysO_gives (n : Nat) (hn : 1 ≤ n) (Bm b nn : Nat) (os : List Ow) (V : Int → Int → Value) (w : World) (hBm : Bm < w.heap.size) (hm : w.cell? ⟨Bm, 0, none⟩ = some (.map (some b))) (hM : MapO w b nn os V) (hr : RisO os) (hi : InO os) :
    SeqGives Fence.wide n Try.prog 73 #[.pointer (some ⟨Bm, 0, none⟩)] kyP (fun ss => ss.Perm (os.map fun o => (o.g, o.f))) os.length w := fun l J W hW hJ hY h0 =>
  keysO1_in n hn l Bm b nn os V J hY W hJ ((hW.cell (p := ⟨Bm, 0, none⟩) hBm).trans hm) (hM.below hW) hr hi h0

/-- Between two rounds: the box holds what has come. -/
structure ApO (w : World) (ss : List (Int × Int)) (W : World) : Prop where
  box : ∃ v, W.heap[w.heap.size]? = some (.cells #[v] 99 (0, 0)) ∧ W.ownsRow w.heap.size 74 2 v ss.length (ss.flatMap kyC) ∧ (v = .slice none 0 0 ↔ ss = [])
  below : Below w.heap.size w W
theorem apO_abides (w : World) (B : Nat) (hB : w.heap.size ≤ B) : AbidesFrom B (ApO w) := fun s W W' row h hg hrow => by
  have hrow' : ∀ r, row = some r → ∃ o : Obj, W.heap[r]? = some o ∧ o.isWalk = true := fun r e => (hrow r e).2
  obtain ⟨v, hv, hr, hn⟩ := h.box
  exact ⟨⟨v, (grownBy_keeps hg hrow' hv rfl).trans hv, ownsRow_abides_a hr hg hrow', hn⟩, h.below.grown hg h.below.size (fun k e => Nat.le_trans hB (hrow k e).1)⟩
theorem apO_put (w : World) (ss : List (Int × Int)) (W : World) (l : Nat) (o o' : Obj) (hl : W.heap[l]? = some o) (hno : ∀ cur t, o ≠ .cells cur t (0, 0)) (hlw : w.heap.size < l) (h : ApO w ss W) : ApO w ss (W.putObj l o') := by
  obtain ⟨v, hv, hr, hn⟩ := h.box
  have hg := grownBy_putObj_a W l o'
  exact ⟨⟨v, (World.putObj_heap_other (by omega)).trans hv, hr.kept hg (ownsRow_ne_a hr hl (fun cur => hno cur _)), hn⟩, h.below.grown hg h.below.size (fun k e => by cases e; omega)⟩

theorem tyO_ne : (99 : TypeId) ≠ 74 := by decide
theorem Try.infoO : (Try.prog.info? 74).map (fun i => (i.zero, i.size, i.bytes)) = some (some (.agg #[.int .i64 0, .int .i64 0]), 2, 16) := by kernel_rfl
theorem cell_two_new (w : World) (x y : Value) (t : TypeId) : ∀ j u, [x, y][j]? = some u → (w.alloc (.cells #[x, y] t)).cell? ((⟨w.heap.size, 0, none⟩ : Addr).add j) = some u := by
  intro j u hj
  rw [Addr.add_lit, cell_of_row _ _ _ _ _ _ (heap_alloc_new w _)]
  rcases j with _ | _ | j
  · simpa using hj
  · simpa using hj
  · simp at hj

set_option maxRecDepth 100000 in
set_option maxHeartbeats 2000000 in
theorem appSeqO_in (n : Nat) (hn : 2 ≤ n) (g : Nat) (lb : Array Value) (eg : ∀ args w, (callFunc g args).run Try.prog w = .ok (.enter g args) w)
    (S : List (Int × Int) → Prop) (N : Nat) (hN : N ≤ 1000000) (w : World) (hseq : SeqGives Fence.wide (n - 1) Try.prog g lb kyP S N w) :
    CallsIn Fence.wide n Try.prog 76 #[.slice none 0 0, .func (.func g) #[] lb] w fun e w' => ∃ (v : Value) (ss : List (Int × Int)), e = .returned v ∧ S ss ∧ w'.ownsRow w.heap.size 74 2 v ss.length (ss.flatMap kyC) ∧ (v = .slice none 0 0 ↔ ss = []) ∧ Below w.heap.size w w' := by
  refine callsIn_of_wp_marks Try.func76 rfl trivial ?_ rfl
  simp only [Try.ntmps76, List.size_toArray, List.length_cons, List.length_nil, Nat.reduceAdd, Nat.reduceSub, Array.replicate_succ, Array.replicate_zero, List.push_toArray, List.append_toArray, List.nil_append, List.cons_append]
  gi_wp2
  obtain ⟨W0, hW0⟩ : ∃ W0, w.alloc (.cells #[.slice none 0 0] 99) = W0 := ⟨_, rfl⟩
  have hs0 : W0.heap.size = w.heap.size + 1 := by rw [← hW0]; simp
  have hv0 : W0.heap[w.heap.size]? = some (.cells #[.slice none 0 0] 99 (0, 0)) := by rw [← hW0]; exact World.alloc_heap_new w _
  have hb0 : Below w.heap.size w W0 := by rw [← hW0]; exact (Below.refl _ w).alloc (Nat.le_refl _) _
  rw [hW0]
  clear hW0
  refine wpIn_seq rfl (by omega) rfl trivial eg kyP rfl (ApO w) S N hseq hb0 (fun x p => { tmps := #[.slice none 0 0, .func (.func g) #[] lb, .pointer (some ⟨w.heap.size, 0, none⟩), undef, .slice none 0 0, .pointer (some ⟨p, 0, none⟩), .func (.func g) #[] lb, kyP x, undef, undef, undef, undef, undef], defers := [] }) (fun x => .cells #[.int .i64 x.1, .int .i64 x.2] 74) ?_ ?_ ?_ ?_ ?_ ?_
  · intro l x W K hK
    gi_wp2_with gi_round_op_a
    exact hK
  · intro l ss x p V hA hlen hp hx
    obtain ⟨x1, x2⟩ := x
    obtain ⟨i0, hi, hz0, hz1, hz2⟩ := info_parts Try.infoO
    obtain ⟨⟨v, hv, hrow, hnil⟩, hbel⟩ := hA
    have hplt : p < V.heap.size := (Array.getElem?_eq_some_iff.1 hx).1
    have hwlt : w.heap.size < V.heap.size := (Array.getElem?_eq_some_iff.1 hv).1
    have p0 : V.cell? ⟨p, 0, none⟩ = some (.int .i64 x1) := by rw [cell_of_row _ _ _ _ _ _ hx]; rfl
    have p1 : V.cell? ⟨p, 1, none⟩ = some (.int .i64 x2) := by rw [cell_of_row _ _ _ _ _ _ hx]; rfl
    obtain ⟨b0, bf⟩ := cell_of_box_a hv
    have hbs := hbel.size
    have hne : some w.heap.size ≠ v.ownBlock := by
      rcases ownsRow_ne_a hrow hv (fun cur e => absurd (Obj.cells.inj e).2.1 tyO_ne) with e | e
      · rw [e]; simp
      · exact fun e' => e e'.symm
    have hko : KeepsOthers V (V.alloc (.cells #[.int .i64 x1, .int .i64 x2] 74)) := KeepsOthers.alloc _ _
    gi_wp2_with (first
      | (gi_at_builtin; refine wpListIn_append_own _ rfl _ _ 99 rfl w.heap.size 74 i0 (.agg #[.int .i64 0, .int .i64 0]) 2 16 Try.underlying99 hi hz0 hz1 hz2 rfl (by decide) _ _ _ rfl (hrow.alloc _) ⟨V.heap.size, 0, none⟩ 1 1 [.int .i64 x1, .int .i64 x2] rfl rfl (cell_two_new _ _ _ _) (by simp [Value.oneCell']) (by unfold maxLen; omega) (by omega) (by simp; omega) ?_; intro v' w3 hown' hg3 hnil3
         have hg3 : (V.alloc (.cells #[.int .i64 x1, .int .i64 x2] 74)).grownBy w3 v.ownBlock := hg3
         clear hnil3
         have hv3 : w3.heap[w.heap.size]? = some (.cells #[v] 99 (0, 0)) := (hg3.block _ (by simp; omega) hne).trans ((Below.heap_alloc _ _ _ hwlt).trans hv)
         obtain ⟨hc3, hf3⟩ := cell_of_box_a hv3
         obtain ⟨g', cap', cur', rfl, hbase', hgb', hr1, hr2, hr3, hr4⟩ : ∃ g' cap' cur', v' = .slice (some ⟨g', 0, none⟩) (ss.length + 1) cap' ∧ w.heap.size ≤ g' ∧ w3.heap[g']? = some (.cells cur' 74 (0, 0)) ∧ ss.length + 1 ≤ cap' ∧ cap' ≤ maxLen ∧ cur'.size = cap' * 2 ∧ cur'.toList.take ((ss.length + 1) * 2) = ss.flatMap kyC ++ [.int .i64 x1, .int .i64 x2] := by
           rcases hown'.2 with ⟨_, h0⟩ | h'
           · exact absurd h0 (by omega)
           · exact h'
         go_frame)
      | gi_round_op_a)
    have hgs := grownBy_setCell0_a w3 w.heap.size (.slice (some ⟨g', 0, none⟩) (ss.length + 1) cap')
    have hv4 : (w3.setCell ⟨w.heap.size, 0, none⟩ (.slice (some ⟨g', 0, none⟩) (ss.length + 1) cap')).heap[w.heap.size]? = some (.cells #[.slice (some ⟨g', 0, none⟩) (ss.length + 1) cap'] 99 (0, 0)) := heap_setCell_box_a _ hv3
    have hrow4 := hown'.kept hgs (ownsRow_ne_a hown' hv3 (fun cur e => absurd (Obj.cells.inj e).2.1 tyO_ne))
    have hb3 : Below w.heap.size w w3 := (hbel.alloc hbs _).grown hg3 (by simp; omega) (fun k e => (hrow.lt k e).1)
    have hk3 : KeepsOthers (V.alloc (.cells #[.int .i64 x1, .int .i64 x2] 74)) w3 := KeepsOthers.of_grownBy hg3 (fun j o e ho => by
      rcases (hrow.alloc (.cells #[.int .i64 x1, .int .i64 x2] 74)).2 with ⟨e2, -⟩ | ⟨g2, c2, u2, e2, -, hc2, -⟩
      · rw [e2] at e; simp [Value.ownBlock] at e
      · rw [e2] at e
        simp only [Value.ownBlock, Option.some.injEq] at e
        subst e
        rw [hc2] at ho
        cases ho
        rfl)
    refine ⟨(hko.trans hk3).trans (KeepsOthers.setCell _ _ _), ⟨⟨_, hv4, ?_, by simp⟩, hb3.grown hgs hb3.size (fun k e => by cases e; omega)⟩⟩
    simpa [kyC] using hrow4
  · intro ss W r o' hl hA
    exact apO_put w ss W _ _ o' hl (fun cur t e => by cases e) (by omega) hA
  · exact apO_abides w _ (by omega)
  · intro W1 h1
    refine ⟨⟨.slice none 0 0, (h1.block _ (by omega)).trans hv0, ⟨rfl, .inl ⟨rfl, rfl⟩⟩, by simp⟩, ?_⟩
    refine ⟨h1.os.trans hb0.os, h1.tape.trans hb0.tape, h1.output.trans hb0.output, Nat.le_trans hb0.size h1.size, fun k hk => (h1.block k (by omega)).trans (hb0.block k hk)⟩
  · intro ss W o r hS hA h2 hK
    obtain ⟨v, hv, hrow, hnil⟩ := hA.box
    have hg := grownBy_putObj_a W (W0.heap.size + 1) o
    have hv3 : (W.putObj (W0.heap.size + 1) o).heap[w.heap.size]? = some (.cells #[v] 99 (0, 0)) := (World.putObj_heap_other (by omega)).trans hv
    have hrow3 := hrow.kept hg (ownsRow_ne_a hrow h2 (fun cur e => by cases e))
    have hb3 : Below w.heap.size w (W.putObj (W0.heap.size + 1) o) := hA.below.grown hg hA.below.size (fun k e => by cases e; omega)
    obtain ⟨hc3, hf3⟩ := cell_of_box_a hv3
    obtain ⟨W3, hW3⟩ : ∃ W3, W3 = W.putObj (W0.heap.size + 1) o := ⟨_, rfl⟩
    rw [← hW3] at hK hv3 hrow3 hb3 hc3 hf3 ⊢
    clear hW3 hg
    gi_wp2
    refine ⟨by simp, .inl ⟨_, _, rfl, run_takeDeferred hK, ?_⟩⟩
    exact ⟨_, results_tmp rfl _ _ _, v, ss, rfl, hS, hrow3.kept (grownBy_putObj_a _ _ _) (ownsRow_ne_a hrow3 hK (fun cur e => by cases e)), hnil, hb3.grown (grownBy_putObj_a _ _ _) hb3.size (fun k e => by cases e; omega)⟩
set_option maxHeartbeats 1000000 in
theorem collectO_in (n : Nat) (hn : 3 ≤ n) (g : Nat) (lb : Array Value) (eg : ∀ args w, (callFunc g args).run Try.prog w = .ok (.enter g args) w)
    (S : List (Int × Int) → Prop) (N : Nat) (hN : N ≤ 1000000) (w : World) (hseq : SeqGives Fence.wide (n - 1 - 1) Try.prog g lb kyP S N w) :
    CallsIn Fence.wide n Try.prog 71 #[.func (.func g) #[] lb] w fun e w' => ∃ (v : Value) (ss : List (Int × Int)), e = .returned v ∧ S ss ∧ w'.ownsRow w.heap.size 74 2 v ss.length (ss.flatMap kyC) ∧ (v = .slice none 0 0 ↔ ss = []) ∧ Below w.heap.size w w' := by
  have h1 : 1 ≤ n := by omega
  have hA := fun w (hseq : SeqGives Fence.wide (n - 1 - 1) Try.prog g lb kyP S N w) => appSeqO_in (n - 1) (by omega) g lb eg S N hN w hseq
  have hft : Fence.wide.fn 76 := trivial
  refine callsIn_of_wp Try.func71 rfl trivial ?_ rfl
  simp only [Try.ntmps71, List.size_toArray, List.length_cons, List.length_nil, Nat.reduceAdd, Nat.reduceSub, Array.replicate_succ, Array.replicate_zero, List.push_toArray, List.append_toArray, List.nil_append, List.cons_append]
  gi_wp2_with (gi_at_call 76; refine (hA _ hseq).mono ?_; rintro e w' ⟨v, ss, rfl, hS, hrow, hnil, hb⟩)
  go_ret
  exact ⟨v, ss, rfl, hS, hrow, hnil, hb⟩
end Go.Proofs.Ytkfcchapfklpgaa
