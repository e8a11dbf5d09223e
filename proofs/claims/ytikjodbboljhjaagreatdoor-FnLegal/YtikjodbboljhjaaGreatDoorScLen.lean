/-
  LegalLen and CodeOf, the program's and the specification's.
-/
import Derived.Test.YtikjodbboljhjaaGreatDoorScPart
namespace Go.Proofs.YtikjodbboljhjaaGreatDoor
open Go.RowKit

def legLen (es : List Ev) : Int := if 300 < es.length then -1 else (legS scn0 es).2.1
def legCode (es : List Ev) : Int := if 300 < es.length then 11 else (legS scn0 es).2.2

theorem isTrace_any (ao : Option Addr) (n c : Nat) (w : World) :
    Calls Tryz.prog 60 #[.slice ao n c] w fun e w' => e = .returned (.bool (decide ((n : Int) ≤ 300))) ∧ w' = w := by
  go_enter Tryz.func60, Tryz.ntmps60
  go_wp2_with fail
  go_ret
  exact ⟨rfl, rfl⟩
theorem field_size (a c : Int) (b : Nat) (u : World) : Sem.run Tryz.prog (Instr.field 96 (.agg #[.int .i64 a, .int .i64 c, .pointer (some ⟨b, 0, none⟩)]) 0) u = .ok (.int .i64 a) u := by
  have hu := run_underlying (w := u) Tryz.underlying96
  simp [Instr.field, asAgg, hu, go_sem]
theorem field_code (a c : Int) (b : Nat) (u : World) : Sem.run Tryz.prog (Instr.field 96 (.agg #[.int .i64 a, .int .i64 c, .pointer (some ⟨b, 0, none⟩)]) 1) u = .ok (.int .i64 c) u := by
  have hu := run_underlying (w := u) Tryz.underlying96
  simp [Instr.field, asAgg, hu, go_sem]

set_option maxHeartbeats 1000000 in
theorem implLen_any (ao : Option Addr) (n c : Nat) (es : List Ev) (w : World) (hn : es.length = n) (h : ReadsE w ao es) (hs : Shapes w) (hab : ∀ k, blk ao = some k → k < w.heap.size) :
    Calls Tryz.prog 20 #[.slice ao n c] w fun x w' => x = .returned (.int .i64 (legLen es)) ∧ Fr w w' := by
  have cT := isTrace_any ao n c w
  by_cases hb : es.length ≤ 300
  · have cP := legalPartOf_any ao n c es w hn h hb hs hab
    have e1 : legLen es = (legS scn0 es).2.1 := if_neg (by omega)
    have e2 : decide ((n : Int) ≤ 300) = true := by simp; omega
    rw [e1]
    rw [e2] at cT
    clear e1 e2 hb h hs hab hn
    obtain ⟨z, hz⟩ : ∃ z : Int, z = (legS scn0 es).2.1 := ⟨_, rfl⟩
    obtain ⟨q, hq⟩ : ∃ z : Int, z = (legS scn0 es).2.2 := ⟨_, rfl⟩
    simp only [← hz, ← hq] at cP
    rw [← hz]
    clear hz hq
    go_enter Tryz.func20, Tryz.ntmps20
    go_wp2_with fail
    refine (cT).mono ?_
    rintro e u0 ⟨rfl, rfl⟩
    clear cT
    go_wp2_with fail
    refine (cP).mono ?_
    rintro e u1 ⟨lo, b, b1, b2, b3, b4, rfl, -, -, f1⟩
    have hf := fun u => field_size z q b u
    go_wp2_with fail
    go_ret
    exact ⟨rfl, f1⟩
  · have e1 : legLen es = -1 := if_pos (by omega)
    have e2 : decide ((n : Int) ≤ 300) = false := by simp; omega
    rw [e1]
    rw [e2] at cT
    clear e1 e2 hb h hs hab hn
    go_enter Tryz.func20, Tryz.ntmps20
    go_wp2_with fail
    refine (cT).mono ?_
    rintro e u0 ⟨rfl, rfl⟩
    go_wp2_with fail
    go_ret
    exact ⟨rfl, Fr.refl _⟩

set_option maxHeartbeats 1000000 in
theorem implCodeOf_any (ao : Option Addr) (n c : Nat) (es : List Ev) (w : World) (hn : es.length = n) (h : ReadsE w ao es) (hs : Shapes w) (hab : ∀ k, blk ao = some k → k < w.heap.size) :
    Calls Tryz.prog 21 #[.slice ao n c] w fun x w' => x = .returned (.int .i64 (legCode es)) ∧ Fr w w' := by
  have cT := isTrace_any ao n c w
  by_cases hb : es.length ≤ 300
  · have cP := legalPartOf_any ao n c es w hn h hb hs hab
    have e1 : legCode es = (legS scn0 es).2.2 := if_neg (by omega)
    have e2 : decide ((n : Int) ≤ 300) = true := by simp; omega
    rw [e1]
    rw [e2] at cT
    clear e1 e2 hb h hs hab hn
    obtain ⟨z, hz⟩ : ∃ z : Int, z = (legS scn0 es).2.1 := ⟨_, rfl⟩
    obtain ⟨q, hq⟩ : ∃ z : Int, z = (legS scn0 es).2.2 := ⟨_, rfl⟩
    simp only [← hz, ← hq] at cP
    rw [← hq]
    clear hz hq
    go_enter Tryz.func21, Tryz.ntmps21
    go_wp2_with fail
    refine (cT).mono ?_
    rintro e u0 ⟨rfl, rfl⟩
    clear cT
    go_wp2_with fail
    refine (cP).mono ?_
    rintro e u1 ⟨lo, b, b1, b2, b3, b4, rfl, -, -, f1⟩
    have hf := fun u => field_code z q b u
    go_wp2_with fail
    go_ret
    exact ⟨rfl, f1⟩
  · have e1 : legCode es = 11 := if_pos (by omega)
    have e2 : decide ((n : Int) ≤ 300) = false := by simp; omega
    rw [e1]
    rw [e2] at cT
    clear e1 e2 hb h hs hab hn
    go_enter Tryz.func21, Tryz.ntmps21
    go_wp2_with fail
    refine (cT).mono ?_
    rintro e u0 ⟨rfl, rfl⟩
    go_wp2_with fail
    go_ret
    exact ⟨rfl, Fr.refl _⟩

set_option maxHeartbeats 1000000 in
theorem specLen_any (ao : Option Addr) (n c : Nat) (es : List Ev) (w : World) (hn : es.length = n) (h : ReadsE w ao es) :
    Calls Tryz.prog 22 #[.slice ao n c] w fun x w' => x = .returned (.int .i64 (legLen es)) ∧ Fr w w' := by
  have cP := l5Scene_any ao n c es w hn h
  by_cases hb : es.length ≤ 300
  · have e1 : legLen es = (legS scn0 es).2.1 := if_neg (by omega)
    have e2 : (n : Int) ≤ 300 := by omega
    rw [e1]
    clear e1 hb h hn
    obtain ⟨z, hz⟩ : ∃ z : Int, z = (legS scn0 es).2.1 := ⟨_, rfl⟩
    obtain ⟨q, hq⟩ : ∃ z : Int, z = (legS scn0 es).2.2 := ⟨_, rfl⟩
    simp only [← hz, ← hq] at cP
    rw [← hz]
    clear hz hq
    go_enter Tryz.func22, Tryz.ntmps22
    go_wp2_with fail
    refine (cP).mono ?_
    rintro e u1 ⟨⟨sg, lo, ll, lc, co, cl, cc, no, nl, nc, oo, ol, oc⟩, B, rfl, -, -, f1⟩
    go_wp2_with fail
    go_ret
    exact ⟨rfl, f1.trans (Fr.alloc _ _)⟩
  · have e1 : legLen es = -1 := if_pos (by omega)
    have e2 : 300 < (n : Int) := by omega
    rw [e1]
    clear e1 hb h hn cP
    go_enter Tryz.func22, Tryz.ntmps22
    go_wp2_with fail
    go_ret
    exact ⟨rfl, Fr.refl _⟩

set_option maxHeartbeats 1000000 in
theorem specCodeOf_any (ao : Option Addr) (n c : Nat) (es : List Ev) (w : World) (hn : es.length = n) (h : ReadsE w ao es) :
    Calls Tryz.prog 23 #[.slice ao n c] w fun x w' => x = .returned (.int .i64 (legCode es)) ∧ Fr w w' := by
  have cP := l5Scene_any ao n c es w hn h
  by_cases hb : es.length ≤ 300
  · have e1 : legCode es = (legS scn0 es).2.2 := if_neg (by omega)
    have e2 : (n : Int) ≤ 300 := by omega
    rw [e1]
    clear e1 hb h hn
    obtain ⟨z, hz⟩ : ∃ z : Int, z = (legS scn0 es).2.1 := ⟨_, rfl⟩
    obtain ⟨q, hq⟩ : ∃ z : Int, z = (legS scn0 es).2.2 := ⟨_, rfl⟩
    simp only [← hz, ← hq] at cP
    rw [← hq]
    clear hz hq
    go_enter Tryz.func23, Tryz.ntmps23
    go_wp2_with fail
    refine (cP).mono ?_
    rintro e u1 ⟨⟨sg, lo, ll, lc, co, cl, cc, no, nl, nc, oo, ol, oc⟩, B, rfl, -, -, f1⟩
    go_wp2_with fail
    go_ret
    exact ⟨rfl, f1.trans (Fr.alloc _ _)⟩
  · have e1 : legCode es = 11 := if_pos (by omega)
    have e2 : 300 < (n : Int) := by omega
    rw [e1]
    clear e1 hb h hn cP
    go_enter Tryz.func23, Tryz.ntmps23
    go_wp2_with fail
    go_ret
    exact ⟨rfl, Fr.refl _⟩
end Go.Proofs.YtikjodbboljhjaaGreatDoor
