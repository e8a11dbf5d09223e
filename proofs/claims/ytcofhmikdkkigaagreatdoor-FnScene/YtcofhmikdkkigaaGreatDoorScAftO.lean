/-
  The specification's SceneAfter: whose lists are.
-/
import Derived.Test.YtcofhmikdkkigaaGreatDoorPfBK
import Derived.Test.YtcofhmikdkkigaaGreatDoorPfBH
namespace Go.Proofs.YtcofhmikdkkigaaGreatDoor
open Go.RowKit

set_option maxHeartbeats 1000000 in
theorem specAfter_own (ao : Option Addr) (n c : Nat) (es : List Ev) (w : World) (hn : es.length = n) (h : ReadsE w ao es) :
    Calls Tryz.prog 71 #[.slice ao n c] w fun x w' => ∃ (s : Sv) (B : Nat → Prop), x = .returned (.tuple #[.agg #[.int .i64 s.g, .slice s.lo s.ll s.lc, .slice s.co s.cl s.cc, .slice s.no s.nl s.nc, .slice s.oo s.ol s.oc], .bool (aftB es)]) ∧ ScR B w' s (aftS es) ∧ Fr w w' ∧ (∀ b, B b → w.heap.size ≤ b ∧ b < w'.heap.size) ∧ OwR w' s := by
  have f0 := Fr.alloc w (.cells #[.int .i64 0, .slice none 0 0, .slice none 0 0, .slice none 0 0, .slice none 0 0] 29)
  have k0 := ScK.new w ⟨0, none, 0, 0, none, 0, 0, none, 0, 0, none, 0, 0⟩
  simp only at k0
  subst hn
  by_cases hb : es.length ≤ 300
  · have cP := l5Scene_own ao es.length c es _ rfl (h.fr f0)
    have e1 : aftS es = (legS scn0 es).1 := if_neg (by omega)
    have e3 : aftB es = decide ((legS scn0 es).2.2 = 0) := if_neg (by omega)
    have hlc := leg_code es scn0
    have e2 : (es.length : Int) ≤ 300 := by omega
    rw [e1, e3]
    clear e1 e3 h
    obtain ⟨L, hL⟩ : ∃ L : Nat, L = (legS scn0 es).2.1 := ⟨_, rfl⟩
    obtain ⟨q, hq⟩ : ∃ z : Int, z = (legS scn0 es).2.2 := ⟨_, rfl⟩
    obtain ⟨M, hM⟩ : ∃ z, z = (legS scn0 es).1 := ⟨_, rfl⟩
    simp only [← hL, ← hq, ← hM] at cP hlc
    rw [← hq, ← hM]
    clear hL hq hM hb
    have hbb : ((L : Int) == (es.length : Int)) = decide (q = 0) := by
      by_cases q0 : q = 0
      · have := hlc.1 q0
        simp [q0, this]
      · have : ¬ ((L : Int) = (es.length : Int)) := fun e => q0 (hlc.2 (by omega))
        simp [q0, this]
    clear hlc
    go_enter Tryz.func71, Tryz.ntmps71
    go_wp2_with fail
    refine (cP).mono ?_
    rintro e u1 ⟨⟨sg, lo, ll, lc, co, cl, cc, no, nl, nc, oo, ol, oc⟩, B, rfl, S1, hB, f1, hO1⟩
    have fA := Fr.alloc u1 (.cells #[.int .i64 sg, .slice lo ll lc, .slice co cl cc, .slice no nl nc, .slice oo ol oc] 29)
    have kr := k0.fr (f1.trans fA)
    have F1 := f0.trans (f1.trans fA)
    have S2 := S1.fr fA
    have HO2 : Hid _ := hO1.fr fA
    have HB2 : Hid (∀ b, B b → b < u1.heap.size) := fun b q => (hB b q).2
    clear hO1
    have hsz := f0.size
    have hkl := k0.lt
    obtain ⟨j0, j1, j2, j3, j4⟩ := kr.at
    simp only at j0 j1 j2 j3 j4
    have jf := fun i => kr.free i
    have HS2 : Hid _ := S2
    have HB : Hid (∀ b, B b → w.heap.size < b) := fun b q => by have := (hB b q).1; omega
    clear S1 S2 hB cP k0 kr fA f1 f0
    go_wp2_with fail
    have k5 := put5 (u1.alloc (.cells #[.int .i64 sg, .slice lo ll lc, .slice co cl cc, .slice no nl nc, .slice oo ol oc] 29)) w.heap.size (.int .i64 sg) (.slice lo ll lc) (.slice co cl cc) (.slice no nl nc) (.slice oo ol oc)
    refine bodyPost_ret (v := .tuple #[.agg #[.int .i64 sg, .slice lo ll lc, .slice co cl cc, .slice no nl nc, .slice oo ol oc], .bool (decide (q = 0))]) (by simp [results, Tryz.results71, go_sem, j0, j1, j2, j3, j4]) rfl ⟨⟨sg, lo, ll, lc, co, cl, cc, no, nl, nc, oo, ol, oc⟩, B, rfl, ?_, ?_, (fun b q => ⟨Nat.le_of_lt (HB.out b q), by have h1 := HB2.out b q; have h2 := k5.size; simp only [World.size_alloc] at h2; omega⟩), ?_⟩
    · exact HS2.out.keep k5 (fun x hx => by cases hx; exact fun q => by have := HB.out _ q; omega)
    · exact F1.then k5 (fun j hj => by simp only [Option.some.injEq] at hj; omega)
    · exact own_fin HS2.out (fun q => by have := HB.out _ q; omega) HO2.out _ _ _ _ _
  · have e1 : aftS es = ⟨0, [], [], [], []⟩ := if_pos (by omega)
    have e3 : aftB es = false := if_pos (by omega)
    have e2 : 300 < (es.length : Int) := by omega
    rw [e1, e3]
    clear e1 e3 h hb
    go_enter Tryz.func71, Tryz.ntmps71
    go_wp2_with fail
    refine bodyPost_ret (v := .tuple #[.agg #[.int .i64 0, .slice none 0 0, .slice none 0 0, .slice none 0 0, .slice none 0 0], .bool false]) (by simp [results, Tryz.results71, go_sem]) rfl ⟨⟨0, none, 0, 0, none, 0, 0, none, 0, 0, none, 0, 0⟩, (fun _ => False), rfl, scR_zero _ _, f0, (fun b q => q.elim), OwR.nil _ _⟩
end Go.Proofs.YtcofhmikdkkigaaGreatDoor
