/-
  Pack BD: ScPart, ScLen.
-/
import Derived.Test.YtcofhmikdkkigaaGreatDoorPfBC
namespace Go.Proofs.YtcofhmikdkkigaaGreatDoor
open Go.RowKit Go.Shelf
attribute [local go_sem] Oper.semAt_some

theorem implNew_any (B : Nat → Prop) (w : World) :
    Calls Tryz.prog 204 #[] w fun e w' => ∃ s : Sv, e = .returned (.agg #[.int .i64 s.g, .slice s.lo s.ll s.lc, .slice s.co s.cl s.cc, .slice s.no s.nl s.nc, .slice s.oo s.ol s.oc]) ∧ ScR B w' s scn0 ∧ Fr w w' := by
  go_enter Tryz.func204, Tryz.ntmps204
  go_wp2
  refine bodyPost_ret (v := .agg #[.int .i64 1, .slice none 0 0, .slice none 0 0, .slice none 0 0, .slice none 0 0]) (by simp [results, Tryz.results204, go_sem]) rfl ⟨⟨1, none, 0, 0, none, 0, 0, none, 0, 0, none, 0, 0⟩, rfl, scR_new _ _, Fr.alloc _ _⟩

theorem boardNew_any (s : Sv) (w : World) (h : ScR (fun _ => False) w s scn0) :
    Calls Tryz.prog 51 #[.agg #[.int .i64 s.g, .slice s.lo s.ll s.lc, .slice s.co s.cl s.cc, .slice s.no s.nl s.nc, .slice s.oo s.ol s.oc]] w fun e w' => ∃ b b1 b2 b3 b4, e = .returned (.pointer (some ⟨b, 0, none⟩)) ∧ w.heap.size ≤ b1 ∧ (∀ lo u, Fr w' u → b < lo → lo ≤ u.heap.size → BoardW (0, lo) u b b1 b2 b3 b4 1048576 scn0) ∧ b < w'.heap.size ∧ Fr w w' := by
  obtain ⟨lvs, r1, e1, l1⟩ := h.lks
  refine (boardOf_any s scn0 lvs w h r1 e1 l1).mono ?_
  rintro e w' ⟨b, b1, b2, b3, b4, rfl, ⟨q0, q1, q2, q3, q4⟩, Bd, f⟩
  have M := boardM_of (B := fun _ => False) (by decide) (l1.fr f) h.sl h.sc h.sn h.so Bd
  refine ⟨b, b1, b2, b3, b4, rfl, q0, fun lo u g hl hs => ?_, (Array.getElem?_eq_some_iff.1 Bd.row).1, f⟩
  obtain ⟨fl, p1, p2⟩ := M.m1
  exact ⟨⟨Nat.zero_le _, hl, hs⟩, (g.block b (Array.getElem?_eq_some_iff.1 Bd.row).1 (by simp)).trans Bd.row, ⟨q1, q2, q3, q4⟩, ⟨fl, p1.fr g, fun o => ((p2 o).keep g (by simp)).mono (fun _ q => q.elim)⟩, M.m2.fr g, M.m3.fr g, M.m4.fr g⟩

end Go.Proofs.YtcofhmikdkkigaaGreatDoor
namespace Go.Proofs.YtcofhmikdkkigaaGreatDoor
open Go.RowKit

def legLen (es : List Ev) : Int := if 300 < es.length then -1 else (legS scn0 es).2.1
def legCode (es : List Ev) : Int := if 300 < es.length then 11 else (legS scn0 es).2.2

theorem isTrace_any (ao : Option Addr) (n c : Nat) (w : World) :
    Calls Tryz.prog 136 #[.slice ao n c] w fun e w' => e = .returned (.bool (decide ((n : Int) ≤ 300))) ∧ w' = w := by
  go_enter Tryz.func136, Tryz.ntmps136
  go_wp2_with fail
  go_ret
  exact ⟨rfl, rfl⟩
set_option maxHeartbeats 1000000 in
theorem specLen_any (ao : Option Addr) (n c : Nat) (es : List Ev) (w : World) (hn : es.length = n) (h : ReadsE w ao es) :
    Calls Tryz.prog 138 #[.slice ao n c] w fun x w' => x = .returned (.int .i64 (legLen es)) ∧ Fr w w' := by
  have cP := l5Scene_any ao n c es w hn h
  by_cases hb : es.length ≤ 300
  · have e1 : legLen es = (legS scn0 es).2.1 := if_neg (by omega)
    have e2 : (n : Int) ≤ 300 := by omega
    rw [e1]
    clear e1 hb h hn
    obtain ⟨z, hz⟩ : ∃ z : Int, z = (legS scn0 es).2.1 := ⟨_, rfl⟩
    obtain ⟨q, hq⟩ : ∃ z : Int, z = (legS scn0 es).2.2 := ⟨_, rfl⟩
    simp only [← hz, ← hq] at cP
    rw [← hz]
    clear hz hq
    go_enter Tryz.func138, Tryz.ntmps138
    go_wp2_with fail
    refine (cP).mono ?_
    rintro e u1 ⟨⟨sg, lo, ll, lc, co, cl, cc, no, nl, nc, oo, ol, oc⟩, B, rfl, -, -, f1⟩
    go_wp2_with fail
    go_ret
    exact ⟨rfl, f1.trans (Fr.alloc _ _)⟩
  · have e1 : legLen es = -1 := if_pos (by omega)
    have e2 : 300 < (n : Int) := by omega
    rw [e1]
    clear e1 hb h hn cP
    go_enter Tryz.func138, Tryz.ntmps138
    go_wp2_with fail
    go_ret
    exact ⟨rfl, Fr.refl _⟩

end Go.Proofs.YtcofhmikdkkigaaGreatDoor
