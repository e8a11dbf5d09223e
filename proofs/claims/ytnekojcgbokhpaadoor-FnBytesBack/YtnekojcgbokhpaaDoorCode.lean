/-
  The program's codeOf: which code an error is.
-/
import Derived.Test.YtnekojcgbokhpaaDoorIs
namespace Go.Proofs.YtnekojcgbokhpaaDoor
open Go.RowKit

/-- The four errors lie as the program's text lays them: each in a block of its own. -/
structure ErrV (eh en ee em : Addr) (w : World) : Prop where
  ch : w.cell? ⟨2, 0, none⟩ = some (.iface 195 (.pointer (some eh)))
  cn : w.cell? ⟨3, 0, none⟩ = some (.iface 195 (.pointer (some en)))
  ce : w.cell? ⟨4, 0, none⟩ = some (.iface 195 (.pointer (some ee)))
  cm : w.cell? ⟨1, 0, none⟩ = some (.iface 195 (.pointer (some em)))
  rh : ∃ c t, w.heap[eh.block]? = some (.cells c t (0, 0))
  rn : ∃ c t, w.heap[en.block]? = some (.cells c t (0, 0))
  re : ∃ c t, w.heap[ee.block]? = some (.cells c t (0, 0))
  rm : ∃ c t, w.heap[em.block]? = some (.cells c t (0, 0))
  hn : eh ≠ en
  he : eh ≠ ee
  hm : eh ≠ em
  ne : en ≠ ee
  nm : en ≠ em
  em_ : ee ≠ em

theorem row_fr {w w' : World} (k : Fr w w') {a : Nat} (h : ∃ c t, w.heap[a]? = some (.cells c t (0, 0))) : ∃ c t, w'.heap[a]? = some (.cells c t (0, 0)) := by
  obtain ⟨c, t, h⟩ := h
  exact ⟨c, t, (k.block a (Array.getElem?_eq_some_iff.1 h).1 (by simp)).trans h⟩
theorem ErrV.fr {eh en ee em : Addr} {w w' : World} (h : ErrV eh en ee em w) (k : Fr w w') : ErrV eh en ee em w' :=
  ⟨k.cell h.ch, k.cell h.cn, k.cell h.ce, k.cell h.cm, row_fr k h.rh, row_fr k h.rn, row_fr k h.re, row_fr k h.rm, h.hn, h.he, h.hm, h.ne, h.nm, h.em_⟩

theorem code_nil (w : World) : Calls Tryd.prog 31 #[.nilIface] w fun e w' => e = .returned (.int .i64 0) ∧ w' = w := by
  go_enter Tryd.func31, Tryd.ntmps31
  go_wp2
  go_ret
  exact ⟨rfl, rfl⟩

/-- The code of a fault, by the error that it wraps. -/
def isCode (eh en ee em y : Addr) (c : Int) : Prop := (y = eh ∧ c = 1) ∨ (y = en ∧ c = 2) ∨ (y = ee ∧ c = 3) ∨ (y = em ∧ c = 4)

set_option maxHeartbeats 1000000 in
theorem code_any (eh en ee em y : Addr) (b : Nat) (i c : Int) (w : World) (hv : ErrV eh en ee em w) (h : Flt w b i (.iface 195 (.pointer (some y)))) (hc : isCode eh en ee em y c) :
    Calls Tryd.prog 31 #[.iface 113 (.pointer (some ⟨b, 0, none⟩))] w fun e w' => e = .returned (.int .i64 c) ∧ w' = w := by
  have ch := hv.ch
  have cn := hv.cn
  have ce := hv.ce
  obtain ⟨ca, ta, ra⟩ := hv.rh
  obtain ⟨cb, tb, rb⟩ := hv.rn
  obtain ⟨cc, tc, rc⟩ := hv.re
  obtain ⟨cd, td, rd⟩ := hv.rm
  rcases hc with ⟨rfl, rfl⟩ | ⟨rfl, rfl⟩ | ⟨rfl, rfl⟩ | ⟨rfl, rfl⟩
  · go_enter Tryd.func31, Tryd.ntmps31
    go_wp2_with fail
    refine (is_same b i y w h).mono ?_
    rintro e w1 ⟨rfl, rfl⟩
    go_wp2_with fail
    go_ret
    exact ⟨rfl, rfl⟩
  · have i1 := is_other b i y eh _ _ _ _ w h (Ne.symm hv.hn) rb ra
    go_enter Tryd.func31, Tryd.ntmps31
    go_wp2_with fail
    refine (i1).mono ?_
    rintro e w1 ⟨rfl, rfl⟩
    go_wp2_with fail
    refine (is_same b i y _ h).mono ?_
    rintro e w2 ⟨rfl, rfl⟩
    go_wp2_with fail
    go_ret
    exact ⟨rfl, rfl⟩
  · have i1 := is_other b i y eh _ _ _ _ w h (Ne.symm hv.he) rc ra
    have i2 := is_other b i y en _ _ _ _ w h (Ne.symm hv.ne) rc rb
    go_enter Tryd.func31, Tryd.ntmps31
    go_wp2_with fail
    refine (i1).mono ?_
    rintro e w1 ⟨rfl, rfl⟩
    go_wp2_with fail
    refine (i2).mono ?_
    rintro e w2 ⟨rfl, rfl⟩
    go_wp2_with fail
    refine (is_same b i y _ h).mono ?_
    rintro e w3 ⟨rfl, rfl⟩
    go_wp2_with fail
    go_ret
    exact ⟨rfl, rfl⟩
  · have i1 := is_other b i y eh _ _ _ _ w h (Ne.symm hv.hm) rd ra
    have i2 := is_other b i y en _ _ _ _ w h (Ne.symm hv.nm) rd rb
    have i3 := is_other b i y ee _ _ _ _ w h (Ne.symm hv.em_) rd rc
    go_enter Tryd.func31, Tryd.ntmps31
    go_wp2_with fail
    refine (i1).mono ?_
    rintro e w1 ⟨rfl, rfl⟩
    go_wp2_with fail
    refine (i2).mono ?_
    rintro e w2 ⟨rfl, rfl⟩
    go_wp2_with fail
    refine (i3).mono ?_
    rintro e w3 ⟨rfl, rfl⟩
    go_wp2_with fail
    go_ret
    exact ⟨rfl, rfl⟩
end Go.Proofs.YtnekojcgbokhpaaDoor
