/-
  The program's ReadNumber.
-/
import Derived.Test.YtlpmcfooaakdgaaDoorRdn
import Derived.Test.YtlpmcfooaakdgaaDoorAs
namespace Go.Proofs.YtlpmcfooaakdgaaDoor
open Go.RowKit

/-- The variables that the program's ReadNumber reads: errNumber, and errors.errorType. -/
structure NumV (y : Addr) (w : World) : Prop where
  num : w.cell? ⟨3, 0, none⟩ = some (.iface 163 (.pointer (some y)))
  et : w.cell? ⟨5, 0, none⟩ = some (.iface 131 (.agg #[.pointer (some ⟨6, 60, none⟩)]))
theorem NumV.fr {y : Addr} {w w' : World} (h : NumV y w) (k : Fr w w') : NumV y w' := ⟨k.cell h.num, k.cell h.et⟩

theorem asW_grown (w : World) (t : Nat) (e : Addr) : w.grownBy (asW w ⟨t, 0, none⟩ e) (some t) :=
  grown_trans' ((((Fr.alloc w _).trans (Fr.alloc _ _)).trans ((Fr.alloc _ _).trans (Fr.alloc _ _))).row _) (grown_setCell _ t 0 _)
theorem asW_at (w : World) (t : Nat) (e : Addr) (old : Value) (ty : TypeId) (h : w.heap[t]? = some (.cells #[old] ty (0, 0))) : (asW w ⟨t, 0, none⟩ e).cell? ⟨t, 0, none⟩ = some (.pointer (some e)) := by
  have hl : t < w.heap.size := (Array.getElem?_eq_some_iff.1 h).1
  have k := ((Fr.alloc w (.cells #[.pointer (some ⟨t, 0, none⟩)] 73)).trans (Fr.alloc _ (.cells #[.pointer (some ⟨6, 73, none⟩), .pointer (some ⟨w.heap.size, 0, none⟩), .int .u64 150] 106))).trans
    ((Fr.alloc _ (.cells #[.pointer (some ⟨6, 73, none⟩), .pointer (some ⟨w.heap.size, 0, none⟩), .int .u64 150] 106)).trans (Fr.alloc _ (.cells #[.pointer (some e)] 71)))
  have h2 := (k.block t hl (by simp)).trans h
  have h3 := heap_setCell_same _ t 0 _ _ (.pointer (some e)) h2
  rw [asW, cell_of_row _ _ _ _ _ _ h3]
  simp

set_option maxHeartbeats 1000000 in
theorem implRead_any (ao : Option Addr) (n cap : Nat) (bs : List Int) (i : Int) (y : Addr) (w : World) (hn : bs.length = n) (hi : I64 i) (h : ReadsB w ao bs) (hv : NumV y w) (hab : ∀ j, blk ao = some j → j < w.heap.size) :
    Calls Tryd.prog 20 #[.slice ao n cap, .int .i64 i] w fun e w' => e = .returned (rdT (rdV bs i)) ∧ Fr w w' := by
  have hrd := Rdr.new w (.slice ao n cap) i
  have hfr := Fr.alloc w (.cells #[.slice ao n cap, .int .i64 i] 58)
  have g3 : 3 < w.heap.size := World.block_lt_of_cell? w _ hv.num
  have cn := number_any w.heap.size ao n cap bs i y _ hn hi (h.fr hfr) (fun e => by have := hab _ e; omega) hrd (hfr.cell hv.num) (by omega)
  go_enter Tryd.func20, Tryd.ntmps20
  go_wp2_with fail
  refine cn.mono ?_
  rintro e w1 ⟨hg, ⟨m, q, hE, rfl, hr1⟩ | ⟨hE, b, j, rfl, hF, hb, hr1⟩⟩
  · have HE : Hid (rdV bs i = (m, q, true)) := hE
    have hf1 : Fr w w1 := hfr.then hg (fun j hj => by simp only [Option.some.injEq] at hj; omega)
    clear hE cn hrd hfr
    go_wp2_with fail
    refine (as_nil _ _).mono ?_
    rintro e w2 ⟨rfl, rfl⟩
    have c1 := (hr1.fr (Fr.alloc w1 (.cells #[.pointer none] 71))).c1
    go_wp2_with fail
    go_quiet (fail)
    go_wp2_with fail
    go_ret3
    rw [HE.out]
    exact ⟨rfl, hf1.trans ((Fr.alloc w1 _).trans (Fr.drewN _ _))⟩
  · have HE : Hid (rdV bs i = (0, i, false)) := hE
    have hf1 : Fr w w1 := hfr.then hg (fun j hj => by simp only [Option.some.injEq] at hj; omega)
    clear hE cn hrd hfr
    have ha := Fr.alloc w1 (.cells #[.pointer none] 71)
    have ca := as_hit ⟨b, 0, none⟩ ⟨w1.heap.size, 0, none⟩ (.pointer none) (w1.alloc (.cells #[.pointer none] 71)) (ha.cell (hf1.cell hv.et)) (by simp) (by simp)
    go_wp2_with fail
    refine ca.mono ?_
    have kg := asW_grown (w1.alloc (.cells #[.pointer none] 71)) w1.heap.size ⟨b, 0, none⟩
    have kc := asW_at (w1.alloc (.cells #[.pointer none] 71)) w1.heap.size ⟨b, 0, none⟩ (.pointer none) _ (heap_alloc_new w1 _)
    have hfb := hF.lt
    have kd := kg.cell (ha.cell hF.c0) (by simp; omega)
    obtain ⟨X, hX⟩ : ∃ X, X = asW (w1.alloc (.cells #[.pointer none] 71)) ⟨w1.heap.size, 0, none⟩ ⟨b, 0, none⟩ := ⟨_, rfl⟩
    rw [← hX] at kg kc kd
    rw [← hX]
    rintro e w2 ⟨rfl, rfl⟩
    clear hX
    go_wp2_with fail
    go_quiet (fail)
    go_wp2_with fail
    go_ret3
    rw [HE.out]
    exact ⟨rfl, ((hf1.trans ha).then kg (fun j hj => by simp only [Option.some.injEq] at hj; have := hf1.size; omega)).trans (Fr.drewN _ _)⟩
end Go.Proofs.YtlpmcfooaakdgaaDoor
