/-
  A slice of events that came in.
-/
import Derived.Test.YtikjodbboljhjaaDoorDoor
import Derived.Test.YtikjodbboljhjaaDoorEvs
namespace Go.Proofs.YtikjodbboljhjaaDoor
open Go.ChangeShapes Go.WideShapes Go.ChangeAt Go.RowKit

set_option maxRecDepth 20000 in
/-- Eight cells that read as an event are its eight numbers. -/
theorem ev_of_cells {H : Type} {enc : TypeId × Value → H} {W : World} {base : Nat} {sp : Nat → Bool} {held : Bool} {fuel : Nat} {cs : List Value} {x : DataW H × List MemPlace}
    (hf : DataW.trod enc Tryd.prog W base sp held fuel 40 cs = some x) : ∃ e : Ev, cs = evCells e := by
  obtain ⟨xs, m, -, hx, hl, hn, hfs⟩ := DataW.trod_struct Tryd.underlying40 hf
  rw [cells_ev] at hl
  match cs, hl with
  | [c0, c1, c2, c3, c4, c5, c6, c7], _ =>
    match xs, hn with
    | [x0, x1, x2, x3, x4, x5, x6, x7], _ =>
      have h0 := hfs 0 _ rfl
      have h1 := hfs 1 _ rfl
      have h2 := hfs 2 _ rfl
      have h3 := hfs 3 _ rfl
      have h4 := hfs 4 _ rfl
      have h5 := hfs 5 _ rfl
      have h6 := hfs 6 _ rfl
      have h7 := hfs 7 _ rfl
      simp [cells_int64] at h0 h1 h2 h3 h4 h5 h6 h7
      obtain ⟨n0, e0, -, w0⟩ := DataW.trod_int Tryd.underlying2 h0
      obtain ⟨n1, e1, -, w1⟩ := DataW.trod_int Tryd.underlying2 h1
      obtain ⟨n2, e2, -, w2⟩ := DataW.trod_int Tryd.underlying2 h2
      obtain ⟨n3, e3, -, w3⟩ := DataW.trod_int Tryd.underlying2 h3
      obtain ⟨n4, e4, -, w4⟩ := DataW.trod_int Tryd.underlying2 h4
      obtain ⟨n5, e5, -, w5⟩ := DataW.trod_int Tryd.underlying2 h5
      obtain ⟨n6, e6, -, w6⟩ := DataW.trod_int Tryd.underlying2 h6
      obtain ⟨n7, e7, -, w7⟩ := DataW.trod_int Tryd.underlying2 h7
      simp at e0 e1 e2 e3 e4 e5 e6 e7
      subst e0 e1 e2 e3 e4 e5 e6 e7
      exact ⟨⟨n0, n1, n2, n3, n4, n5, n6, n7⟩, rfl⟩

/-- A list of things, one for each number below n. -/
theorem list_of {α : Type} (n : Nat) (P : Nat → α → Prop) (h : ∀ i, i < n → ∃ x, P i x) : ∃ l : List α, l.length = n ∧ ∀ i (hi : i < l.length), P i l[i] := by
  induction n with
  | zero => exact ⟨[], rfl, by simp⟩
  | succ n ih =>
    obtain ⟨l, hl, hp⟩ := ih (fun i hi => h i (by omega))
    obtain ⟨x, hx⟩ := h n (by omega)
    refine ⟨l ++ [x], by simp [hl], fun i hi => ?_⟩
    by_cases hin : i < l.length
    · rw [List.getElem_append_left hin]; exact hp i hin
    · have : i = n := by simp at hi; omega
      subst this
      rw [List.getElem_append_right (by omega)]
      simpa [hl] using hx

/-- What is known of a slice of events that came in. -/
def IsEvs (w : World) (ao : Option Addr) (len : Nat) : Prop := len ≤ maxLen ∧ ∃ es : List Ev, es.length = len ∧ (len ≤ 16777216 → ReadsE w ao es)

theorem evs_of_arg {H : Type} {enc : TypeId × Value → H} {W : World} {base : Nat} {sp : Nat → Bool} {held : Bool} {ao : Option Addr} {len cap : Nat} {d : DataW H} {p : List MemPlace}
    (h : DataW.Trod enc Tryd.prog W base sp held 22 (.slice ao len cap) d p) : IsEvs W ao len := by
  obtain ⟨fuel, hf⟩ := h
  rcases DataW.trod_slice Tryd.underlying22 hf with ⟨hcs, _⟩ | ⟨a, l, c, elems, rest, n, -, hcs, -, hb, hlc, hcm, hel, hat, -, -⟩
  · simp [Value.cells] at hcs
    obtain ⟨rfl, rfl, rfl⟩ := hcs
    exact ⟨by unfold maxLen; omega, [], rfl, fun _ => ReadsE.nil _ _⟩
  · simp [Value.cells] at hcs
    obtain ⟨rfl, rfl, rfl⟩ := hcs
    rw [cells_ev] at hat
    have each : ∀ i, i < len → ∃ e : Ev, ∀ k, k < 8 → W.cell? ((a.add (i * 8)).add k) = (evCells e)[k]? := by
      intro i hi
      have h1 := hat i hi
      rw [List.getElem?_eq_getElem (by omega)] at h1
      obtain ⟨cs, hcs, htr⟩ := Option.bind_eq_some_iff.1 h1
      obtain ⟨e, rfl⟩ := ev_of_cells htr
      refine ⟨e, fun k hk => ?_⟩
      exact (World.cells?_some hcs).2.2 k hk
    obtain ⟨es, hl, he⟩ := list_of len _ each
    refine ⟨by omega, es, hl, fun hlen => ⟨by omega, fun i hi => ?_⟩⟩
    obtain ⟨b, off, spot⟩ := a
    have hi0 : 0 < es.length := by omega
    have hc := he 0 hi0 0 (by omega)
    have hspot : spot = none := by
      have h2 : W.cell? (((⟨b, off, spot⟩ : Addr).add (0 * 8)).add 0) = some (.int .i64 es[0].k) := hc
      have := World.cell?_spot h2
      simpa [Addr.add] using this
    subst hspot
    refine ⟨b, off, rfl, fun j hj => EvC.of fun k hk => ?_⟩
    have := he j hj k hk
    rw [Addr.add_lit, Addr.add_lit] at this
    exact this
end Go.Proofs.YtikjodbboljhjaaDoor
