/-
  A sampler that came in as an argument.
-/
import Derived.Test.YtkfcchapfklpgaaOwK
import Derived.Test.YtkfcchapfklpgaaArgBu
import Derived.Test.YtkfcchapfklpgaaRowG
import Derived.ProofKit
import Derived.LaidMore
import Derived.OpenShut
import Derived.Stop.Joined
import Derived.OpenVars
import Derived.Deep.RegionHeld3
namespace Go.Proofs.Ytkfcchapfklpgaa
open Go.ChangeShapes Go.WideShapes Go.ChangeAt Go.RowKit

theorem cz_own : Try.prog.cellsOf 81 = 5 := by kernel_rfl
theorem cz_burst : Try.prog.cellsOf 79 = 3 := by kernel_rfl
theorem cz_owns : Try.prog.cellsOf 24 = 1 := by kernel_rfl
theorem cz_sampler : Try.prog.cellsOf 26 = 3 := by kernel_rfl

/-- A list of things, one for each number below n. -/
theorem list_ofO {α : Type} (n : Nat) (P : Nat → α → Prop) (h : ∀ i, i < n → ∃ x, P i x) : ∃ l : List α, l.length = n ∧ ∀ i (hi : i < l.length), P i l[i] := by
  induction n with
  | zero => exact ⟨[], rfl, by simp⟩
  | succ n ih =>
    obtain ⟨l, hl, hp⟩ := ih (fun i hi => h i (by omega))
    obtain ⟨x, hx⟩ := h n (by omega)
    refine ⟨l ++ [x], by simp [hl], fun i hi => ?_⟩
    by_cases hin : i < l.length
    · rw [List.getElem_append_left hin]; exact hp i hin
    · have : i = n := by simp at hi; omega
      subst this
      rw [List.getElem_append_right (by omega)]
      simpa [hl] using hx
theorem readsO_of {α : Type} (L : Lay α) {a : Addr} {W : World} {n : Nat} (P : α → Prop) (hn : n ≤ 16777216) (h : ∀ i, i < n → ∃ x : α, P x ∧ ∀ k, k < L.sz → W.cell? ((a.add (i * L.sz)).add k) = (L.cs x)[k]?) :
    ∃ xs : List α, xs.length = n ∧ ReadsG L W (some a) xs ∧ ∀ x ∈ xs, P x := by
  obtain ⟨xs, hl, he⟩ := list_ofO n _ h
  refine ⟨xs, hl, ⟨by omega, fun i hi => ?_⟩, fun x hx => ?_⟩
  · obtain ⟨b, off, spot⟩ := a
    have hi0 : 0 < xs.length := by omega
    have hc := (he 0 hi0).2 0 L.pos
    have hspot : spot = none := by
      rw [List.getElem?_eq_getElem (by rw [L.len]; exact L.pos)] at hc
      have := World.cell?_spot hc
      simpa [Addr.add] using this
    subst hspot
    refine ⟨b, off, rfl, fun j hj k hk => ?_⟩
    have := (he j hj).2 k hk
    rw [Addr.add_lit, Addr.add_lit] at this
    exact this
  · obtain ⟨j, hj, rfl⟩ := List.mem_iff_getElem.1 hx
    exact (he j hj).1

/-- The numbers of an Own fit. -/
def OwI (o : Ow) : Prop := I64 o.g ∧ I64 o.f ∧ BuI o.b

section
variable {H : Type} {enc : TypeId × Value → H} {W : World} {base : Nat} {held : Bool} {fuel : Nat} {cs : List Value} {x : DataW H × List MemPlace}
set_option maxRecDepth 20000 in
theorem bu_of (hf : DataW.trod enc Try.prog W base (fun _ => true) held fuel 79 cs = some x) : ∃ b : Bu, cs = [.int .i64 b.l, .int .i64 b.s, .int .i64 b.g] ∧ BuI b := by
  obtain ⟨xs, m, -, hx, hl, hn, hfs⟩ := DataW.trod_struct Try.underlying79 hf
  rw [cz_burst] at hl
  match cs, hl with
  | [c0, c1, c2], _ =>
    match xs, hn with
    | [x0, x1, x2], _ =>
      have h0 := hfs 0 _ rfl
      have h1 := hfs 1 _ rfl
      have h2 := hfs 2 _ rfl
      simp [cells_c64] at h0 h1 h2
      obtain ⟨n0, e0, -, w0⟩ := DataW.trod_int Try.underlying2 h0
      obtain ⟨n1, e1, -, w1⟩ := DataW.trod_int Try.underlying2 h1
      obtain ⟨n2, e2, -, w2⟩ := DataW.trod_int Try.underlying2 h2
      simp at e0 e1 e2
      subst e0 e1 e2
      exact ⟨⟨n0, n1, n2⟩, rfl, fitC w0, fitC w1, fitC w2⟩
set_option maxRecDepth 20000 in
theorem own_of (hf : DataW.trod enc Try.prog W base (fun _ => true) held fuel 81 cs = some x) : ∃ o : Ow, cs = LO.cs o ∧ OwI o := by
  obtain ⟨xs, m, -, hx, hl, hn, hfs⟩ := DataW.trod_struct Try.underlying81 hf
  rw [cz_own] at hl
  match cs, hl with
  | [c0, c1, c2, c3, c4], _ =>
    match xs, hn with
    | [x0, x1, x2], _ =>
      have h0 := hfs 0 _ rfl
      have h1 := hfs 1 _ rfl
      have h2 := hfs 2 _ rfl
      simp [cells_c64, cz_burst] at h0 h1 h2
      obtain ⟨n0, e0, -, w0⟩ := DataW.trod_int Try.underlying2 h0
      obtain ⟨n1, e1, -, w1⟩ := DataW.trod_int Try.underlying2 h1
      obtain ⟨b, e2, w2⟩ := bu_of h2
      simp at e0 e1 e2
      obtain ⟨rfl, rfl, rfl⟩ := e2
      subst e0 e1
      exact ⟨⟨n0, n1, b⟩, rfl, fitC w0, fitC w1, w2⟩
theorem owns_of (hf : DataW.trod enc Try.prog W base (fun _ => true) held fuel 24 cs = some x) :
    ∃ ao n c, cs = [.slice ao n c] ∧ n ≤ 9223372036854775807 ∧ (n ≤ 1048576 → ∃ xs : List Ow, xs.length = n ∧ ReadsG LO W ao xs ∧ ∀ y ∈ xs, OwI y) := by
  rcases DataW.trod_slice Try.underlying24 hf with ⟨rfl, _⟩ | ⟨a, l, c, elems, rest, n, -, rfl, -, hb, hlc, hcm, hel, hat, -, -⟩
  · exact ⟨none, 0, 0, rfl, by omega, fun _ => ⟨[], rfl, ReadsG.nil _ _ _, by simp⟩⟩
  · refine ⟨some a, l, c, rfl, (by unfold maxLen at hcm; omega), fun hn => readsO_of LO OwI (by omega) fun i hi => ?_⟩
    have h1 := hat i hi
    rw [List.getElem?_eq_getElem (by omega), cz_own] at h1
    obtain ⟨ds, hds, htr⟩ := Option.bind_eq_some_iff.1 h1
    obtain ⟨y, rfl, hy⟩ := own_of htr
    exact ⟨y, hy, fun k hk => (World.cells?_some hds).2.2 k hk⟩
end

/-- A sampler that came in. -/
structure Sm where
  ao : Option Addr
  n : Nat
  c : Nat
  p : Int
  u : Int
structure InSm (W : World) (s : Sm) : Prop where
  ip : I64 s.p
  iu : I64 s.u
  mx : s.n ≤ 9223372036854775807
  os : s.n ≤ 1048576 → ∃ os : List Ow, os.length = s.n ∧ ReadsG LO W s.ao os ∧ ∀ o ∈ os, OwI o

set_option maxRecDepth 20000 in
theorem sm_of_arg {H : Type} {enc : TypeId × Value → H} {W : World} {base b0 : Nat} {held : Bool} {r : Reach} {v : Value} {d : DataW H} {p : List MemPlace}
    (hv : Value.okWide Try.prog W r b0 26 v) (h : DataW.Trod enc Try.prog W base (fun _ => true) held 26 v d p) : ∃ s : Sm, v = .agg #[.slice s.ao s.n s.c, .int .i64 s.p, .int .i64 s.u] ∧ InSm W s := by
  obtain ⟨cs, rfl, hsz⟩ := okWide_struct Try.underlying26 hv
  obtain ⟨fuel, hf⟩ := h
  obtain ⟨xs, m, -, hx, hl, hn, hfs⟩ := DataW.trod_struct Try.underlying26 hf
  rw [cz_sampler] at hsz
  obtain ⟨l⟩ := cs
  match l, hsz with
  | [c0, c1, c2], _ =>
    match xs, hn with
    | [x0, x1, x2], _ =>
      have h0 := hfs 0 _ rfl
      have h1 := hfs 1 _ rfl
      have h2 := hfs 2 _ rfl
      simp [cells_c64, cz_owns, Value.cells] at h0 h1 h2
      obtain ⟨a1, n1, k1, e0, p1, q1⟩ := owns_of h0
      obtain ⟨m1, e1, -, w1⟩ := DataW.trod_int Try.underlying2 h1
      obtain ⟨m2, e2, -, w2⟩ := DataW.trod_int Try.underlying2 h2
      simp at e0 e1 e2
      subst e0 e1 e2
      exact ⟨⟨a1, n1, k1, m1, m2⟩, rfl, ⟨fitC w1, fitC w2, p1, q1⟩⟩
end Go.Proofs.Ytkfcchapfklpgaa
