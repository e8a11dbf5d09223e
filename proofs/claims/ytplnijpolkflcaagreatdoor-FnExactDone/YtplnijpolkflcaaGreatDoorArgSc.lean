/-
  A scene that came in as an argument.
-/
import Derived.Test.YtplnijpolkflcaaGreatDoorPqBW
import Derived.Test.YtplnijpolkflcaaGreatDoorDone2
import Derived.ProofKit
import Derived.LaidMore
import Derived.OpenShut
import Derived.Stop.Joined
import Derived.OpenVars
import Derived.Deep.RegionHeld3
namespace Go.Proofs.YtplnijpolkflcaaGreatDoor
open Go.ChangeShapes Go.WideShapes Go.ChangeAt Go.RowKit

theorem cz_int64 : Tryz.prog.cellsOf 2 = 1 := by kernel_rfl
theorem cz_bool : Tryz.prog.cellsOf 4 = 1 := by kernel_rfl
theorem cz_ints : Tryz.prog.cellsOf 27 = 1 := by kernel_rfl
theorem cz_locks : Tryz.prog.cellsOf 50 = 1 := by kernel_rfl
theorem cz_chans : Tryz.prog.cellsOf 51 = 1 := by kernel_rfl
theorem cz_counts : Tryz.prog.cellsOf 52 = 1 := by kernel_rfl
theorem cz_lock : Tryz.prog.cellsOf 179 = 3 := by kernel_rfl
theorem cz_chan : Tryz.prog.cellsOf 186 = 5 := by kernel_rfl
theorem cz_count : Tryz.prog.cellsOf 188 = 2 := by kernel_rfl
theorem cz_scene : Tryz.prog.cellsOf 54 = 5 := by kernel_rfl

theorem fits64 {n : Int} (h : (Lit.int .i64 n).wf = true) : I64 n := by
  have := bounds_i64 h
  exact ⟨by omega, by omega⟩

/-- A list of things, one for each number below n. -/
theorem list_ofS {α : Type} (n : Nat) (P : Nat → α → Prop) (h : ∀ i, i < n → ∃ x, P i x) : ∃ l : List α, l.length = n ∧ ∀ i (hi : i < l.length), P i l[i] := by
  induction n with
  | zero => exact ⟨[], rfl, by simp⟩
  | succ n ih =>
    obtain ⟨l, hl, hp⟩ := ih (fun i hi => h i (by omega))
    obtain ⟨x, hx⟩ := h n (by omega)
    refine ⟨l ++ [x], by simp [hl], fun i hi => ?_⟩
    by_cases hin : i < l.length
    · rw [List.getElem_append_left hin]; exact hp i hin
    · have : i = n := by simp at hi; omega
      subst this
      rw [List.getElem_append_right (by omega)]
      simpa [hl] using hx

theorem readsG_of {α : Type} (L : Lay α) {a : Addr} {W : World} {n : Nat} (P : α → Prop) (hn : n ≤ 16777216) (h : ∀ i, i < n → ∃ x : α, P x ∧ ∀ k, k < L.sz → W.cell? ((a.add (i * L.sz)).add k) = (L.cs x)[k]?) :
    ∃ xs : List α, xs.length = n ∧ ReadsG L W (some a) xs ∧ ∀ x ∈ xs, P x := by
  obtain ⟨xs, hl, he⟩ := list_ofS n _ h
  refine ⟨xs, hl, ⟨by omega, fun i hi => ?_⟩, fun x hx => ?_⟩
  · obtain ⟨b, off, spot⟩ := a
    have hi0 : 0 < xs.length := by omega
    have hc := (he 0 hi0).2 0 L.pos
    have hspot : spot = none := by
      rw [List.getElem?_eq_getElem (by rw [L.len]; exact L.pos)] at hc
      have := World.cell?_spot hc
      simpa [Addr.add] using this
    subst hspot
    refine ⟨b, off, rfl, fun j hj k hk => ?_⟩
    have := (he j hj).2 k hk
    rw [Addr.add_lit, Addr.add_lit] at this
    exact this
  · obtain ⟨j, hj, rfl⟩ := List.mem_iff_getElem.1 hx
    exact (he j hj).1

section
variable {H : Type} {enc : TypeId × Value → H} {W : World} {base : Nat} {held : Bool} {fuel : Nat} {cs : List Value} {x : DataW H × List MemPlace}

theorem ints_of (hf : DataW.trod enc Tryz.prog W base (fun _ => true) held fuel 27 cs = some x) :
    ∃ ao n c, cs = [.slice ao n c] ∧ n ≤ 9223372036854775807 ∧ (ao = none → c = 0) ∧ (n ≤ 1048576 → ∃ xs, xs.length = n ∧ Reads W ao xs) := by
  rcases open_ints Tryz.underlying27 Tryz.underlying2 cz_int64 hf with ⟨rfl, _⟩ | ⟨a, l, c, zs, rfl, _, hl, hm, hz, _, hcell, hwz⟩
  · exact ⟨none, 0, 0, rfl, by omega, fun _ => rfl, fun _ => ⟨[], rfl, Reads.nil _ _⟩⟩
  · refine ⟨some a, l, c, rfl, (by unfold maxLen at hm; omega), (fun h => by cases h), fun hn => ⟨zs.take l, ?_⟩⟩
    have := reads_of_row (w := W) (a := some a) (len := l) (cap := c) (zs := zs) (.inr ⟨a, rfl, hl, hm, by simpa using hz, hcell, hwz⟩) (by omega)
    exact ⟨this.2, this.1⟩

def LvIn (w : World) (lv : Lv) : Prop := lv.rn ≤ 9223372036854775807 ∧ I64 lv.o ∧ I64 lv.wr ∧ (lv.ro = none → lv.rc = 0) ∧ (lv.rn ≤ 1048576 → ∃ rd, rd.length = lv.rn ∧ Reads w lv.ro rd)

set_option maxRecDepth 20000 in
theorem lv_of (hf : DataW.trod enc Tryz.prog W base (fun _ => true) held fuel 179 cs = some x) : ∃ lv : Lv, cs = layL.cs lv ∧ LvIn W lv := by
  obtain ⟨xs, m, -, hx, hl, hn, hfs⟩ := DataW.trod_struct Tryz.underlying179 hf
  rw [cz_lock] at hl
  match cs, hl with
  | [c0, c1, c2], _ =>
    match xs, hn with
    | [x0, x1, x2], _ =>
      have h0 := hfs 0 _ rfl
      have h1 := hfs 1 _ rfl
      have h2 := hfs 2 _ rfl
      simp [cz_int64, cz_ints] at h0 h1 h2
      obtain ⟨n0, e0, -, w0⟩ := DataW.trod_int Tryz.underlying2 h0
      obtain ⟨n1, e1, -, w1⟩ := DataW.trod_int Tryz.underlying2 h1
      obtain ⟨ao, n, c, e2, p1, p2, p3⟩ := ints_of h2
      simp at e0 e1 e2
      subst e0 e1 e2
      exact ⟨⟨n0, n1, ao, n, c⟩, rfl, p1, fits64 w0, fits64 w1, p2, p3⟩

set_option maxRecDepth 20000 in
theorem ch_of (hf : DataW.trod enc Tryz.prog W base (fun _ => true) held fuel 186 cs = some x) : ∃ c : Ch, cs = layC.cs c ∧ I64 c.o ∧ I64 c.cap ∧ I64 c.sent ∧ I64 c.got := by
  obtain ⟨xs, m, -, hx, hl, hn, hfs⟩ := DataW.trod_struct Tryz.underlying186 hf
  rw [cz_chan] at hl
  match cs, hl with
  | [c0, c1, c2, c3, c4], _ =>
    match xs, hn with
    | [x0, x1, x2, x3, x4], _ =>
      have h0 := hfs 0 _ rfl
      have h1 := hfs 1 _ rfl
      have h2 := hfs 2 _ rfl
      have h3 := hfs 3 _ rfl
      have h4 := hfs 4 _ rfl
      simp [cz_int64, cz_bool] at h0 h1 h2 h3 h4
      obtain ⟨n0, e0, -, w0⟩ := DataW.trod_int Tryz.underlying2 h0
      obtain ⟨n1, e1, -, w1⟩ := DataW.trod_int Tryz.underlying2 h1
      obtain ⟨n2, e2, -, w2⟩ := DataW.trod_int Tryz.underlying2 h2
      obtain ⟨n3, e3, -, w3⟩ := DataW.trod_int Tryz.underlying2 h3
      obtain ⟨b4, e4, -⟩ := DataW.trod_bool Tryz.underlying4 h4
      simp at e0 e1 e2 e3 e4
      subst e0 e1 e2 e3 e4
      exact ⟨⟨n0, n1, n2, n3, b4⟩, rfl, fits64 w0, fits64 w1, fits64 w2, fits64 w3⟩

set_option maxRecDepth 20000 in
theorem ct_of (hf : DataW.trod enc Tryz.prog W base (fun _ => true) held fuel 188 cs = some x) : ∃ c : Ct, cs = layN.cs c ∧ I64 c.o ∧ I64 c.n := by
  obtain ⟨xs, m, -, hx, hl, hn, hfs⟩ := DataW.trod_struct Tryz.underlying188 hf
  rw [cz_count] at hl
  match cs, hl with
  | [c0, c1], _ =>
    match xs, hn with
    | [x0, x1], _ =>
      have h0 := hfs 0 _ rfl
      have h1 := hfs 1 _ rfl
      simp [cz_int64] at h0 h1
      obtain ⟨n0, e0, -, w0⟩ := DataW.trod_int Tryz.underlying2 h0
      obtain ⟨n1, e1, -, w1⟩ := DataW.trod_int Tryz.underlying2 h1
      simp at e0 e1
      subst e0 e1
      exact ⟨⟨n0, n1⟩, rfl, fits64 w0, fits64 w1⟩

/-- A slice of structs that came in. -/
theorem rows_of {α : Type} (L : Lay α) {t e : TypeId} {P : α → Prop} (ht : Tryz.prog.underlying t = some (.slice e)) (hc : Tryz.prog.cellsOf e = L.sz)
    (he : ∀ (n : Nat) (cs : List Value) (x : DataW H × List MemPlace), DataW.trod enc Tryz.prog W base (fun _ => true) held n e cs = some x → ∃ y : α, cs = L.cs y ∧ P y)
    (hf : DataW.trod enc Tryz.prog W base (fun _ => true) held fuel t cs = some x) :
    ∃ ao n c, cs = [.slice ao n c] ∧ n ≤ 9223372036854775807 ∧ (n ≤ 1048576 → ∃ xs : List α, xs.length = n ∧ ReadsG L W ao xs ∧ ∀ y ∈ xs, P y) := by
  rcases DataW.trod_slice ht hf with ⟨rfl, _⟩ | ⟨a, l, c, elems, rest, n, -, rfl, -, hb, hlc, hcm, hel, hat, -, -⟩
  · exact ⟨none, 0, 0, rfl, by omega, fun _ => ⟨[], rfl, ReadsG.nil _ _ _, by simp⟩⟩
  · refine ⟨some a, l, c, rfl, (by unfold maxLen at hcm; omega), fun hn => readsG_of L P (by omega) fun i hi => ?_⟩
    have h1 := hat i hi
    rw [List.getElem?_eq_getElem (by omega), hc] at h1
    obtain ⟨ds, hds, htr⟩ := Option.bind_eq_some_iff.1 h1
    obtain ⟨y, rfl, hy⟩ := he _ _ _ htr
    exact ⟨y, hy, fun k hk => (World.cells?_some hds).2.2 k hk⟩
end

set_option maxRecDepth 20000 in
/-- A scene that came in. -/
theorem sc_of_arg {H : Type} {enc : TypeId × Value → H} {W : World} {base b0 : Nat} {held : Bool} {r : Reach} {v : Value} {d : DataW H} {p : List MemPlace}
    (hv : Value.okWide Tryz.prog W r b0 54 v) (h : DataW.Trod enc Tryz.prog W base (fun _ => true) held 54 v d p) : ∃ s : Sv, v = .agg #[.int .i64 s.g, .slice s.lo s.ll s.lc, .slice s.co s.cl s.cc, .slice s.no s.nl s.nc, .slice s.oo s.ol s.oc] ∧ InSc W s := by
  obtain ⟨cs, rfl, hsz⟩ := okWide_struct Tryz.underlying54 hv
  obtain ⟨fuel, hf⟩ := h
  obtain ⟨xs, m, -, hx, hl, hn, hfs⟩ := DataW.trod_struct Tryz.underlying54 hf
  rw [cz_scene] at hsz
  obtain ⟨l⟩ := cs
  match l, hsz with
  | [c0, c1, c2, c3, c4], _ =>
    match xs, hn with
    | [x0, x1, x2, x3, x4], _ =>
      have h0 := hfs 0 _ rfl
      have h1 := hfs 1 _ rfl
      have h2 := hfs 2 _ rfl
      have h3 := hfs 3 _ rfl
      have h4 := hfs 4 _ rfl
      simp [cz_int64, cz_locks, cz_chans, cz_counts, cz_ints, Value.cells] at h0 h1 h2 h3 h4
      obtain ⟨n0, e0, -, w0⟩ := DataW.trod_int Tryz.underlying2 h0
      obtain ⟨a1, n1, k1, e1, p1, q1⟩ := rows_of layL (P := LvIn W) Tryz.underlying50 cz_lock (fun _ _ _ hh => lv_of hh) h1
      obtain ⟨a2, n2, k2, e2, p2, q2⟩ := rows_of layC Tryz.underlying51 cz_chan (fun _ _ _ hh => ch_of hh) h2
      obtain ⟨a3, n3, k3, e3, p3, q3⟩ := rows_of layN Tryz.underlying52 cz_count (fun _ _ _ hh => ct_of hh) h3
      obtain ⟨a4, n4, k4, e4, p4, z4, q4⟩ := ints_of h4
      simp at e0 e1 e2 e3 e4
      subst e0 e1 e2 e3 e4
      exact ⟨⟨n0, a1, n1, k1, a2, n2, k2, a3, n3, k3, a4, n4, k4⟩, rfl, { ig := fits64 w0, ml := p1, mc := p2, mn := p3, mo := p4, lks := q1, chs := q2, cts := q3, ons := q4, zo := z4 }⟩
end Go.Proofs.YtplnijpolkflcaaGreatDoor
