/-
  Pack BK: Edges.
-/
import Derived.Test.YtplnijpolkflcaaGreatDoorPqBJ
import Derived.Test.YtplnijpolkflcaaGreatDoorPqBG
import Derived.Test.YtplnijpolkflcaaGreatDoorPqAX
import Derived.Test.YtplnijpolkflcaaGreatDoorPqBE
namespace Go.Proofs.YtplnijpolkflcaaGreatDoor
open Go.RowKit

theorem leg_snocE {e : Ev} : ∀ (es : List Ev) (m0 m : Scn), legS m0 es = (m, es.length, 0) → codeIn m e = 0 → legS m0 (es ++ [e]) = (doS m e, es.length + 1, 0)
  | [], m0, m, h, hc => by
    simp only [legS, Prod.mk.injEq] at h
    obtain ⟨rfl, -⟩ := h
    simp [legS, hc]
  | x :: es, m0, m, h, hc => by
    by_cases q : codeIn m0 x = 0
    · rw [leg_go q] at h
      simp only [Prod.mk.injEq, List.length_cons] at h
      have h2 : legS (doS m0 x) es = (m, es.length, 0) := by
        refine Prod.ext h.1 (Prod.ext ?_ h.2.2)
        have := h.2.1
        simp only
        omega
      rw [List.cons_append, leg_go q, leg_snocE es _ m h2 hc]
      simp
    · rw [leg_no q] at h
      simp at h

def scA (es : List Ev) (k : Nat) : Scn := (legS scn0 (es.take k)).1
def tJ (es : List Ev) (k : Nat) : List Tch := tchL (evA es k) (slotC (scA es k) (evA es k))
def pst (es : List Ev) : Nat → (Nat → Nat)
  | 0 => fun _ => 0
  | k + 1 => if (evA es k).k = 1 then setN (pst es k) (evA es k).o.toNat (2 ^ k) else pst es k
def pla (es : List Ev) : Nat → (Nat → Nat)
  | 0 => fun _ => 0
  | k + 1 => laE (pla es k) k (gorsL (evA es k))
def pgi (es : List Ev) : Nat → (Int → Int → Int → Nat)
  | 0 => fun _ _ _ => 0
  | k + 1 => giE (pgi es k) k (tJ es k)
def edN (es : List Ev) (k : Nat) : Nat := thE (pgi es k) (goE (pst es k) (pla es k) (gorsL (evA es k))) (tJ es k)
def rk0 (es : List Ev) (k : Nat) : List (Nat × Nat) := (List.range k).map fun j => (edN es j, 0)
theorem rk0_len (es : List Ev) (k : Nat) : (rk0 es k).length = k := by simp [rk0]
theorem rk0_succ (es : List Ev) (k : Nat) : rk0 es (k + 1) = rk0 es k ++ [(edN es k, 0)] := by simp [rk0, List.range_succ]
theorem tchL_in {e : Ev} {z : Int} (hz : I64 z) (ho : I64 e.o) : (tchL e z).length ≤ 2 ∧ ∀ t ∈ tchL e z, T64 t := by
  have i0 : I64 0 := i64_small (by omega)
  have s : ∀ n : Int, 0 ≤ n → n ≤ 7 → I64 n := fun n _ _ => i64_small (by omega)
  have one : ∀ t : Tch, T64 t → ([t] : List Tch).length ≤ 2 ∧ ∀ u ∈ [t], T64 u := fun t ht => ⟨by simp, fun u hu => by simp only [List.mem_singleton] at hu; subst hu; exact ht⟩
  unfold tchL
  by_cases h2 : e.k = 2
  · rw [if_pos h2]
    refine ⟨by simp, fun u hu => ?_⟩
    simp only [List.mem_cons, List.not_mem_nil, or_false] at hu
    rcases hu with rfl | rfl
    · exact ⟨s 1 (by omega) (by omega), ho, i0⟩
    · exact ⟨s 2 (by omega) (by omega), ho, i0⟩
  rw [if_neg h2]
  by_cases h3 : e.k = 3
  · rw [if_pos h3]
    exact one _ ⟨s 1 (by omega) (by omega), ho, i0⟩
  rw [if_neg h3]
  by_cases h4 : e.k = 4
  · rw [if_pos h4]
    exact one _ ⟨s 1 (by omega) (by omega), ho, i0⟩
  rw [if_neg h4]
  by_cases h5 : e.k = 5
  · rw [if_pos h5]
    exact one _ ⟨s 2 (by omega) (by omega), ho, i0⟩
  rw [if_neg h5]
  by_cases h7 : e.k = 7 ∨ e.k = 8
  · rw [if_pos h7]
    exact one _ ⟨s 3 (by omega) (by omega), ho, hz⟩
  rw [if_neg h7]
  by_cases h10 : e.k = 10
  · rw [if_pos h10]
    exact one _ ⟨s 4 (by omega) (by omega), ho, i0⟩
  rw [if_neg h10]
  by_cases h11 : e.k = 11
  · rw [if_pos h11]
    exact one _ ⟨s 4 (by omega) (by omega), ho, i0⟩
  rw [if_neg h11]
  by_cases h13 : e.k = 13
  · rw [if_pos h13]
    exact one _ ⟨s 5 (by omega) (by omega), ho, i0⟩
  rw [if_neg h13]
  by_cases h14 : e.k = 14
  · rw [if_pos h14]
    exact one _ ⟨s 5 (by omega) (by omega), ho, i0⟩
  rw [if_neg h14]
  by_cases h15 : e.k = 15
  · rw [if_pos h15]
    exact one _ ⟨s 6 (by omega) (by omega), ho, i0⟩
  rw [if_neg h15]
  by_cases h16 : e.k = 16
  · rw [if_pos h16]
    exact one _ ⟨s 6 (by omega) (by omega), ho, i0⟩
  rw [if_neg h16]
  by_cases h17 : e.k = 17
  · rw [if_pos h17]
    exact one _ ⟨s 7 (by omega) (by omega), ho, i0⟩
  rw [if_neg h17]
  by_cases h18 : e.k = 18
  · rw [if_pos h18]
    exact one _ ⟨s 7 (by omega) (by omega), ho, i0⟩
  rw [if_neg h18]
  by_cases h19 : e.k = 19
  · rw [if_pos h19]
    exact one _ ⟨s 7 (by omega) (by omega), ho, i0⟩
  rw [if_neg h19]
  exact ⟨by simp, fun u hu => by simp at hu⟩
theorem slot_in {m : Scn} {e : Ev} (hc : codeIn m e = 0) : (tchL e (slotC m e)).length ≤ 2 ∧ ∀ t ∈ tchL e (slotC m e), T64 t := by
  have hp := code_parts hc
  have ho := evOk_o hp.1
  by_cases hk : e.k = 7 ∨ e.k = 8
  · obtain ⟨c, hf, h0⟩ := (code_chan hc (by omega) (by omega)).2 (by omega)
    have q1 := chan_in hp.2.1 e.o
    rw [(chanOf_some hf).1] at q1
    have e1 := (chanOf_some hf).2.1
    refine tchL_in ?_ (i64_small (by omega))
    unfold slotC
    rw [e1]
    have := h0 hk
    have b : ∀ x : Int, 0 ≤ x → x ≤ 1000000 → I64 (x.tmod c.cap) := by
      intro x hx hx2
      have h1 := Int.tmod_lt_of_pos x (show 0 < c.cap by omega)
      have h2 := Int.tmod_nonneg c.cap hx
      exact i64_small (by omega)
    split
    · exact b _ (by omega) (by omega)
    · exact b _ (by omega) (by omega)
  · have : tchL e (slotC m e) = tchL e 0 := by
      unfold tchL
      simp only [hk, if_false]
    rw [this]
    exact tchL_in (i64_small (by omega)) (i64_small (by omega))
theorem PastW.monoM {lo : Nat × Nat} {w : World} {p gm b b1 b2 b3 b4 nb nm nm' : Nat} {m : Scn} {st la : Nat → Nat} {G : Int → Int → Int → Nat} (h : PastW lo w p gm b b1 b2 b3 b4 nb nm m st la G) (hn : nm ≤ nm') : PastW lo w p gm b b1 b2 b3 b4 nb nm' m st la G := { h with mt := h.mt.mono hn }
theorem leg_take_go {es : List Ev} {k : Nat} {m : Scn} (hk : k < es.length) (h : legS scn0 (es.take k) = (m, k, 0)) (hc : codeIn m es[k] = 0) : legS scn0 (es.take (k + 1)) = (doS m es[k], k + 1, 0) := by
  have hl : (es.take k).length = k := by simp; omega
  have := leg_snocE (e := es[k]) (es.take k) scn0 m (by rw [hl]; exact h) hc
  rw [List.take_succ_eq_append_getElem hk, this, hl]

set_option maxRecDepth 20000 in
set_option maxHeartbeats 8000000 in
theorem edgesOf_any (ao : Option Addr) (n c : Nat) (es : List Ev) (w : World) (hn : es.length = n) (h : ReadsE w ao es) (hs : Shapes w) (hab : ∀ k, blk ao = some k → k < w.heap.size) (hl : es.length ≤ 300) :
    Calls Tryz.prog 144 #[.slice ao n c] w fun x w' => ∃ v, x = .returned v ∧ OwnR w' w.heap.size v (rk0 es (legS scn0 es).2.1) ∧ Fr w w' := by
  subst hn
  have cT := fun u => isTrace_any ao es.length c u
  have e2 : decide ((es.length : Int) ≤ 300) = true := by simp; omega
  simp only [e2] at cT
  clear e2
  have fA := Fr.alloc w (.cells #[] 102)
  have oA := ownR_new w w.heap.size (Nat.le_refl _)
  go_enter Tryz.func144, Tryz.ntmps144
  go_wp2_with fail
  refine (cT _).mono ?_
  rintro e u0 ⟨rfl, rfl⟩
  clear cT
  go_wp2_with fail
  refine (newPast_any _).mono ?_
  rintro x u1 ⟨lo, p, gm, b, b1, b2, b3, b4, rfl, P1, hlo, hsz, hb1, f1⟩
  have oA := oA.fr f1
  have F1 := fA.trans f1
  have HB : Hid (w.heap.size < b1 ∧ b1 ≤ b ∧ b < gm ∧ gm < p ∧ lo.2 = p + 1 ∧ p < u1.heap.size ∧ w.heap.size < p) := by
    have := P1.ne
    have := P1.bd.lt
    rw [World.size_alloc] at hb1
    exact ⟨by omega, by omega, by omega, by omega, by omega, by omega, by omega⟩
  clear fA hb1 hlo f1 hsz
  go_wp2_with fail
  go_loopw [3, 16] (fun v i wr => ∃ (q nm g : Nat) (m : Scn), q ≤ es.length ∧ i = .int .i64 q ∧ Hid (LegAt es q m ∧ legS scn0 (es.take q) = (m, q, 0) ∧ scB m = true) ∧ nm ≤ 2 * q ∧ PastW lo wr p gm b b1 b2 b3 b4 (1048576 + q) nm m (pst es q) (pla es q) (pgi es q) ∧ OwnR wr w.heap.size v (rk0 es q) ∧ v.ownBlock = some g ∧ (g < b1 ∨ p < g) ∧ Fr w wr) (fun _ i _ => es.length - (intOf i).toNat)
  case atStart => exact ⟨0, 0, w.heap.size, scn0, Nat.zero_le _, rfl, ⟨LegAt.start es, rfl, by decide⟩, Nat.le_refl _, P1, oA, rfl, .inl HB.out.1, F1⟩
  case round =>
    obtain ⟨q, nm, g, m, hq, rfl, HL, hnm, hP, hO, hg, hgb, hF⟩ := hrel
    by_cases hlt : q < es.length
    · obtain ⟨eb, off, rfl, hev⟩ := (h.fr hF).at_ q hlt
      have ev := hev q hlt
      have HE : Hid (evA es q = es[q]) := evA_at hlt
      have HS : Hid (scA es q = m) := by unfold scA; rw [HL.out.2.1]; exact rfl
      have HX : Hid (codeIn m es[q] = 0 → LegAt es (q + 1) (doS m es[q]) ∧ legS scn0 (es.take (q + 1)) = (doS m es[q], q + 1, 0) ∧ scB (doS m es[q]) = true) := fun hc => ⟨HL.out.1.next hlt hc, leg_take_go hlt HL.out.2.1 hc, do_ok hc⟩
      have HY : Hid (¬ codeIn m es[q] = 0 → (legS scn0 es).2.1 = q) := fun hc => by rw [HL.out.1.stop hlt hc]
      have hmb := HL.out.2.2
      have HM : Hid (scB m = true) := hmb
      obtain ⟨E, hE⟩ : ∃ E, E = es[q] := ⟨_, rfl⟩
      rw [← hE] at ev HE HX HY
      clear hE hev
      have hqi : (q : Int) < es.length := by omega
      obtain ⟨k, gr, o, wi, l, sz, f, t⟩ := E
      obtain ⟨d0, d1, d2, d3, d4, d5, d6, d7⟩ := ev
      simp only at d0 d1 d2 d3 d4 d5 d6 d7
      have f5 := Fr.alloc wr (.cells #[.int .i64 k, .int .i64 gr, .int .i64 o, .int .i64 wi, .int .i64 l, .int .i64 sz, .int .i64 f, .int .i64 t] 31)
      have k5 := heap_alloc_new wr (.cells #[.int .i64 k, .int .i64 gr, .int .i64 o, .int .i64 wi, .int .i64 l, .int .i64 sz, .int .i64 f, .int .i64 t] 31)
      go_wp2_with fail
      obtain ⟨V, hV⟩ : ∃ V, V = wr.alloc (.cells #[.int .i64 k, .int .i64 gr, .int .i64 o, .int .i64 wi, .int .i64 l, .int .i64 sz, .int .i64 f, .int .i64 t] 31) := ⟨_, rfl⟩
      rw [← hV] at f5 k5 ⊢
      obtain ⟨EB, hEB⟩ : ∃ EB, EB = wr.heap.size := ⟨_, rfl⟩
      rw [← hEB] at k5 ⊢
      have HEB : Hid (g < EB ∧ w.heap.size ≤ g) := by
        obtain ⟨g', e1, e2, e3⟩ := hO.ge
        rw [hg] at e1
        cases e1
        exact ⟨by omega, e2⟩
      clear hV hEB d0 d1 d2 d3 d4 d5 d6 d7
      have PV := hP.fr f5
      have OV := hO.fr f5
      have FV := hF.trans f5
      have HQ : Hid (∀ u, Fr V u → u.cell? ⟨p, 0, none⟩ = some (.pointer (some ⟨b, 0, none⟩)) ∧ u.cell? ⟨EB, 0, none⟩ = some (.int .i64 k) ∧ u.cell? ⟨EB, 1, none⟩ = some (.int .i64 gr) ∧ u.cell? ⟨EB, 2, none⟩ = some (.int .i64 o) ∧ u.cell? ⟨EB, 3, none⟩ = some (.int .i64 wi) ∧ u.cell? ⟨EB, 4, none⟩ = some (.int .i64 l) ∧ u.cell? ⟨EB, 5, none⟩ = some (.int .i64 sz) ∧ u.cell? ⟨EB, 6, none⟩ = some (.int .i64 f) ∧ u.cell? ⟨EB, 7, none⟩ = some (.int .i64 t)) := fun u fu => ⟨fu.cell PV.pt, fu.cell (cell_of_row _ _ 0 _ _ _ k5), fu.cell (cell_of_row _ _ 1 _ _ _ k5), fu.cell (cell_of_row _ _ 2 _ _ _ k5), fu.cell (cell_of_row _ _ 3 _ _ _ k5), fu.cell (cell_of_row _ _ 4 _ _ _ k5), fu.cell (cell_of_row _ _ 5 _ _ _ k5), fu.cell (cell_of_row _ _ 6 _ _ _ k5), fu.cell (cell_of_row _ _ 7 _ _ _ k5)⟩
      have cC := fun u (fu : Fr V u) => codeM_all ⟨k, gr, o, wi, l, sz, f, t⟩ u (PV.bd.fr fu).toM hmb (hs.fr (FV.trans fu))
      have cU := fun (hc : codeIn m ⟨k, gr, o, wi, l, sz, f, t⟩ = 0) u (fu : Fr V u) => touches_any ⟨k, gr, o, wi, l, sz, f, t⟩ u (PV.bd.fr fu).toM hc
      simp only at cC cU
      obtain ⟨C, hC⟩ : ∃ C, C = codeIn m ⟨k, gr, o, wi, l, sz, f, t⟩ := ⟨_, rfl⟩
      simp only [← hC] at cC cU HX HY
      have HC : Hid (C = codeIn m ⟨k, gr, o, wi, l, sz, f, t⟩) := hC
      clear hC hP hO hF f5 hmb
      obtain ⟨p0, c0, c1, c2, c3, c4, c5, c6, c7⟩ := HQ.out V (Fr.refl V)
      go_region_held3 (fun u => u.cell? ⟨p, 0, none⟩ = some (.pointer (some ⟨b, 0, none⟩)) ∧ u.cell? ⟨EB, 0, none⟩ = some (.int .i64 k) ∧ u.cell? ⟨EB, 1, none⟩ = some (.int .i64 gr) ∧ u.cell? ⟨EB, 2, none⟩ = some (.int .i64 o) ∧ u.cell? ⟨EB, 3, none⟩ = some (.int .i64 wi) ∧ u.cell? ⟨EB, 4, none⟩ = some (.int .i64 l) ∧ u.cell? ⟨EB, 5, none⟩ = some (.int .i64 sz) ∧ u.cell? ⟨EB, 6, none⟩ = some (.int .i64 f) ∧ u.cell? ⟨EB, 7, none⟩ = some (.int .i64 t)) (go_keep)
        (first | (go_at_call 58; refine (cC _ (Fr.drew V)).mono ?_; rintro x z3 ⟨rfl, f3⟩; have g3 := (Fr.drew V).trans f3; obtain ⟨r0, y0, y1, y2, y3, y4, y5, y6, y7⟩ := HQ.out _ g3))
      all_goals
        clear p0 c0 c1 c2 c3 c4 c5 c6 c7 cC
        by_cases hC0 : C = 0
        · have hCb : (C != 0) = false := by simp [hC0]
          have cU := cU hC0
          have HX := HX.out hC0
          have HX : Hid _ := HX
          have hc0 : codeIn m ⟨k, gr, o, wi, l, sz, f, t⟩ = 0 := by rw [← HC.out]; exact hC0
          have HCC : Hid (codeIn m ⟨k, gr, o, wi, l, sz, f, t⟩ = 0) := hc0
          obtain ⟨ht2, htT⟩ := slot_in hc0
          have HN : Hid (edN es q = thE (pgi es q) (goE (pst es q) (pla es q) (gorsL ⟨k, gr, o, wi, l, sz, f, t⟩)) (tchL ⟨k, gr, o, wi, l, sz, f, t⟩ (slotC m ⟨k, gr, o, wi, l, sz, f, t⟩))) := by unfold edN tJ; rw [HE.out, HS.out]; exact rfl
          have HJ : Hid (tJ es q = tchL ⟨k, gr, o, wi, l, sz, f, t⟩ (slotC m ⟨k, gr, o, wi, l, sz, f, t⟩)) := by unfold tJ; rw [HE.out, HS.out]; exact rfl
          have HP1 : Hid (pst es (q + 1) = if k = 1 then setN (pst es q) o.toNat (2 ^ q) else pst es q) := by
            show (if (evA es q).k = 1 then setN (pst es q) (evA es q).o.toNat (2 ^ q) else pst es q) = _
            rw [HE.out]
          have HP2 : Hid (pla es (q + 1) = laE (pla es q) q (gorsL ⟨k, gr, o, wi, l, sz, f, t⟩)) := by
            show laE (pla es q) q (gorsL (evA es q)) = _
            rw [HE.out]
          have HP3 : Hid (pgi es (q + 1) = giE (pgi es q) q (tJ es q)) := rfl
          obtain ⟨ts, hts⟩ : ∃ ts, ts = tchL ⟨k, gr, o, wi, l, sz, f, t⟩ (slotC m ⟨k, gr, o, wi, l, sz, f, t⟩) := ⟨_, rfl⟩
          simp only [← hts] at cU ht2 htT HN HJ
          clear hts hC0 HY hc0 HE
          have HCE : Hid (∀ u ao n c, Fr V u → ts.length = n → ReadsG layT u ao ts → Calls Tryz.prog 189 #[.pointer (some ⟨p, 0, none⟩), .agg #[.int .i64 k, .int .i64 gr, .int .i64 o, .int .i64 wi, .int .i64 l, .int .i64 sz, .int .i64 f, .int .i64 t], .slice ao n c] u fun x w' => x = .returned (.agg #[.int .u64 (wd (edN es q) 0), .int .u64 (wd (edN es q) 1), .int .u64 (wd (edN es q) 2), .int .u64 (wd (edN es q) 3), .int .u64 (wd (edN es q) 4)]) ∧ Fr u w') := fun u ao n c fu hn hr => by
            rw [HN.out]
            exact edgesInto_any ⟨k, gr, o, wi, l, sz, f, t⟩ ao n c ts u (PV.fr fu) (code_parts HCC.out).1 hn hr htT (hs.fr (FV.trans fu))
          obtain ⟨p0, c0, c1, c2, c3, c4, c5, c6, c7⟩ := HQ.out z3 g3
          go_wp2_with fail
          go_region_held3 (fun u => u.cell? ⟨p, 0, none⟩ = some (.pointer (some ⟨b, 0, none⟩)) ∧ u.cell? ⟨EB, 0, none⟩ = some (.int .i64 k) ∧ u.cell? ⟨EB, 1, none⟩ = some (.int .i64 gr) ∧ u.cell? ⟨EB, 2, none⟩ = some (.int .i64 o) ∧ u.cell? ⟨EB, 3, none⟩ = some (.int .i64 wi) ∧ u.cell? ⟨EB, 4, none⟩ = some (.int .i64 l) ∧ u.cell? ⟨EB, 5, none⟩ = some (.int .i64 sz) ∧ u.cell? ⟨EB, 6, none⟩ = some (.int .i64 f) ∧ u.cell? ⟨EB, 7, none⟩ = some (.int .i64 t)) (go_keep)
            (first | (go_at_call 188; refine (cU _ (g3.trans (Fr.drew z3))).mono ?_; rintro x z4 ⟨v4, rfl, o4, f4⟩; have g4 := (g3.trans (Fr.drew z3)).trans f4; obtain ⟨j0, j1, j2, j3, j4, j5, j6, j7, j8⟩ := HQ.out _ g4))
          all_goals
            clear p0 c0 c1 c2 c3 c4 c5 c6 c7 r0 y0 y1 y2 y3 y4 y5 y6 y7
            obtain ⟨tg, tc, rfl, ot, -⟩ := o4
            have tr := own_readsG ot (by omega)
            have tlt := ot.lt tg rfl
            have HT : Hid (V.heap.size ≤ tg ∧ tg < z4.heap.size) := ⟨by have := g3.size; have : z3.drew.heap.size = z3.heap.size := rfl; omega, tlt.2⟩
            have cE := HCE.out z4 (some ⟨tg, 0, none⟩) ts.length tc g4 rfl tr
            clear ot tlt cU f4
            obtain ⟨N, hN⟩ : ∃ N, N = edN es q := ⟨_, rfl⟩
            rw [← hN] at cE
            have HNE : Hid (N = edN es q) := hN
            clear hN
            go_wp2_with fail
            refine cE.mono ?_
            rintro x z5 ⟨rfl, f5⟩
            have g5 := g4.trans f5
            have O5 := OV.fr g5
            have hOlen := rk0_len es q
            clear cE
            have f6 := Fr.alloc z5 (.cells #[.int .u64 (wd N 0), .int .u64 (wd N 1), .int .u64 (wd N 2), .int .u64 (wd N 3), .int .u64 (wd N 4), .int .u64 0, .int .u64 0, .int .u64 0, .int .u64 0, .int .u64 0] 102)
            have k6 := heap_alloc_new z5 (.cells #[.int .u64 (wd N 0), .int .u64 (wd N 1), .int .u64 (wd N 2), .int .u64 (wd N 3), .int .u64 (wd N 4), .int .u64 0, .int .u64 0, .int .u64 0, .int .u64 0, .int .u64 0] 102)
            have O6 := O5.fr f6
            have hsz6 : w.heap.size ≤ (z5.alloc (.cells #[.int .u64 (wd N 0), .int .u64 (wd N 1), .int .u64 (wd N 2), .int .u64 (wd N 3), .int .u64 (wd N 4), .int .u64 0, .int .u64 0, .int .u64 0, .int .u64 0, .int .u64 0] 102)).heap.size := by have := FV.size; have := g5.size; have := f6.size; omega
            have hnew : ∀ c, c < 10 → (z5.alloc (.cells #[.int .u64 (wd N 0), .int .u64 (wd N 1), .int .u64 (wd N 2), .int .u64 (wd N 3), .int .u64 (wd N 4), .int .u64 0, .int .u64 0, .int .u64 0, .int .u64 0, .int .u64 0] 102)).cell? ⟨z5.heap.size, c, none⟩ = (layR.cs (N, 0))[c]? := by
              intro c hc
              rw [cell_of_row _ _ _ _ _ _ k6]
              simp only [layR, wd_zero]
              rcases c with _ | _ | _ | _ | _ | _ | _ | _ | _ | _ | c <;> first | rfl | omega
            obtain ⟨qp, q0, q1, q2, q3, q4, q5, q6, q7⟩ := HQ.out _ (g5.trans f6)
            have hneE : ¬ (some EB = some g) := by have := HEB.out; simp only [Option.some.injEq]; omega
            have P6 := PV.fr (g5.trans f6)
            have tr6 := tr.fr (f5.trans f6)
            have F6 := FV.trans (g5.trans f6)
            have hw6 := O6.words g hg
            have hV6 := (g5.trans f6).size
            clear f5 f6 k6 g4 j0 j1 j2 j3 j4 j5 j6 j7 j8 O5
            go_wp2_with (at_builtin; refine appR _ rfl _ _ rfl w.heap.size u3 (rk0 es q) (N, 0) rfl O6 _ _ rfl hnew (by omega) hsz6 ?_; intro v7 z7 O7 g7 at7; rw [hg] at g7; have x0 := g7.cell (q0) hneE; have x1 := g7.cell (q1) hneE; have x2 := g7.cell (q2) hneE; have x3 := g7.cell (q3) hneE; have x4 := g7.cell (q4) hneE; have x5 := g7.cell (q5) hneE; have x6 := g7.cell (q6) hneE; have x7 := g7.cell (q7) hneE; clear q0 q1 q2 q3 q4 q5 q6 q7 qp)
            have P7 := P6.keepU g7 hw6 (by omega)
            have F7 := F6.then g7 (fun j hj => by cases hj; exact HEB.out.2)
            have tr7 := tr6.keep g7 (.inr (by simp only [blk, Option.map_some, ne_eq, Option.some.injEq]; have := HEB.out; have := (Array.getElem?_eq_some_iff.1 k5).1; have := HT.out; omega))
            have cP := pastAdd_any q (by omega) ⟨k, gr, o, wi, l, sz, f, t⟩ (some ⟨tg, 0, none⟩) ts.length tc ts z7 P7 HCC.out (fun _ => evOk_o (code_parts HCC.out).1) rfl tr7 (fun x hx => by
              simp only [blk, Option.map_some, Option.some.injEq] at hx
              have := HB.out
              have := HT.out
              have := PV.row.lt
              omega) htT (hs.fr F7) (by omega) (by omega)
            simp only at cP
            clear x0 x1 x2 x3 x4 x5 x6 x7
            refine cP.mono ?_
            rintro x z8 ⟨rfl, P8, F8⟩
            have hgx : ∃ g8, v7.ownBlock = some g8 ∧ (g8 < b1 ∨ p < g8) ∧ ¬ PS p gm b b1 b2 b3 b4 g8 := by
              have hb := HB.out
              have hl := P7.bd.lt
              have hpl := PV.row.lt
              rcases at7 with e | e
              · refine ⟨g, e.trans hg, hgb, ?_⟩
                unfold PS On
                omega
              · refine ⟨_, e, ?_, ?_⟩
                · exact .inr (by omega)
                · unfold PS On
                  omega
            obtain ⟨g8, e8, hg8, n8⟩ := hgx
            have O8 := O7.keepS F8 (fun x hx => by rw [e8] at hx; cases hx; exact n8)
            rw [HNE.out, ← rk0_succ] at O8
            have F8w := F7.thenS F8 (fun j hj => by
              have hb := HB.out
              have hl := P7.bd.lt
              unfold PS On at hj
              omega)
            rw [← HP1.out, ← HP2.out, ← HJ.out, ← HP3.out] at P8
            have P9 := P8.monoM (nm' := nm + 2) (by rw [HJ.out]; omega)
            clear cP P7 F7 tr7 P8 F8 O7 at7 hw6 O6 P6 tr6 F6
            go_wp2_with fail
            go_roundw
            case rel => exact ⟨q + 1, nm + 2, g8, _, by omega, by go_num, HX.out, by omega, P9, O8, e8, hg8, F8w⟩
            case measure => simp [intOf]; omega
        · have hCb : (C != 0) = true := by simpa using hC0
          have HY := HY.out hC0
          have HY : Hid _ := HY
          clear hC0 HX cU
          go_wp2_with fail
          go_ret
          exact ⟨_, rfl, by rw [HY.out]; exact OV.fr g3, FV.trans g3⟩
    · have e : q = es.length := by omega
      subst e
      have HD : Hid ((legS scn0 es).2.1 = es.length) := by rw [HL.out.1.done]; exact rfl
      clear HL
      go_wp2_with fail
      go_ret
      exact ⟨_, rfl, by rw [HD.out]; exact hO, hF⟩
end Go.Proofs.YtplnijpolkflcaaGreatDoor
