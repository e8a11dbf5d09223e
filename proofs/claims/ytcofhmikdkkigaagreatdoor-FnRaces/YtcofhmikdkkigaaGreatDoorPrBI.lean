/-
  Pack BI: Into.
-/
import Derived.Test.YtcofhmikdkkigaaGreatDoorPrBH
import Derived.Test.YtcofhmikdkkigaaGreatDoorPrBE
import Derived.Test.YtcofhmikdkkigaaGreatDoorPrAP
import Derived.Test.YtcofhmikdkkigaaGreatDoorPrBG
import Derived.Deep.RegionHeld3
namespace Go.Proofs.YtcofhmikdkkigaaGreatDoor
open Go.RowKit

theorem ownG_blk {α : Type} {L : Lay α} {w : World} {base : Nat} {v : Value} {xs : List α} (h : OwnG L w base v xs) : ∀ b, v.ownBlock = some b → base ≤ b := by
  obtain ⟨g, c, rfl, ho⟩ := h
  intro b hb
  exact (ho.1.lt b hb).1
def SvS (near : Bool) (wb rb : Nat) (b : Nat) : Prop := near = true ∧ (b = wb ∨ b = rb)
theorem frS_fr {S : Nat → Prop} {w w' : World} (f : Fr w w') : FrS S w w' := ⟨f.os, f.tape, f.output, f.size, fun b hb _ => f.block b hb (by simp)⟩
theorem frS_row {S : Nat → Prop} {a b c : World} {row : Option Nat} (h : FrS S a b) (k : b.grownBy c row) (hr : ∀ j, row = some j → S j ∨ a.heap.size ≤ j) : FrS S a c :=
  ⟨k.os.trans h.os, k.tape.trans h.tape, k.output.trans h.output, Nat.le_trans h.size k.size, fun i hi hn => (k.block i (Nat.lt_of_lt_of_le hi h.size) (fun e => by
    rcases hr i e.symm with q | q
    · exact hn q
    · omega)).trans (h.block i hi hn)⟩
theorem pairsJ_none {es : List Ev} {lk : List Bool} {near : Bool} {j : Nat} (h : accB (evA es j) = false) : pairsJ es lk near j = [] := by
  unfold pairsJ
  have : ((List.range j).filter fun i => pairB es lk near j i) = [] := by
    rw [List.filter_eq_nil_iff]
    intro i _
    have hc : claB (evA es i) (evA es j) = false := by
      rw [Bool.eq_false_iff]
      intro q
      simp only [claB, Bool.and_eq_true] at q
      have := q.1.1.1.1.2
      rw [h] at this
      cases this
    rw [pair_not hc]
    simp
  rw [this]
  rfl

theorem acc_lo {e : Ev} (h : accB e = true) : 0 ≤ e.l ∧ e.l ≤ 65535 := by
  simp only [accB, Bool.and_eq_true, Bool.or_eq_true, beq_iff_eq] at h
  obtain ⟨h, hk⟩ := h
  simp only [evOk, Bool.and_eq_true] at h
  obtain ⟨⟨⟨⟨-, h3⟩, -⟩, -⟩, -⟩ := h
  unfold ev3 at h3
  rcases hk with hk | hk
  · rw [hk, has4.1] at h3
    exact inB_true h3
  · rw [hk, has4.2.1] at h3
    exact inB_true h3
set_option maxRecDepth 20000 in
set_option maxHeartbeats 8000000 in
theorem into_race (near : Bool) (hnr : near = false) (tb wb rb : Nat) (lo : Option Addr) (m lc : Nat) (gb off n c j : Nat) (es : List Ev) (lk : List Bool) (w : World)
    (hn : es.length = n) (_hnc : n ≤ c) (hj : j < n) (hn3 : n ≤ 16777216) (hj3 : j < 300)
    (hE : ∀ u, FrS (SvS near wb rb) w u → ReadsE u (some ⟨gb, off, none⟩) es) (hSh : ∀ u, FrS (SvS near wb rb) w u → Shapes u)
    (_hLk : near = true → ∀ u, FrS (SvS near wb rb) w u → ReadsG layBo u lo lk) (_hm : lk.length = m) (_hm2 : m ≤ 16777216)
    (hS0 : near = true → Sv8 tb wb rb lo m lc 0 (fun _ => 0) w) (hlt : near = true → tb < w.heap.size ∧ wb < w.heap.size ∧ rb < w.heap.size)
    (hK : ∀ i, i < j → (evA es i).k = 20 → 0 ≤ (evA es i).g ∧ (evA es i).g ≤ 15)
    (hRev : ∀ (B g cap : Nat) (ps : List (Int × Int)) (u : World), OwnG layPr u B (.slice (some ⟨g, 0, none⟩) ps.length cap) ps → Calls Tryz.prog 175 #[.slice (some ⟨g, 0, none⟩) ps.length cap] u fun x u' => x = .returned (.tuple #[]) ∧ OwnG layPr u' B (.slice (some ⟨g, 0, none⟩) ps.length cap) ps.reverse ∧ u.grownBy u' (some g)) :
    Calls Tryz.prog 131 #[.slice (some ⟨gb, off, none⟩) n c, .int .i64 (j : Int), .agg #[.int .u64 (wd (befN (eE es) j) 0), .int .u64 (wd (befN (eE es) j) 1), .int .u64 (wd (befN (eE es) j) 2), .int .u64 (wd (befN (eE es) j) 3), .int .u64 (wd (befN (eE es) j) 4)], .func (.func 132) #[] #[]] w
      fun x w' => ∃ v, x = .returned v ∧ OwnG layPr w' w.heap.size v (pairsJ es lk near j) ∧ FrS (SvS near wb rb) w w' ∧ (near = true → ∃ W R, Sv8 tb wb rb lo m lc W R w') := by
  have fb := Fr.alloc w (.cells #[.int .u64 (wd (befN (eE es) j) 0), .int .u64 (wd (befN (eE es) j) 1), .int .u64 (wd (befN (eE es) j) 2), .int .u64 (wd (befN (eE es) j) 3), .int .u64 (wd (befN (eE es) j) 4)] 110)
  have kb : (w.alloc (.cells #[.int .u64 (wd (befN (eE es) j) 0), .int .u64 (wd (befN (eE es) j) 1), .int .u64 (wd (befN (eE es) j) 2), .int .u64 (wd (befN (eE es) j) 3), .int .u64 (wd (befN (eE es) j) 4)] 110)).heap[w.heap.size]? = some (.cells #[.int .u64 (wd (befN (eE es) j) 0), .int .u64 (wd (befN (eE es) j) 1), .int .u64 (wd (befN (eE es) j) 2), .int .u64 (wd (befN (eE es) j) 3), .int .u64 (wd (befN (eE es) j) 4)] 110 (0, 0)) := heap_alloc_new w _
  have hzb : (w.alloc (.cells #[.int .u64 (wd (befN (eE es) j) 0), .int .u64 (wd (befN (eE es) j) 1), .int .u64 (wd (befN (eE es) j) 2), .int .u64 (wd (befN (eE es) j) 3), .int .u64 (wd (befN (eE es) j) 4)] 110)).heap.size = w.heap.size + 1 := by simp
  have hEa := evA_at (es := es) (i := j) (by omega)
  have hRE := hE w (FrS.refl _ _)
  obtain ⟨bb, off2, e0, hc⟩ := hRE.at_ j (by omega)
  simp only [Option.some.injEq, Addr.mk.injEq, and_true] at e0
  obtain ⟨rfl, rfl⟩ := e0
  have cAcc := fun u (f : FrS (SvS near wb rb) w u) => implAcc_any (evA es j) u (hSh u f)
  obtain ⟨Wb, hWb⟩ : ∃ W, W = w.alloc (.cells #[.int .u64 (wd (befN (eE es) j) 0), .int .u64 (wd (befN (eE es) j) 1), .int .u64 (wd (befN (eE es) j) 2), .int .u64 (wd (befN (eE es) j) 3), .int .u64 (wd (befN (eE es) j) 4)] 110) := ⟨_, rfl⟩
  rw [← hWb] at fb kb hzb
  have fv := Fr.alloc Wb (.cells #[] 51)
  have ov := ownG_new layPr Wb (w.heap.size + 1) (by omega)
  have ov : OwnG layPr (Wb.alloc (.cells #[] 51)) (w.heap.size + 1) (.slice (some ⟨Wb.heap.size, 0, none⟩) 0 0) [] := ov
  obtain ⟨V0, hV0⟩ : ∃ V, V = Wb.alloc (.cells #[] 51) := ⟨_, rfl⟩
  have FV : Fr w V0 := by rw [hV0]; exact fb.trans fv
  have kV : V0.heap[w.heap.size]? = some (.cells #[.int .u64 (wd (befN (eE es) j) 0), .int .u64 (wd (befN (eE es) j) 1), .int .u64 (wd (befN (eE es) j) 2), .int .u64 (wd (befN (eE es) j) 3), .int .u64 (wd (befN (eE es) j) 4)] 110 (0, 0)) := by rw [hV0]; exact blk_keep kb fv (by simp)
  rw [← hV0, hzb] at ov
  have HEv : Hid (∀ u, FrS (SvS near wb rb) w u → ReadsE u (some ⟨gb, off, none⟩) es) := hE
  have hRV := (hE V0 (frS_fr FV)).at_ j (by omega)
  obtain ⟨bb, off2, e0, hcV⟩ := hRV
  simp only [Option.some.injEq, Addr.mk.injEq, and_true] at e0
  obtain ⟨rfl, rfl⟩ := e0
  have evj := hcV j (by omega)
  have HC : Hid (∀ u, FrS (SvS near wb rb) w u → EvC u gb (off + j * 8) es[j]) := fun u f => by
    obtain ⟨bb, off2, e0, hc⟩ := (hE u f).at_ j (by omega)
    simp only [Option.some.injEq, Addr.mk.injEq, and_true] at e0
    obtain ⟨rfl, rfl⟩ := e0
    exact hc j (by omega)
  rw [hEa] at cAcc
  clear hc hRE hcV fv fb kb
  have cA := cAcc V0 (frS_fr FV)
  clear cAcc
  have HA : Hid (accB (evA es j) = accB es[j]) := by rw [hEa]; exact rfl
  have hs8 : accB es[j] = true → 1 ≤ (evA es j).s ∧ (evA es j).s ≤ 8 ∧ 0 ≤ (evA es j).l ∧ (evA es j).l ≤ 65535 := fun q => by rw [hEa]; exact ⟨(acc_size q).1, (acc_size q).2, acc_lo q⟩
  generalize hAc : accB es[j] = A at cA HA hs8
  obtain ⟨Ej, hEj⟩ : ∃ E, E = es[j] := ⟨_, rfl⟩
  rw [← hEj] at evj cA HC
  have HEJ : Hid (evA es j = Ej) := by rw [hEj]; exact hEa
  clear hEj hAc hEa
  obtain ⟨qk, qg, qo, qw, ql, qs, qf, qt⟩ := Ej
  obtain ⟨q0, q1, q2, q3, q4, q5, q6, q7⟩ := evj
  simp only at q0 q1 q2 q3 q4 q5 q6 q7 cA
  have hji : (j : Int) < (n : Int) := by omega
  rw [hV0, hWb] at q0 q1 q2 q3 q4 q5 q6 q7
  go_enter Tryz.func131, Tryz.ntmps131
  go_wp2_with fail
  rw [← hWb, ← hV0]
  refine cA.mono ?_
  rintro x u1 ⟨rfl, f1⟩
  clear cA q0 q1 q2 q3 q4 q5 q6 q7
  cases A
  · go_wp2_with fail
    go_ret
    refine ⟨_, rfl, ?_, frS_fr (FV.trans f1), fun q => ⟨_, _, (hS0 q).fr (FV.trans f1)⟩⟩
    rw [pairsJ_none HA.out]
    exact (ov.fr f1).lower (Nat.le_succ _)
  obtain ⟨hs1, hs2, hl1, hl2⟩ := hs8 rfl
  have hsz : szJ es j ≤ 8 := Int.toNat_le.2 hs2
  replace kV := blk_keep kV f1 (by simp)
  replace ov := ov.fr f1
  replace FV := FV.trans f1
  have hzV := FV.size
  have hlb := (Array.getElem?_eq_some_iff.1 kV).1
  have kV : Hid _ := kV
  have cAll : Hid (∀ p, p < j → ∀ u, FrS (SvS near wb rb) w u → Calls Tryz.prog 174 #[.agg #[.int .i64 (⟨qk, qg, qo, qw, ql, qs, qf, qt⟩ : Ev).k, .int .i64 (⟨qk, qg, qo, qw, ql, qs, qf, qt⟩ : Ev).g, .int .i64 (⟨qk, qg, qo, qw, ql, qs, qf, qt⟩ : Ev).o, .int .i64 (⟨qk, qg, qo, qw, ql, qs, qf, qt⟩ : Ev).w, .int .i64 (⟨qk, qg, qo, qw, ql, qs, qf, qt⟩ : Ev).l, .int .i64 (⟨qk, qg, qo, qw, ql, qs, qf, qt⟩ : Ev).s, .int .i64 (⟨qk, qg, qo, qw, ql, qs, qf, qt⟩ : Ev).f, .int .i64 (⟨qk, qg, qo, qw, ql, qs, qf, qt⟩ : Ev).t], .agg #[.int .i64 (evA es p).k, .int .i64 (evA es p).g, .int .i64 (evA es p).o, .int .i64 (evA es p).w, .int .i64 (evA es p).l, .int .i64 (evA es p).s, .int .i64 (evA es p).f, .int .i64 (evA es p).t]] u fun y w' => y = .returned (.int .u8 ((setOf (shB es j p) (szJ es j) : Nat) : Int)) ∧ Fr u w') := fun p hp u f => by
    have := shared_any (evA es j) (evA es p) u (hSh u f) ⟨hs1, hs2⟩ ⟨hl1, hl2⟩
    rw [HEJ.out] at this
    have e : (fun n : Nat => covB (evA es p) ((⟨qk, qg, qo, qw, ql, qs, qf, qt⟩ : Ev).l + n)) = shB es j p := by funext n; unfold shB; rw [HEJ.out]
    rw [e] at this
    have e2 : (⟨qk, qg, qo, qw, ql, qs, qf, qt⟩ : Ev).s.toNat = szJ es j := by unfold szJ; rw [HEJ.out]
    rw [e2] at this
    exact this
  have cCl : Hid (∀ p, p < j → ∀ u, FrS (SvS near wb rb) w u → Calls Tryz.prog 27 #[.agg #[.int .i64 (evA es p).k, .int .i64 (evA es p).g, .int .i64 (evA es p).o, .int .i64 (evA es p).w, .int .i64 (evA es p).l, .int .i64 (evA es p).s, .int .i64 (evA es p).f, .int .i64 (evA es p).t], .agg #[.int .i64 (⟨qk, qg, qo, qw, ql, qs, qf, qt⟩ : Ev).k, .int .i64 (⟨qk, qg, qo, qw, ql, qs, qf, qt⟩ : Ev).g, .int .i64 (⟨qk, qg, qo, qw, ql, qs, qf, qt⟩ : Ev).o, .int .i64 (⟨qk, qg, qo, qw, ql, qs, qf, qt⟩ : Ev).w, .int .i64 (⟨qk, qg, qo, qw, ql, qs, qf, qt⟩ : Ev).l, .int .i64 (⟨qk, qg, qo, qw, ql, qs, qf, qt⟩ : Ev).s, .int .i64 (⟨qk, qg, qo, qw, ql, qs, qf, qt⟩ : Ev).f, .int .i64 (⟨qk, qg, qo, qw, ql, qs, qf, qt⟩ : Ev).t]] u fun y w' => y = .returned (.bool (claB (evA es p) (evA es j))) ∧ Fr u w') := fun p hp u f => by
    have := implCla_any (evA es p) (evA es j) u (hSh u f)
    rw [HEJ.out] at this ⊢
    exact this
  have hT0 : gonN es j j = 0 := gonN_top es j
  have ov : OwnG layPr u1 (w.heap.size + 1) (.slice (some ⟨w.heap.size + 1, 0, none⟩) 0 0) (dnP es lk near j j) := by rw [dnP_top]; exact ov
  have hS1 : Hid (near = true → Sv8 tb wb rb lo m lc (wriN es j j) (reaN es lk j j) u1) := fun q => by
    have e : reaN es lk j j = fun _ => 0 := by funext g; exact reaN_top es lk j g
    rw [wriN_top, e]
    exact (hS0 q).fr FV
  have FV2 : Hid (FrS (SvS near wb rb) w u1) := frS_fr FV
  clear hS0 hs8 HA FV f1 hSh hE
  go_wp2_with fail
  go_loopw [9, 10, 11] (fun v gn i wr => ∃ p : Nat, p ≤ j ∧ i = .int .i64 ((p : Int) - 1) ∧ gn = .int .u8 ((gonN es j p : Nat) : Int) ∧ OwnG layPr wr (w.heap.size + 1) v (dnP es lk near j p) ∧ Hid (FrS (SvS near wb rb) w wr) ∧ Hid (near = true → Sv8 tb wb rb lo m lc (wriN es j p) (reaN es lk j p) wr) ∧ Hid (wr.heap[w.heap.size]? = some (.cells #[.int .u64 (wd (befN (eE es) j) 0), .int .u64 (wd (befN (eE es) j) 1), .int .u64 (wd (befN (eE es) j) 2), .int .u64 (wd (befN (eE es) j) 3), .int .u64 (wd (befN (eE es) j) 4)] 110 (0, 0)))) (fun _ _ i _ => (intOf i + 1).toNat)
  case atStart => exact ⟨j, Nat.le_refl _, rfl, by rw [hT0]; rfl, ov, FV2, hS1, kV⟩
  case round =>
    obtain ⟨p', hp', rfl, rfl, oV, hF, hSv, hB⟩ := hrel
    clear ov FV2 hS1 kV hT0
    by_cases h0 : p' = 0
    · subst h0
      have hpi : (((0 : Nat) : Int) - 1) = -1 := by omega
      rw [hpi]
      have hzz := (hF.out).size
      have hdz := dnP_zero es lk near j
      obtain ⟨ps, hps⟩ : ∃ ps, ps = dnP es lk near j 0 := ⟨_, rfl⟩
      rw [← hps] at oV hdz
      have oV2 := oV
      obtain ⟨g9, c9, rfl, hoo⟩ := oV
      have hgb := (hoo.1.lt g9 rfl).1
      have cR := hRev (w.heap.size + 1) g9 c9 ps wr oV2
      rw [hdz] at cR
      obtain ⟨L9, hL9⟩ : ∃ L, L = ps.length := ⟨_, rfl⟩
      have HL9 : Hid (L9 = ps.length) := hL9
      rw [← hL9] at cR ⊢
      clear hL9 hps oV2 hoo hdz hpi
      go_wp2_with fail
      refine cR.mono ?_
      rintro x u2 ⟨rfl, o9, k9⟩
      go_wp2_with fail
      go_ret
      refine ⟨_, rfl, o9.lower (Nat.le_succ _), frS_row hF.out k9 (fun q hq => by cases hq; exact .inr (by omega)), fun q => ?_⟩
      have hl := hlt q
      exact ⟨_, _, (hSv.out q).keep k9 (fun e => by cases e; omega) (fun e => by cases e; omega) (fun e => by cases e; omega)⟩
    · obtain ⟨p, rfl⟩ : ∃ p, p' = p + 1 := ⟨p' - 1, by omega⟩
      have hpj : p < j := by omega
      have hpi : (((p + 1 : Nat) : Int) - 1) = (p : Int) := by omega
      have hpn : (p : Int) < (n : Int) := by omega
      rw [hpi]
      have evq := HC.out wr hF.out
      obtain ⟨bb, off2, e0, hc⟩ := (HEv.out wr hF.out).at_ p (by omega)
      simp only [Option.some.injEq, Addr.mk.injEq, and_true] at e0
      obtain ⟨rfl, rfl⟩ := e0
      have evp := hc p (by omega)
      rw [← evA_at (show p < es.length by omega)] at evp
      clear hc
      have c1 := fun s : Later wr => cAll.out p hpj s.u (FrS.trans hF.out (frS_fr s.fr))
      have c2 := fun u (f : FrS (SvS near wb rb) wr u) => cCl.out p hpj u (FrS.trans hF.out f)
      have HK := hK p hpj
      have hGf := fun q => gonN_fresh (es := es) hpj q
      have hGo := fun q => gonN_other (es := es) hpj q
      have hW1 := fun q => wriN_fresh (es := es) hpj q
      have hR1 := fun q => reaN_fresh (es := es) (lk := lk) hpj q
      have hW2 := wrN_step (es := es) hpj
      have hR2 := rdN_step (es := es) (lk := lk) hpj (fun q => (HK q).1)
      have hL2 := lfN_left (es := es) (lk := lk) hsz (fun q => (HK q).1)
      have hLs := lasN_less (p := p) hsz
      have hPl := fun q => pair_left (es := es) (lk := lk) (near := near) (j := j) (p := p) q
      have hPn := fun q => pair_not (es := es) (lk := lk) (near := near) (j := j) (p := p) q
      have hPf := fun q => pair_fresh (es := es) (lk := lk) (near := near) (j := j) (p := p) q
      have HD : Hid (dnP es lk near j p = dnP es lk near j (p + 1) ++ (if pairB es lk near j p = true then [((p : Int), (j : Int))] else [])) := dnP_step hpj
      have hg8 : gonN es j (p + 1) < 256 := setOf_lt8 _ hsz
      have hs8 : setOf (shB es j p) (szJ es j) < 256 := setOf_lt8 _ hsz
      generalize hEp : evA es p = Ep at evp c1 c2 HK hGf hGo hW1 hR1 hW2 hR2 hL2 hPl hPn hPf
      generalize setOf (shB es j p) (szJ es j) = Sh at c1 hGf hLs hs8
      obtain ⟨pk, pg, po, pw, pl, p_s, pf, pt⟩ := Ep
      obtain ⟨p0, p1, p2, p3, p4, p5, p6, p7⟩ := evp
      obtain ⟨q0, q1, q2, q3, q4, q5, q6, q7⟩ := evq
      simp only at p0 p1 p2 p3 p4 p5 p6 p7 q0 q1 q2 q3 q4 q5 q6 q7 c1 c2
      have xp0 : ∀ s : Later wr, s.u.cell? ⟨gb, off + p * 8, none⟩ = some (.int .i64 pk) := fun s => s.fr.cell p0
      have xp1 : ∀ s : Later wr, s.u.cell? ⟨gb, off + p * 8 + 1, none⟩ = some (.int .i64 pg) := fun s => s.fr.cell p1
      have xp2 : ∀ s : Later wr, s.u.cell? ⟨gb, off + p * 8 + 2, none⟩ = some (.int .i64 po) := fun s => s.fr.cell p2
      have xp3 : ∀ s : Later wr, s.u.cell? ⟨gb, off + p * 8 + 3, none⟩ = some (.int .i64 pw) := fun s => s.fr.cell p3
      have xp4 : ∀ s : Later wr, s.u.cell? ⟨gb, off + p * 8 + 4, none⟩ = some (.int .i64 pl) := fun s => s.fr.cell p4
      have xp5 : ∀ s : Later wr, s.u.cell? ⟨gb, off + p * 8 + 5, none⟩ = some (.int .i64 p_s) := fun s => s.fr.cell p5
      have xp6 : ∀ s : Later wr, s.u.cell? ⟨gb, off + p * 8 + 6, none⟩ = some (.int .i64 pf) := fun s => s.fr.cell p6
      have xp7 : ∀ s : Later wr, s.u.cell? ⟨gb, off + p * 8 + 7, none⟩ = some (.int .i64 pt) := fun s => s.fr.cell p7
      have xq0 : ∀ s : Later wr, s.u.cell? ⟨gb, off + j * 8, none⟩ = some (.int .i64 qk) := fun s => s.fr.cell q0
      have xq1 : ∀ s : Later wr, s.u.cell? ⟨gb, off + j * 8 + 1, none⟩ = some (.int .i64 qg) := fun s => s.fr.cell q1
      have xq2 : ∀ s : Later wr, s.u.cell? ⟨gb, off + j * 8 + 2, none⟩ = some (.int .i64 qo) := fun s => s.fr.cell q2
      have xq3 : ∀ s : Later wr, s.u.cell? ⟨gb, off + j * 8 + 3, none⟩ = some (.int .i64 qw) := fun s => s.fr.cell q3
      have xq4 : ∀ s : Later wr, s.u.cell? ⟨gb, off + j * 8 + 4, none⟩ = some (.int .i64 ql) := fun s => s.fr.cell q4
      have xq5 : ∀ s : Later wr, s.u.cell? ⟨gb, off + j * 8 + 5, none⟩ = some (.int .i64 qs) := fun s => s.fr.cell q5
      have xq6 : ∀ s : Later wr, s.u.cell? ⟨gb, off + j * 8 + 6, none⟩ = some (.int .i64 qf) := fun s => s.fr.cell q6
      have xq7 : ∀ s : Later wr, s.u.cell? ⟨gb, off + j * 8 + 7, none⟩ = some (.int .i64 qt) := fun s => s.fr.cell q7
      have hsome := Later.some wr
      clear p0 p1 p2 p3 p4 p5 p6 p7 q0 q1 q2 q3 q4 q5 q6 q7
      go_wp2_with fail
      refine wp_region_grown (by kernel_rfl) (by kernel_rfl) ?_
      repeat (go_big_quiet_step (first | with_reducible exact Calls.grown_of (c1 _)))
      refine wpQuiet_nil ?_
      rintro _ ⟨σ, rfl⟩
      have xk0 := xp0 σ
      by_cases hk22 : pk = 22
      · subst hk22
        have ho := u8_or_nat (gonN es j (p + 1)) Sh hg8 hs8
        rw [← hGf rfl] at ho
        go_wp2_with fail
        go_roundw
        case rel =>
          refine ⟨p, by omega, rfl, by rw [hGf rfl], ?_, FrS.trans hF.out (frS_fr σ.fr), fun q => ?_, blk_keep hB.out σ.fr (by simp)⟩
          · rw [HD.out, if_neg (by rw [hPf rfl]; simp), List.append_nil]
            exact OwnG.fr oV σ.fr
          · rw [hW1 rfl, hR1 rfl]; exact (hSv.out q).fr σ.fr
        case measure => simp [intOf] <;> omega
      · have hkb : (pk == 22) = false := by simpa using hk22
        have hGo := hGo hk22
        have hlb := u8_andNot_nat Sh (gonN es j (p + 1)) hs8 hg8
        rw [hLs] at hlb
        have hL8 : lasN es j p < 256 := setOf_lt8 _ hsz
        have f2 := σ.fr
        go_wp2_with fail
        obtain ⟨wz, hwz⟩ : ∃ W, W = σ.u := ⟨_, rfl⟩
        rw [← hwz] at f2 ⊢
        have yp0 : ∀ s : Later wz, s.u.cell? ⟨gb, off + p * 8, none⟩ = some (.int .i64 pk) := fun s => xp0 ⟨s.u, f2.trans s.fr⟩
        have yp1 : ∀ s : Later wz, s.u.cell? ⟨gb, off + p * 8 + 1, none⟩ = some (.int .i64 pg) := fun s => xp1 ⟨s.u, f2.trans s.fr⟩
        have yp2 : ∀ s : Later wz, s.u.cell? ⟨gb, off + p * 8 + 2, none⟩ = some (.int .i64 po) := fun s => xp2 ⟨s.u, f2.trans s.fr⟩
        have yp3 : ∀ s : Later wz, s.u.cell? ⟨gb, off + p * 8 + 3, none⟩ = some (.int .i64 pw) := fun s => xp3 ⟨s.u, f2.trans s.fr⟩
        have yp4 : ∀ s : Later wz, s.u.cell? ⟨gb, off + p * 8 + 4, none⟩ = some (.int .i64 pl) := fun s => xp4 ⟨s.u, f2.trans s.fr⟩
        have yp5 : ∀ s : Later wz, s.u.cell? ⟨gb, off + p * 8 + 5, none⟩ = some (.int .i64 p_s) := fun s => xp5 ⟨s.u, f2.trans s.fr⟩
        have yp6 : ∀ s : Later wz, s.u.cell? ⟨gb, off + p * 8 + 6, none⟩ = some (.int .i64 pf) := fun s => xp6 ⟨s.u, f2.trans s.fr⟩
        have yp7 : ∀ s : Later wz, s.u.cell? ⟨gb, off + p * 8 + 7, none⟩ = some (.int .i64 pt) := fun s => xp7 ⟨s.u, f2.trans s.fr⟩
        have yq0 : ∀ s : Later wz, s.u.cell? ⟨gb, off + j * 8, none⟩ = some (.int .i64 qk) := fun s => xq0 ⟨s.u, f2.trans s.fr⟩
        have yq1 : ∀ s : Later wz, s.u.cell? ⟨gb, off + j * 8 + 1, none⟩ = some (.int .i64 qg) := fun s => xq1 ⟨s.u, f2.trans s.fr⟩
        have yq2 : ∀ s : Later wz, s.u.cell? ⟨gb, off + j * 8 + 2, none⟩ = some (.int .i64 qo) := fun s => xq2 ⟨s.u, f2.trans s.fr⟩
        have yq3 : ∀ s : Later wz, s.u.cell? ⟨gb, off + j * 8 + 3, none⟩ = some (.int .i64 qw) := fun s => xq3 ⟨s.u, f2.trans s.fr⟩
        have yq4 : ∀ s : Later wz, s.u.cell? ⟨gb, off + j * 8 + 4, none⟩ = some (.int .i64 ql) := fun s => xq4 ⟨s.u, f2.trans s.fr⟩
        have yq5 : ∀ s : Later wz, s.u.cell? ⟨gb, off + j * 8 + 5, none⟩ = some (.int .i64 qs) := fun s => xq5 ⟨s.u, f2.trans s.fr⟩
        have yq6 : ∀ s : Later wz, s.u.cell? ⟨gb, off + j * 8 + 6, none⟩ = some (.int .i64 qf) := fun s => xq6 ⟨s.u, f2.trans s.fr⟩
        have yq7 : ∀ s : Later wz, s.u.cell? ⟨gb, off + j * 8 + 7, none⟩ = some (.int .i64 qt) := fun s => xq7 ⟨s.u, f2.trans s.fr⟩
        have hsome2 := Later.some wz
        have hB2 := blk_keep hB.out f2 (by simp)
        have hBq := fun q => cell_of_row wz w.heap.size q _ _ _ hB2
        have z0 : ∀ s : Later wz, s.u.cell? ⟨w.heap.size, 0, none⟩ = some (.int .u64 (wd (befN (eE es) j) 0)) := fun s => s.fr.cell (hBq 0)
        have z1 : ∀ s : Later wz, s.u.cell? ⟨w.heap.size, 1, none⟩ = some (.int .u64 (wd (befN (eE es) j) 1)) := fun s => s.fr.cell (hBq 1)
        have z2 : ∀ s : Later wz, s.u.cell? ⟨w.heap.size, 2, none⟩ = some (.int .u64 (wd (befN (eE es) j) 2)) := fun s => s.fr.cell (hBq 2)
        have z3 : ∀ s : Later wz, s.u.cell? ⟨w.heap.size, 3, none⟩ = some (.int .u64 (wd (befN (eE es) j) 3)) := fun s => s.fr.cell (hBq 3)
        have z4 : ∀ s : Later wz, s.u.cell? ⟨w.heap.size, 4, none⟩ = some (.int .u64 (wd (befN (eE es) j) 4)) := fun s => s.fr.cell (hBq 4)
        have e2 := fun s : Later wz => c2 s.u (frS_fr (f2.trans s.fr))
        have e3 := fun s : Later wz => hasP_any (befN (eE es) j) (p : Int) s.u
        have hin : inB 0 299 (p : Int) = true := inB_mk (by omega) (by omega)
        simp only [hin, Bool.true_and, Int.toNat_natCast] at e3
        obtain ⟨L, hL⟩ : ∃ L, L = lasN es j p := ⟨_, rfl⟩
        obtain ⟨T, hT⟩ : ∃ T, T = (befN (eE es) j).testBit p := ⟨_, rfl⟩
        rw [← hL] at hlb hL8
        simp only [← hT] at e3 hPl
        have HL : Hid (L = lasN es j p) := hL
        have HT : Hid (T = (befN (eE es) j).testBit p) := hT
        clear hL hT hBq hwz c1 xk0
        generalize hCb : claB ⟨pk, pg, po, pw, pl, p_s, pf, pt⟩ (evA es j) = C at e2 hPl hPn
        have hFz := FrS.trans hF.out (frS_fr f2)
        have e1 := fun s : Later wz => race_any (p : Int) (L : Int) ⟨pk, pg, po, pw, pl, p_s, pf, pt⟩ s.u
        simp only at e1
        have hPl : C = true → pairB es lk near j p = (decide (L ≠ 0) && !T) := fun q => by
          rw [hPl q, hnr, lef_all, HL.out]
          simp
        clear c2 hW2 hR2 hL2
        by_cases hz : L = 0
        · have hzb : (((L : Nat) : Int) != 0) = false := by rw [hz]; rfl
          have hPB : pairB es lk near j p = false := by
            cases C
            · exact hPn rfl
            · rw [hPl rfl, hz]; simp
          clear hz
          refine wp_region_grown (by kernel_rfl) (by kernel_rfl) ?_
          repeat (go_big_quiet_step (first | with_reducible exact Calls.grown_of (e1 _) | with_reducible exact Calls.grown_of (e2 _) | with_reducible exact Calls.grown_of (e3 _)))
          refine wpQuiet_nil ?_
          rintro _ ⟨s2, rfl⟩
          have f3 := f2.trans s2.fr
          go_wp2_with fail
          go_roundw
          case rel =>
            refine ⟨p, by omega, rfl, by rw [hGo], ?_, FrS.trans hF.out (frS_fr f3), fun q => ?_, ?_⟩
            · rw [HD.out, if_neg (by rw [hPB]; simp), List.append_nil]
              exact OwnG.fr oV f3
            · rw [hnr] at q; cases q
            · exact blk_keep hB.out f3 (by simp)
          case measure => simp [intOf] <;> omega
        · have hzb : (((L : Nat) : Int) != 0) = true := by simpa using hz
          cases C
          · have hPB : pairB es lk near j p = false := hPn rfl
            clear hz
            refine wp_region_grown (by kernel_rfl) (by kernel_rfl) ?_
            repeat (go_big_quiet_step (first | with_reducible exact Calls.grown_of (e1 _) | with_reducible exact Calls.grown_of (e2 _) | with_reducible exact Calls.grown_of (e3 _)))
            refine wpQuiet_nil ?_
            rintro _ ⟨s2, rfl⟩
            have f3 := f2.trans s2.fr
            go_wp2_with fail
            go_roundw
            case rel =>
              refine ⟨p, by omega, rfl, by rw [hGo], ?_, FrS.trans hF.out (frS_fr f3), fun q => ?_, ?_⟩
              · rw [HD.out, if_neg (by rw [hPB]; simp), List.append_nil]
                exact OwnG.fr oV f3
              · rw [hnr] at q; cases q
              · exact blk_keep hB.out f3 (by simp)
            case measure => simp [intOf] <;> omega
          · cases T
            · have hPB : pairB es lk near j p = true := by rw [hPl rfl]; simpa using hz
              clear hz
              refine wp_region_grown (by kernel_rfl) (by kernel_rfl) ?_
              repeat (go_big_quiet_step (first | with_reducible exact Calls.grown_of (e1 _) | with_reducible exact Calls.grown_of (e2 _) | with_reducible exact Calls.grown_of (e3 _)))
              refine wpQuiet_nil ?_
              rintro _ ⟨s2, rfl⟩
              have f3 := f2.trans s2.fr
              have f5 := Fr.alloc s2.u (.cells #[.int .i64 (p : Int), .int .i64 (j : Int)] 51)
              have k5 := heap_alloc_new s2.u (.cells #[.int .i64 (p : Int), .int .i64 (j : Int)] 51)
              have hnew : ∀ q, q < layPr.sz → (s2.u.alloc (.cells #[.int .i64 (p : Int), .int .i64 (j : Int)] 51)).cell? ⟨s2.u.heap.size, q, none⟩ = (layPr.cs ((p : Int), (j : Int)))[q]? := by
                intro q hq
                have hq2 : q < 2 := hq
                rw [cell_of_row _ _ _ _ _ _ k5]
                rcases q with _ | _ | q
                · rfl
                · rfl
                · omega
              have o5 := OwnG.fr (OwnG.fr oV f3) f5
              have hz5 : (s2.u.alloc (.cells #[.int .i64 (p : Int), .int .i64 (j : Int)] 51)).heap.size = s2.u.heap.size + 1 := by simp
              have hF5 := FrS.trans (FrS.trans hF.out (frS_fr f3)) (frS_fr f5)
              have hz6 := (FrS.trans hF.out (frS_fr f3)).size
              have hll := dnP_len es lk near j (p + 1)
              have hbk := ownG_blk oV
              have hbx := blk_keep (blk_keep hB.out f3 (by simp)) f5 (by simp)
              clear k5
              go_wp2_with (at_builtin; refine appG layPr _ rfl _ _ 46 (.agg #[.int .i64 0, .int .i64 0]) 16 rfl Tryz.underlying46 infoPr rfl (by omega) (w.heap.size + 1) _ _ ((p : Int), (j : Int)) rfl o5 _ _ rfl hnew (by omega) (by omega) ?_; intro v3 z3 s4 g3 at3)
              go_roundw
              case rel =>
                refine ⟨p, by omega, rfl, by rw [hGo], by rw [HD.out, if_pos hPB]; exact s4, frS_row hF5 g3 (fun q hq => .inr (by have := hbk q hq; omega)), fun q => ?_, blk_keep hbx g3 (fun e => by have := hbk _ e; omega)⟩
                rw [hnr] at q; cases q
              case measure => simp [intOf] <;> omega
            · have hPB : pairB es lk near j p = false := by rw [hPl rfl]; simp
              clear hz
              refine wp_region_grown (by kernel_rfl) (by kernel_rfl) ?_
              repeat (go_big_quiet_step (first | with_reducible exact Calls.grown_of (e1 _) | with_reducible exact Calls.grown_of (e2 _) | with_reducible exact Calls.grown_of (e3 _)))
              refine wpQuiet_nil ?_
              rintro _ ⟨s2, rfl⟩
              have f3 := f2.trans s2.fr
              go_wp2_with fail
              go_roundw
              case rel =>
                refine ⟨p, by omega, rfl, by rw [hGo], ?_, FrS.trans hF.out (frS_fr f3), fun q => ?_, ?_⟩
                · rw [HD.out, if_neg (by rw [hPB]; simp), List.append_nil]
                  exact OwnG.fr oV f3
                · rw [hnr] at q; cases q
                · exact blk_keep hB.out f3 (by simp)
              case measure => simp [intOf] <;> omega

end Go.Proofs.YtcofhmikdkkigaaGreatDoor
