/-
  The specification's l7Edges.
-/
import Derived.Test.YthehhiccfnhinaaGreatDoorPackAW
import Derived.Test.YthehhiccfnhinaaGreatDoorPackAE
import Derived.Test.YthehhiccfnhinaaGreatDoorPackAC
import Derived.DeepKeys4
import Derived.Test.YthehhiccfnhinaaGreatDoorPackAD
import Derived.Test.YthehhiccfnhinaaGreatDoorPackAL
import Derived.Deep.RegionHeld3
namespace Go.Proofs.YthehhiccfnhinaaGreatDoor
open Go.RowKit

/-- Is there an edge from i to j, by the lists of touches? -/
def edgeT (es : List Ev) (tss : List (List Tch)) (i j : Nat) : Bool := memB ((gorsL (evA es j)).map (lastG es j)) i || ((evA es i).k == 1 && memB (gorsL (evA es j)) (evA es i).o) || meetsB (tss.getD i []) (tss.getD j [])
def edgesT (es : List Ev) (tss : List (List Tch)) (j n : Nat) : List Int := ((List.range n).filter fun i => edgeT es tss i j).map fun i : Nat => (i : Int)
theorem edgesT_len (es : List Ev) (tss : List (List Tch)) (j n : Nat) : (edgesT es tss j n).length ≤ n := by
  unfold edgesT
  have := List.length_filter_le (fun i => edgeT es tss i j) (List.range n)
  simpa using this
theorem edgesT_succ (es : List Ev) (tss : List (List Tch)) (j n : Nat) : edgesT es tss j (n + 1) = if edgeT es tss n j = true then edgesT es tss j n ++ [(n : Int)] else edgesT es tss j n := by
  unfold edgesT
  rw [List.range_succ, List.filter_append, List.map_append]
  cases h : edgeT es tss n j <;> simp [h]

set_option maxRecDepth 20000 in
set_option maxHeartbeats 8000000 in
theorem l7Edges_any (ao : Option Addr) (n c ag ac J : Nat) (es : List Ev) (tss : List (List Tch)) (base : Nat) (w : World) (hn : es.length = n) (h : ReadsE w ao es) (hJ : J < n) (hl : n ≤ 300) (ht : tss.length = n) (hA : AllT w base (.slice (some ⟨ag, 0, none⟩) n ac) tss) :
    Calls Tryz.prog 99 #[.slice ao n c, .slice (some ⟨ag, 0, none⟩) n ac, .int .i64 J] w fun x w' => ∃ v, x = .returned v ∧ OwnS w' w.heap.size v (edgesT es tss J J) ∧ Fr w w' := by
  subst hn
  obtain ⟨eb, off, rfl, hev⟩ := h.at_ J hJ
  obtain ⟨d0, d1, d2, d3, d4, d5, d6, d7⟩ := hev J hJ
  have HE : Hid (evA es J = es[J]) := evA_at hJ
  have cG := fun u => specGors_any es[J] u
  have hgl := gors_len es[J]
  have hJi : (J : Int) < es.length := by omega
  have HGS : Hid (gorsL (evA es J) = gorsL es[J]) := by rw [HE.out]; exact rfl
  obtain ⟨gs, hgs⟩ : ∃ gs, gs = gorsL es[J] := ⟨_, rfl⟩
  simp only [← hgs] at cG hgl HGS
  clear hgs hev HE
  obtain ⟨E, hE⟩ : ∃ E, E = es[J] := ⟨_, rfl⟩
  simp only [← hE] at cG d0 d1 d2 d3 d4 d5 d6 d7
  clear hE
  obtain ⟨k, gr, o, wi, l, sz, f, t⟩ := E
  simp only at cG d0 d1 d2 d3 d4 d5 d6 d7
  go_enter Tryz.func99, Tryz.ntmps99
  go_wp2_with fail
  refine (cG _).mono ?_
  rintro x u1 ⟨gb, rfl, og, f1⟩
  clear cG d0 d1 d2 d3 d4 d5 d6 d7
  have gR := og.reads
  have glt := own_lt og
  have gbd := og.reads.bd
  have f2 := Fr.alloc u1 (.cells #[] 2)
  have oL := own_empty u1 w.heap.size f1.size
  have HGB : Hid (w.heap.size ≤ gb ∧ gb < u1.heap.size) := glt
  have s1 := f1.size
  clear og glt
  go_wp2_with fail
  go_loopw [8, 9] (fun v i wr => ∃ q : Nat, q ≤ gs.length ∧ i = .int .i64 q ∧ OwnS wr u1.heap.size v ((gs.take q).map (lastG es J)) ∧ Fr u1 wr) (fun _ i _ => gs.length - (intOf i).toNat)
  case atStart => exact ⟨0, Nat.zero_le _, rfl, own_empty u1 _ (Nat.le_refl _), f2⟩
  case round =>
    obtain ⟨q, hq, rfl, oV, hF⟩ := hrel
    by_cases hlt : q < gs.length
    · have hqi : (q : Int) < gs.length := by omega
      have hqb : decide ((q : Int) < gs.length) = true := by simp; omega
      obtain ⟨bb, off2, e0, hc⟩ := (gR.fr hF).at_ q hlt
      simp only [Option.some.injEq, Addr.mk.injEq, and_true] at e0
      obtain ⟨rfl, rfl⟩ := e0
      have HC : Hid (∀ u, Fr u1 u → u.cell? ⟨gb, q, none⟩ = some (.int .i64 gs[q])) := fun u fu => by
        obtain ⟨bb, off2, e0, hc⟩ := (gR.fr fu).at_ q hlt
        simp only [Option.some.injEq, Addr.mk.injEq, and_true] at e0
        obtain ⟨rfl, rfl⟩ := e0
        have := hc q hlt
        rw [getD_at hlt, Nat.zero_add] at this
        exact this
      have HT : Hid ((gs.take (q + 1)).map (lastG es J) = (gs.take q).map (lastG es J) ++ [lastG es J gs[q]]) := by
        rw [List.take_succ_eq_append_getElem hlt, List.map_append]
        exact rfl
      have hbl := lastG_lt es gs[q]
      obtain ⟨G, hG⟩ : ∃ G, G = gs[q] := ⟨_, rfl⟩
      simp only [← hG] at HC HT hbl
      clear hG hc
      go_wp2_with fail
      go_loopw [10, 11] (fun v i wq => ∃ p : Nat, p ≤ J ∧ i = .int .i64 p ∧ v = .int .i64 (lastG es p G) ∧ Fr wr wq) (fun _ i _ => J - (intOf i).toNat)
      case atStart => exact ⟨0, Nat.zero_le _, rfl, rfl, Fr.refl _⟩
      case round =>
        obtain ⟨i, hi, rfl, rfl, hF2⟩ := hrel
        by_cases hlp : i < J
        · have hii : (i : Int) < J := by omega
          have hil : (i : Int) < es.length := by omega
          have FW := f1.trans (hF.trans hF2)
          obtain ⟨b', o', e1, hev⟩ := (h.fr FW).at_ i (by omega)
          simp only [Option.some.injEq, Addr.mk.injEq, and_true] at e1
          obtain ⟨rfl, rfl⟩ := e1
          have ev := hev i (by omega)
          have HE : Hid (evA es i = es[i]) := evA_at (by omega)
          obtain ⟨E, hE⟩ : ∃ E, E = es[i] := ⟨_, rfl⟩
          rw [← hE] at ev HE
          clear hE hev
          obtain ⟨k, gr, o, wi, l, sz, f, t⟩ := E
          have HQ : Hid (∀ u, Fr wr u → (u.cell? ⟨eb, off + i * 8, none⟩ = some (.int .i64 k) ∧ u.cell? ⟨eb, off + i * 8 + 1, none⟩ = some (.int .i64 gr) ∧ u.cell? ⟨eb, off + i * 8 + 2, none⟩ = some (.int .i64 o) ∧ u.cell? ⟨eb, off + i * 8 + 3, none⟩ = some (.int .i64 wi) ∧ u.cell? ⟨eb, off + i * 8 + 4, none⟩ = some (.int .i64 l) ∧ u.cell? ⟨eb, off + i * 8 + 5, none⟩ = some (.int .i64 sz) ∧ u.cell? ⟨eb, off + i * 8 + 6, none⟩ = some (.int .i64 f) ∧ u.cell? ⟨eb, off + i * 8 + 7, none⟩ = some (.int .i64 t)) ∧ u.cell? ⟨gb, q, none⟩ = some (.int .i64 G)) := fun u fu => by
            have ev := ev.keep fu (by simp)
            obtain ⟨d0, d1, d2, d3, d4, d5, d6, d7⟩ := ev
            exact ⟨⟨d0, d1, d2, d3, d4, d5, d6, d7⟩, HC.out u ((hF.trans hF2).trans fu)⟩
          have cG := fun u => specGors_any ⟨k, gr, o, wi, l, sz, f, t⟩ u
          simp only at cG
          have HL : Hid (lastG es (i + 1) G = if memB (gorsL ⟨k, gr, o, wi, l, sz, f, t⟩) G = true then (i : Int) else lastG es i G) := by
            show (if ofG es i G = true then (i : Int) else lastG es i G) = _
            unfold ofG
            rw [HE.out]
          obtain ⟨xs, hxs⟩ : ∃ xs, xs = gorsL ⟨k, gr, o, wi, l, sz, f, t⟩ := ⟨_, rfl⟩
          simp only [← hxs] at cG HL
          clear hxs HE ev
          obtain ⟨⟨c0, c1, c2, c3, c4, c5, c6, c7⟩, cg⟩ := HQ.out wr (Fr.refl wr)
          go_wp2_with fail
          go_region_held3 (fun u => (u.cell? ⟨eb, off + i * 8, none⟩ = some (.int .i64 k) ∧ u.cell? ⟨eb, off + i * 8 + 1, none⟩ = some (.int .i64 gr) ∧ u.cell? ⟨eb, off + i * 8 + 2, none⟩ = some (.int .i64 o) ∧ u.cell? ⟨eb, off + i * 8 + 3, none⟩ = some (.int .i64 wi) ∧ u.cell? ⟨eb, off + i * 8 + 4, none⟩ = some (.int .i64 l) ∧ u.cell? ⟨eb, off + i * 8 + 5, none⟩ = some (.int .i64 sz) ∧ u.cell? ⟨eb, off + i * 8 + 6, none⟩ = some (.int .i64 f) ∧ u.cell? ⟨eb, off + i * 8 + 7, none⟩ = some (.int .i64 t)) ∧ u.cell? ⟨gb, q, none⟩ = some (.int .i64 G)) (go_keep)
            (first | (go_at_call 161; refine (cG _).mono ?_; rintro x z1 ⟨g1, rfl, o1, f3⟩; have g3 := (Fr.drew wr).trans f3; obtain ⟨⟨y0, y1, y2, y3, y4, y5, y6, y7⟩, yg⟩ := HQ.out z1 g3) | (go_at_call 57; refine (l4In_any _ _ _ xs G _ rfl o1.reads).mono ?_; rintro x z2 ⟨rfl, rfl⟩))
          all_goals
            clear c0 c1 c2 c3 c4 c5 c6 c7 cg y0 y1 y2 y3 y4 y5 y6 y7 yg cG HQ
            cases hm : memB xs G
            · have HL2 : Hid (lastG es (i + 1) G = lastG es i G) := by rw [HL.out, hm]; exact if_neg (by simp)
              clear HL hm
              go_wp2_with fail
              go_roundw
              case rel => exact ⟨i + 1, by omega, by go_num, by rw [HL2.out], hF2.trans g3⟩
              case measure => simp [intOf] <;> omega
            · have HL2 : Hid (lastG es (i + 1) G = i) := by rw [HL.out, hm]; exact if_pos rfl
              clear HL hm
              go_wp2_with fail
              go_roundw
              case rel => exact ⟨i + 1, by omega, by go_num, by rw [HL2.out], hF2.trans g3⟩
              case measure => simp [intOf] <;> omega
        · have e : J = i := by omega
          have hbn := hbl J
          have hm := fun u => reads_one u (lastG es J G) ⟨by omega, by omega⟩
          have hll : ((gs.take q).map (lastG es J)).length ≤ 2 := by simp; omega
          have oV2 := oV.fr hF2
          have hsz := (hF.trans hF2).size
          rw [← e]
          clear hi e
          obtain ⟨N, hN⟩ : ∃ N, N = lastG es J G := ⟨_, rfl⟩
          rw [← hN] at HT hm ⊢
          clear hN hbl hlp
          go_wp2_with (at_builtin; refine appI _ rfl _ _ rfl u1.heap.size _ _ [N] rfl (oV2.fr (Fr.alloc _ _)) _ _ _ rfl rfl (by simp) (hm _) (by simp; omega) (by simp; omega) ?_; intro v1 w4 hv1 hg1)
          go_roundw
          case rel => exact ⟨q + 1, by omega, by go_num, by rw [HT.out]; exact hv1, ((hF.trans hF2).trans (Fr.alloc _ _)).then hg1 oV.blk⟩
          case measure => simp [intOf] <;> omega
    · have e : q = gs.length := by omega
      subst e
      rw [List.take_length] at oV
      obtain ⟨lg, lcap, rfl, oL2⟩ := oV
      have lR := oL2.reads
      have hlen : (gs.map (lastG es J)).length = gs.length := by simp
      have HLS : Hid (∀ i, edgeT es tss i J = (memB (gs.map (lastG es J)) i || ((evA es i).k == 1 && memB gs (evA es i).o) || meetsB (tss.getD i []) (tss.getD J []))) := fun i => by unfold edgeT; rw [HGS.out]
      obtain ⟨ls, hls⟩ : ∃ ls, ls = gs.map (lastG es J) := ⟨_, rfl⟩
      rw [← hls] at lR hlen HLS oL2 ⊢
      rw [hlen]
      have HLEN : Hid (ls.length = gs.length) := hlen
      clear hls oL2 hq hlt hgl oL gbd hlen
      go_wp2_with fail
      obtain ⟨B0, hB0⟩ : ∃ B0, B0 = wr.heap.size := ⟨_, rfl⟩
      have HB0 : Hid (B0 = wr.heap.size) := hB0
      have HO0 : Hid (OwnS (wr.alloc (.cells #[] 2)) B0 (.slice (some ⟨wr.heap.size, 0, none⟩) 0 0) []) := own_empty wr B0 (by omega)
      clear hB0
      go_loopw [12, 13] (fun v i wq => ∃ p : Nat, p ≤ J ∧ i = .int .i64 p ∧ OwnS wq B0 v (edgesT es tss J p) ∧ Fr wr wq) (fun _ i _ => J - (intOf i).toNat)
      case atStart => exact ⟨0, Nat.zero_le _, rfl, HO0.out, Fr.alloc _ _⟩
      case round =>
        obtain ⟨i, hi, rfl, oO, hF2⟩ := hrel
        by_cases hlp : i < J
        · have hii : (i : Int) < J := by omega
          have hil : (i : Int) < es.length := by omega
          have hsz2 := hF2.size
          have hBw : B0 ≤ wr.heap.size := by have := HB0.out; omega
          have HBw : Hid (B0 ≤ wr.heap.size) := hBw
          have FW := (f1.trans hF).trans hF2
          obtain ⟨b', o', e1, hev⟩ := (h.fr FW).at_ i (by omega)
          simp only [Option.some.injEq, Addr.mk.injEq, and_true] at e1
          obtain ⟨rfl, rfl⟩ := e1
          have ev := hev i (by omega)
          have HE : Hid (evA es i = es[i]) := evA_at (by omega)
          obtain ⟨c0, -, c2, -⟩ := ev
          have HS := HLS.out i
          rw [HE.out] at HS
          obtain ⟨ki, hki⟩ : ∃ z, z = es[i].k := ⟨_, rfl⟩
          obtain ⟨oi, hoi⟩ : ∃ z, z = es[i].o := ⟨_, rfl⟩
          simp only [← hki, ← hoi] at c0 c2 HS
          have HS : Hid _ := HS
          obtain ⟨sls, ⟨ag', ac', ea, oa, la⟩, s2, s3⟩ := (hA.fr FW).at_
          simp only [Value.slice.injEq, Option.some.injEq, Addr.mk.injEq, and_true] at ea
          obtain ⟨rfl, hsl, rfl⟩ := ea
          have aR := own_readsG oa la
          have ai := aR.at_ i (by omega)
          obtain ⟨b2, o2, e2, ac0⟩ := ai
          simp only [Option.some.injEq, Addr.mk.injEq, and_true] at e2
          obtain ⟨rfl, rfl⟩ := e2
          have x1 := ac0 i (by omega) 0 (by decide)
          have x2 := ac0 J (by omega) 0 (by decide)
          have m1 := s3 i (by omega) (by omega)
          have m2 := s3 J (by omega) (by omega)
          have et1 : tss.getD i [] = tss[i]'(by omega) := by rw [List.getD_eq_getElem?_getD, List.getElem?_eq_getElem (by omega)]; rfl
          have et2 : tss.getD J [] = tss[J]'(by omega) := by rw [List.getD_eq_getElem?_getD, List.getElem?_eq_getElem (by omega)]; rfl
          rw [et1, et2] at HS
          obtain ⟨si, hsi⟩ : ∃ z, z = sls[i]'(by omega) := ⟨_, rfl⟩
          obtain ⟨sj, hsj⟩ : ∃ z, z = sls[J]'(by omega) := ⟨_, rfl⟩
          obtain ⟨ti, hti⟩ : ∃ z, z = tss[i]'(by omega) := ⟨_, rfl⟩
          obtain ⟨tj, htj⟩ : ∃ z, z = tss[J]'(by omega) := ⟨_, rfl⟩
          rw [← hsi, ← hti] at m1
          rw [← hsj, ← htj] at m2
          rw [← hsi] at x1
          rw [← hsj] at x2
          rw [← hti, ← htj] at HS
          obtain ⟨m1, n1, -⟩ := m1
          obtain ⟨m2, n2, -⟩ := m2
          obtain ⟨ai, ni, ci⟩ := si
          obtain ⟨aj, nj, cj⟩ := sj
          have x1 : wr.cell? ⟨ag, i, none⟩ = some (.slice ai ni ci) := by simpa [layS] using x1
          have x2 : wr.cell? ⟨ag, J, none⟩ = some (.slice aj nj cj) := by simpa [layS] using x2
          simp only at n1 n2 m1 m2
          have gR2 := gR.fr (hF.trans hF2)
          have lR2 := lR.fr hF2
          have HT : Hid (∀ b, edgeT es tss i J = b → edgesT es tss J (i + 1) = if b = true then edgesT es tss J i ++ [(i : Int)] else edgesT es tss J i) := fun b hb => by rw [edgesT_succ, hb]
          have hel := edgesT_len es tss J i
          have hone := fun u => reads_one u (i : Int) ⟨by omega, by omega⟩
          clear hev hki hoi hsi hsj hti htj et1 et2 ac0 aR oa la s2 s3 hsl HLS HE
          have cM := fun (s : Later wr) => meets_any ai aj ni ci nj cj ti tj s.u n1.symm n2.symm (m1.fr s.fr) (m2.fr s.fr)
          have cL := fun (s : Later wr) => l4In_any (some ⟨lg, 0, none⟩) gs.length lcap ls (i : Int) s.u HLEN.out (lR2.fr s.fr)
          have cO := l4In_any (some ⟨gb, 0, none⟩) gs.length gs.length gs oi wr rfl gR2
          have p1 : ∀ s : Later wr, s.u.cell? ⟨ag, i, none⟩ = some (.slice ai ni ci) := fun s => s.fr.cell x1
          have p2 : ∀ s : Later wr, s.u.cell? ⟨ag, J, none⟩ = some (.slice aj nj cj) := fun s => s.fr.cell x2
          obtain ⟨mB, hmB⟩ : ∃ b, b = meetsB ti tj := ⟨_, rfl⟩
          simp only [← hmB] at cM HS
          clear x1 x2 m1 m2 n1 n2 gR2 lR2 hmB
          cases hk : (ki == 1)
          · clear cO
            go_wp2_with fail
            cases ha : memB ls i
            · simp only [ha] at cL
              cases hb : mB
              · simp only [hb] at cM
                have := Later.some wr
                refine wp_region_grown (by kernel_rfl) (by kernel_rfl) ?_
                repeat (go_big_quiet_step (first | with_reducible exact Calls.grown_same (cL _) | with_reducible exact Calls.grown_of (cM _)))
                refine wpQuiet_nil ?_
                rintro _ ⟨s, rfl⟩
                have HTT : Hid _ := HT.out false (by rw [HS.out]; simp [ha, hb, hk])
                go_wp2_with fail
                go_roundw
                case rel => exact ⟨i + 1, by omega, by go_num, by rw [HTT.out]; exact oO.fr s.fr, hF2.trans s.fr⟩
                case measure => simp [intOf] <;> omega
              · simp only [hb] at cM
                have := Later.some wr
                refine wp_region_grown (by kernel_rfl) (by kernel_rfl) ?_
                repeat (go_big_quiet_step (first | with_reducible exact Calls.grown_same (cL _) | with_reducible exact Calls.grown_of (cM _)))
                refine wpQuiet_nil ?_
                rintro _ ⟨s, rfl⟩
                have HTT : Hid _ := HT.out true (by rw [HS.out]; simp [ha, hb, hk])
                have f5 := s.fr
                have o5 := oO.fr f5
                have hs5 := f5.size
                go_wp2_with (at_builtin; refine appI _ rfl _ _ rfl B0 _ _ [(i : Int)] rfl (o5.fr (Fr.alloc _ _)) _ _ _ rfl rfl (by simp) (hone _) (by simp; omega) (by simp; have := HBw.out; omega) ?_; intro v1 w4 hv1 hg1)
                go_roundw
                case rel => exact ⟨i + 1, by omega, by go_num, by rw [HTT.out]; exact hv1, ((hF2.trans f5).trans (Fr.alloc _ _)).then hg1 (fun j hj => by have := oO.blk j hj; have := HB0.out; omega)⟩
                case measure => simp [intOf] <;> omega
            · simp only [ha] at cL
              have := Later.some wr
              refine wp_region_grown (by kernel_rfl) (by kernel_rfl) ?_
              repeat (go_big_quiet_step (first | with_reducible exact Calls.grown_same (cL _) | with_reducible exact Calls.grown_of (cM _)))
              refine wpQuiet_nil ?_
              rintro _ ⟨s, rfl⟩
              have HTT : Hid _ := HT.out true (by rw [HS.out]; simp [ha])
              have f5 := s.fr
              have o5 := oO.fr f5
              have hs5 := f5.size
              go_wp2_with (at_builtin; refine appI _ rfl _ _ rfl B0 _ _ [(i : Int)] rfl (o5.fr (Fr.alloc _ _)) _ _ _ rfl rfl (by simp) (hone _) (by simp; omega) (by simp; have := HBw.out; omega) ?_; intro v1 w4 hv1 hg1)
              go_roundw
              case rel => exact ⟨i + 1, by omega, by go_num, by rw [HTT.out]; exact hv1, ((hF2.trans f5).trans (Fr.alloc _ _)).then hg1 (fun j hj => by have := oO.blk j hj; have := HB0.out; omega)⟩
              case measure => simp [intOf] <;> omega
          · cases hg : memB gs oi
            · simp only [hg] at cO
              go_wp2_with fail
              refine cO.mono ?_
              rintro x wr ⟨rfl, rfl⟩
              clear cO
              go_wp2_with fail
              cases ha : memB ls i
              · simp only [ha] at cL
                cases hb : mB
                · simp only [hb] at cM
                  have := Later.some wr
                  refine wp_region_grown (by kernel_rfl) (by kernel_rfl) ?_
                  repeat (go_big_quiet_step (first | with_reducible exact Calls.grown_same (cL _) | with_reducible exact Calls.grown_of (cM _)))
                  refine wpQuiet_nil ?_
                  rintro _ ⟨s, rfl⟩
                  have HTT : Hid _ := HT.out false (by rw [HS.out]; simp [ha, hb, hk, hg])
                  clear ha hb hk hg cM cL p1 p2 HS HT hone
                  go_wp2_with fail
                  go_roundw
                  case rel => exact ⟨i + 1, by omega, by go_num, by rw [HTT.out]; exact oO.fr s.fr, hF2.trans s.fr⟩
                  case measure => simp [intOf] <;> omega
                · simp only [hb] at cM
                  have := Later.some wr
                  refine wp_region_grown (by kernel_rfl) (by kernel_rfl) ?_
                  repeat (go_big_quiet_step (first | with_reducible exact Calls.grown_same (cL _) | with_reducible exact Calls.grown_of (cM _)))
                  refine wpQuiet_nil ?_
                  rintro _ ⟨s, rfl⟩
                  have HTT : Hid _ := HT.out true (by rw [HS.out]; simp [ha, hb, hk, hg])
                  have f5 := s.fr
                  have o5 := oO.fr f5
                  have hs5 := f5.size
                  go_wp2_with (at_builtin; refine appI _ rfl _ _ rfl B0 _ _ [(i : Int)] rfl (o5.fr (Fr.alloc _ _)) _ _ _ rfl rfl (by simp) (hone _) (by simp; omega) (by simp; have := HBw.out; omega) ?_; intro v1 w4 hv1 hg1)
                  go_roundw
                  case rel => exact ⟨i + 1, by omega, by go_num, by rw [HTT.out]; exact hv1, ((hF2.trans f5).trans (Fr.alloc _ _)).then hg1 (fun j hj => by have := oO.blk j hj; have := HB0.out; omega)⟩
                  case measure => simp [intOf] <;> omega
              · simp only [ha] at cL
                have := Later.some wr
                refine wp_region_grown (by kernel_rfl) (by kernel_rfl) ?_
                repeat (go_big_quiet_step (first | with_reducible exact Calls.grown_same (cL _) | with_reducible exact Calls.grown_of (cM _)))
                refine wpQuiet_nil ?_
                rintro _ ⟨s, rfl⟩
                have HTT : Hid _ := HT.out true (by rw [HS.out]; simp [ha])
                have f5 := s.fr
                have o5 := oO.fr f5
                have hs5 := f5.size
                go_wp2_with (at_builtin; refine appI _ rfl _ _ rfl B0 _ _ [(i : Int)] rfl (o5.fr (Fr.alloc _ _)) _ _ _ rfl rfl (by simp) (hone _) (by simp; omega) (by simp; have := HBw.out; omega) ?_; intro v1 w4 hv1 hg1)
                go_roundw
                case rel => exact ⟨i + 1, by omega, by go_num, by rw [HTT.out]; exact hv1, ((hF2.trans f5).trans (Fr.alloc _ _)).then hg1 (fun j hj => by have := oO.blk j hj; have := HB0.out; omega)⟩
                case measure => simp [intOf] <;> omega
            · simp only [hg] at cO
              go_wp2_with fail
              refine cO.mono ?_
              rintro x wr ⟨rfl, rfl⟩
              clear cO
              go_wp2_with fail
              cases ha : memB ls i
              · simp only [ha] at cL
                have := Later.some wr
                refine wp_region_grown (by kernel_rfl) (by kernel_rfl) ?_
                repeat (go_big_quiet_step (first | with_reducible exact Calls.grown_same (cL _) | with_reducible exact Calls.grown_of (cM _)))
                refine wpQuiet_nil ?_
                rintro _ ⟨s, rfl⟩
                have HTT : Hid _ := HT.out true (by rw [HS.out]; simp [ha, hk, hg])
                have f5 := s.fr
                have o5 := oO.fr f5
                have hs5 := f5.size
                go_wp2_with (at_builtin; refine appI _ rfl _ _ rfl B0 _ _ [(i : Int)] rfl (o5.fr (Fr.alloc _ _)) _ _ _ rfl rfl (by simp) (hone _) (by simp; omega) (by simp; have := HBw.out; omega) ?_; intro v1 w4 hv1 hg1)
                go_roundw
                case rel => exact ⟨i + 1, by omega, by go_num, by rw [HTT.out]; exact hv1, ((hF2.trans f5).trans (Fr.alloc _ _)).then hg1 (fun j hj => by have := oO.blk j hj; have := HB0.out; omega)⟩
                case measure => simp [intOf] <;> omega
              · simp only [ha] at cL
                have := Later.some wr
                refine wp_region_grown (by kernel_rfl) (by kernel_rfl) ?_
                repeat (go_big_quiet_step (first | with_reducible exact Calls.grown_same (cL _) | with_reducible exact Calls.grown_of (cM _)))
                refine wpQuiet_nil ?_
                rintro _ ⟨s, rfl⟩
                have HTT : Hid _ := HT.out true (by rw [HS.out]; simp [ha])
                have f5 := s.fr
                have o5 := oO.fr f5
                have hs5 := f5.size
                go_wp2_with (at_builtin; refine appI _ rfl _ _ rfl B0 _ _ [(i : Int)] rfl (o5.fr (Fr.alloc _ _)) _ _ _ rfl rfl (by simp) (hone _) (by simp; omega) (by simp; have := HBw.out; omega) ?_; intro v1 w4 hv1 hg1)
                go_roundw
                case rel => exact ⟨i + 1, by omega, by go_num, by rw [HTT.out]; exact hv1, ((hF2.trans f5).trans (Fr.alloc _ _)).then hg1 (fun j hj => by have := oO.blk j hj; have := HB0.out; omega)⟩
                case measure => simp [intOf] <;> omega
        · have e : J = i := by omega
          rw [← e] at oO
          clear lR gR HLS
          go_wp2_with fail
          go_ret
          exact ⟨_, rfl, oO.lower (by have := hF.size; have := HB0.out; omega), (f1.trans hF).trans hF2⟩
end Go.Proofs.YthehhiccfnhinaaGreatDoor
/-
  Maps from things (a space, an object, a slot) to sets of places.
-/
namespace Go.Proofs.YthehhiccfnhinaaGreatDoor
open Go.RowKit

theorem laidOutP : laidOutB Tryz.prog = true := by kernel_rfl
theorem rowT : (225 : TypeId) < Tryz.prog.types.size := of_decide_eq_true (by kernel_rfl)
set_option maxRecDepth 20000 in
theorem keyAtT : Tryz.prog.keyTypeAt 3 225 = true := by kernel_rfl
theorem keyedT : Maps.Keyed Tryz.prog 225 := Maps.Keyed.of_law (deep_law_laid laidOutP (m := 3) (by omega) rowT keyAtT (by kernel_rfl))
/-- A thing's value as a key. -/
def thV (sp ob sl : Int) : Value := .agg #[.int .i64 sp, .int .i64 ob, .int .i64 sl, .bool false, .bool false]
def thL (sp ob sl : Int) : Lit := .string (keyBytes [.int .i64 sp, .int .i64 ob, .int .i64 sl, .bool false, .bool false])
set_option maxRecDepth 20000 in
theorem keyTypeT : Tryz.prog.keyType 225 = true := by kernel_rfl
theorem cellsT : Tryz.prog.cellsOf 225 = 5 := by kernel_rfl
theorem cells64 : Tryz.prog.cellsOf 2 = 1 := by kernel_rfl
theorem cellsB : Tryz.prog.cellsOf 4 = 1 := by kernel_rfl
theorem sizeP2 : ∃ n, Tryz.prog.types.size = n + 2 := ⟨Tryz.prog.types.size - 2, by have : 2 ≤ Tryz.prog.types.size := of_decide_eq_true (by kernel_rfl); omega⟩
theorem kl64 (d : Nat) {x : Int} (h : I64 x) : Tryz.prog.keyLits (d + 1) 2 [.int .i64 x] = some [.int .i64 x] := by
  unfold Program.keyLits
  simp only [Tryz.underlying2, lit64 h, and_self, if_true]
theorem klB (d : Nat) (b : Bool) : Tryz.prog.keyLits (d + 1) 4 [.bool b] = some [.bool b] := by
  unfold Program.keyLits
  simp only [Tryz.underlying4]
set_option maxHeartbeats 400000 in
theorem klT (d : Nat) {sp ob sl : Int} (h1 : I64 sp) (h2 : I64 ob) (h3 : I64 sl) : Tryz.prog.keyLits (d + 2) 225 [.int .i64 sp, .int .i64 ob, .int .i64 sl, .bool false, .bool false] = some [.int .i64 sp, .int .i64 ob, .int .i64 sl, .bool false, .bool false] := by
  have e1 := kl64 d h1
  have e2 := kl64 d h2
  have e3 := kl64 d h3
  have e4 := klB d false
  unfold Program.keyLits
  simp only [Tryz.underlying225]
  rw [if_pos ⟨by rw [cellsT]; rfl, by simp⟩]
  simp [e1, e2, e3, e4, cells64, cellsB]
theorem keyOfT {sp ob sl : Int} (h1 : I64 sp) (h2 : I64 ob) (h3 : I64 sl) : keyOf Tryz.prog 225 (thV sp ob sl) = some (thL sp ob sl) := by
  obtain ⟨n, hn⟩ := sizeP2
  have hf : (thV sp ob sl).formed Tryz.prog 225 = true := by
    simp only [thV, Value.formed, Tryz.underlying225, cellsT]
    rfl
  have hk := klT (n + 1) h1 h2 h3
  have hc : (thV sp ob sl).cells.toList = [.int .i64 sp, .int .i64 ob, .int .i64 sl, .bool false, .bool false] := rfl
  unfold keyOf
  simp only [Tryz.underlying225]
  rw [keyTypeT, hf, hn, hc, hk]
  rfl
theorem thL_ne {a b c a' b' c' : Int} (h1 : I64 a) (h2 : I64 b) (h3 : I64 c) (h1' : I64 a') (h2' : I64 b') (h3' : I64 c') (h : ¬ (a = a' ∧ b = b' ∧ c = c')) : thL a b c ≠ thL a' b' c' := by
  intro e
  have := keyedT.inj (keyOfT h1 h2 h3) (e ▸ keyOfT h1' h2' h3')
  apply h
  simpa [thV] using this
/-- Block b is a map of at most n entries; what it has of a thing is the set that G tells. -/
def MapT (w : World) (b n : Nat) (G : Int → Int → Int → Nat) : Prop :=
  ∃ D : DataW Value, w.ownsMap Tryz.prog 225 asIs b n D ∧ ∃ f : Int → Int → Int → Option Value, (∀ i j k z, I64 i → I64 j → I64 k → D.atKey (thL i j k) z = ((f i j k).map DataW.held).getD z) ∧ ∀ i j k, (f i j k).getD (psV 0) = psV (G i j k)
theorem MapT.made (w : World) : MapT (w.alloc (.map #[] 0)) w.heap.size 0 (fun _ _ _ => 0) :=
  ⟨.map [], World.ownsMap_made w _ _ _, fun _ _ _ => none, fun _ _ _ _ _ _ _ => rfl, fun _ _ _ => rfl⟩
theorem MapT.keep {w w' : World} {b n : Nat} {G : Int → Int → Int → Nat} {row : Option Nat} (h : MapT w b n G) (k : w.grownBy w' row) (hr : some b ≠ row) : MapT w' b n G := by
  obtain ⟨D, h1, h2⟩ := h
  exact ⟨D, h1.kept k hr, h2⟩
theorem MapT.fr {w w' : World} {b n : Nat} {G : Int → Int → Int → Nat} (h : MapT w b n G) (k : Fr w w') : MapT w' b n G := h.keep k (by simp)
theorem MapT.lt {w : World} {b n : Nat} {G : Int → Int → Int → Nat} (h : MapT w b n G) : b < w.heap.size := by
  obtain ⟨D, h1, _⟩ := h
  exact h1.lt
theorem zeroPs (w : World) : (zeroValue 100).run Tryz.prog w = .ok (psV 0) w := by kernel_rfl
/-- 'm[thing]'. -/
theorem MapT.look {w : World} {b n : Nat} {G : Int → Int → Int → Nat} (h : MapT w b n G) {i j k : Int} (hi : I64 i) (hj : I64 j) (hk : I64 k) :
    (Instr.lookup 217 (.map (some b)) (thV i j k) false).run Tryz.prog w = .ok (psV (G i j k)) w := by
  obtain ⟨D, h1, f, h2, h3⟩ := h
  obtain ⟨v, ps, hrun, hv⟩ := h1.lookup keyedT Tryz.underlying217 (zeroPs w) (zd := .held (psV 0)) (zp := []) rfl (keyOfT hi hj hk)
  simp only [asIs, Option.some.injEq, Prod.mk.injEq] at hv
  have hv := hv.1
  rw [h2 _ _ _ _ hi hj hk] at hv
  have : v = psV (G i j k) := by
    rw [← h3]
    cases hf : f i j k with
    | none => rw [hf] at hv; simpa using hv
    | some u => rw [hf] at hv; simpa using hv
  rw [hrun, this]
/-- 'm[thing] = set'. -/
theorem MapT.put {w : World} {b n : Nat} {G : Int → Int → Int → Nat} (h : MapT w b n G) (hn : n < maxLen) {i j k : Int} (hi : I64 i) (hj : I64 j) (hk : I64 k) (M : Nat) :
    ∃ w', (Instr.mapUpdate 217 (.map (some b)) (thV i j k) (psV M)).run Tryz.prog w = .ok () w' ∧ MapT w' b (n + 1) (fun a c d => if a = i ∧ c = j ∧ d = k then M else G a c d) ∧ w.grownBy w' (some b) := by
  obtain ⟨D, h1, f, h2, h3⟩ := h
  obtain ⟨w', hrun, h4, h5⟩ := h1.update keyedT Tryz.underlying217 hn (keyOfT hi hj hk) (val := psV M) (d := .held (psV M)) (ps := []) rfl
  refine ⟨w', hrun, ⟨_, h4, fun a c d => if a = i ∧ c = j ∧ d = k then some (psV M) else f a c d, fun a c d z ha hc hd => ?_, fun a c d => ?_⟩, h5⟩
  · show _ = (Option.map DataW.held (if a = i ∧ c = j ∧ d = k then some (psV M) else f a c d)).getD z
    by_cases e : a = i ∧ c = j ∧ d = k
    · obtain ⟨rfl, rfl, rfl⟩ := e
      rw [Maps.atKey_put_same h1.isMap (keyedT.key (keyOfT hi hj hk))]
      simp
    · rw [if_neg e, Maps.atKey_put_other (thL_ne ha hc hd hi hj hk e), h2 _ _ _ _ ha hc hd]
  · show (if a = i ∧ c = j ∧ d = k then some (psV M) else f a c d).getD (psV 0) = psV (if a = i ∧ c = j ∧ d = k then M else G a c d)
    by_cases e : a = i ∧ c = j ∧ d = k
    · rw [if_pos e, if_pos e]
      rfl
    · rw [if_neg e, if_neg e, h3]
end Go.Proofs.YthehhiccfnhinaaGreatDoor
/-
  The past of a trace: the edges into the next event.
-/
namespace Go.Proofs.YthehhiccfnhinaaGreatDoor
open Go.RowKit

set_option maxHeartbeats 1000000 in
theorem thing_any (c : Tch) (w : World) :
    Calls Tryz.prog 202 #[.agg #[.int .i64 c.sp, .int .i64 c.ob, .int .i64 c.sl, .bool c.tk, .bool c.gv]] w fun e w' => e = .returned (.agg #[.int .i64 c.sp, .int .i64 c.ob, .int .i64 c.sl, .bool false, .bool false]) ∧ Fr w w' := by
  obtain ⟨sp, ob, sl, tk, gv⟩ := c
  simp only
  obtain ⟨U, hU⟩ : ∃ U, U = (w.alloc (.cells #[.int .i64 sp, .int .i64 ob, .int .i64 sl, .bool tk, .bool gv] 225)).alloc (.cells #[.int .i64 sp, .int .i64 ob, .int .i64 sl, .bool false, .bool false] 225) := ⟨_, rfl⟩
  have F : Fr w U := by rw [hU]; exact (Fr.alloc w _).trans (Fr.alloc _ _)
  have R : U.heap[w.heap.size + 1]? = some (.cells #[.int .i64 sp, .int .i64 ob, .int .i64 sl, .bool false, .bool false] 225 (0, 0)) := by
    have := heap_alloc_new (w.alloc (.cells #[.int .i64 sp, .int .i64 ob, .int .i64 sl, .bool tk, .bool gv] 225)) (.cells #[.int .i64 sp, .int .i64 ob, .int .i64 sl, .bool false, .bool false] 225)
    rw [World.size_alloc] at this
    rw [hU]
    exact this
  have d0 := cell_of_row _ _ 0 _ _ _ R
  have d1 := cell_of_row _ _ 1 _ _ _ R
  have d2 := cell_of_row _ _ 2 _ _ _ R
  have d3 := cell_of_row _ _ 3 _ _ _ R
  have d4 := cell_of_row _ _ 4 _ _ _ R
  clear R
  go_enter Tryz.func202, Tryz.ntmps202
  go_wp2_with fail
  rw [← hU]
  clear hU
  refine bodyPost_ret (v := .agg #[.int .i64 sp, .int .i64 ob, .int .i64 sl, .bool false, .bool false]) (by simp [results, Tryz.results202, go_sem, d0, d1, d2, d3, d4]) rfl ⟨rfl, F⟩

/-- A past: its board, what started whom, who did what last, who gave to what. -/
structure PastW (lo : Nat × Nat) (w : World) (p gm b b1 b2 b3 b4 nb nm : Nat) (m : Scn) (st la : Nat → Nat) (G : Int → Int → Int → Nat) : Prop where
  bd : BoardW lo w b b1 b2 b3 b4 nb m
  pt : w.cell? ⟨p, 0, none⟩ = some (.pointer (some ⟨b, 0, none⟩))
  mp : w.cell? ⟨p, 161, none⟩ = some (.map (some gm))
  st : ∀ g, g < 16 → PsC w p (1 + g * 5) (st g)
  la : ∀ g, g < 16 → PsC w p (81 + g * 5) (la g)
  row : RowAt w p 219
  mt : MapT w gm nm G
  ne : b < gm ∧ gm < p ∧ p < lo.2 ∧ lo.1 = 0
theorem PastW.fr {lo : Nat × Nat} {w w' : World} {p gm b b1 b2 b3 b4 nb nm : Nat} {m : Scn} {st la : Nat → Nat} {G : Int → Int → Int → Nat} (h : PastW lo w p gm b b1 b2 b3 b4 nb nm m st la G) (k : Fr w w') : PastW lo w' p gm b b1 b2 b3 b4 nb nm m st la G :=
  ⟨h.bd.fr k, k.cell h.pt, k.cell h.mp, fun g hg => (h.st g hg).fr k, fun g hg => (h.la g hg).fr k, h.row.fr k, h.mt.fr k, h.ne⟩

/-- The edges by the goroutines, by the touches. -/
def goE (st la : Nat → Nat) (gs : List Int) : Nat := gs.foldl (fun N g => N ||| st g.toNat ||| la g.toNat) 0
def thE (G : Int → Int → Int → Nat) (N : Nat) (ts : List Tch) : Nat := ts.foldl (fun N t => if t.tk = true then N ||| G t.sp t.ob t.sl else N) N
theorem goE_one (st la : Nat → Nat) (gs : List Int) (g : Int) : goE st la (gs ++ [g]) = goE st la gs ||| st g.toNat ||| la g.toNat := by simp [goE]
theorem thE_one (G : Int → Int → Int → Nat) (N : Nat) (ts : List Tch) (t : Tch) : thE G N (ts ++ [t]) = if t.tk = true then thE G N ts ||| G t.sp t.ob t.sl else thE G N ts := by simp [thE]
theorem gors_in {e : Ev} (h : evOk e = true) {g : Int} (hg : g ∈ gorsL e) : 0 ≤ g ∧ g ≤ 15 := by
  have := evOk_gw h
  unfold gorsL at hg
  rw [if_pos h] at hg
  split at hg
  · simp only [List.mem_singleton] at hg
    subst hg
    exact this.1
  · rename_i q
    have h9 : e.k = 9 := by
      by_cases h9 : e.k = 9
      · exact h9
      · exact absurd (Or.inl h9) q
    have h2 := this.2 h9
    simp only [List.mem_cons, List.not_mem_nil, or_false] at hg
    rcases hg with rfl | rfl <;> omega
/-- A touch's numbers. -/
def T64 (t : Tch) : Prop := I64 t.sp ∧ I64 t.ob ∧ I64 t.sl

set_option maxRecDepth 20000 in
set_option maxHeartbeats 4000000 in
theorem edgesInto_any {lo : Nat × Nat} {p gm b b1 b2 b3 b4 nb nm : Nat} {m : Scn} {st la : Nat → Nat} {G : Int → Int → Int → Nat} (e : Ev) (ao : Option Addr) (n c : Nat) (ts : List Tch) (w : World) (h : PastW lo w p gm b b1 b2 b3 b4 nb nm m st la G) (he : evOk e = true)
    (hn : ts.length = n) (hr : ReadsG layT w ao ts) (ht : ∀ t ∈ ts, T64 t) (hs : Shapes w) :
    Calls Tryz.prog 189 #[.pointer (some ⟨p, 0, none⟩), .agg #[.int .i64 e.k, .int .i64 e.g, .int .i64 e.o, .int .i64 e.w, .int .i64 e.l, .int .i64 e.s, .int .i64 e.f, .int .i64 e.t], .slice ao n c] w fun x w' => x = .returned (.agg #[.int .u64 (wd (thE G (goE st la (gorsL e)) ts) 0), .int .u64 (wd (thE G (goE st la (gorsL e)) ts) 1), .int .u64 (wd (thE G (goE st la (gorsL e)) ts) 2), .int .u64 (wd (thE G (goE st la (gorsL e)) ts) 3), .int .u64 (wd (thE G (goE st la (gorsL e)) ts) 4)]) ∧ Fr w w' := by
  subst hn
  have cG := fun u (f : Fr w u) => implGors_any e u (hs.fr f)
  have hgi : ∀ g ∈ gorsL e, 0 ≤ g ∧ g ≤ 15 := fun g hg => gors_in he hg
  have hgl := gors_len e
  obtain ⟨gs, hgs⟩ : ∃ gs, gs = gorsL e := ⟨_, rfl⟩
  simp only [← hgs] at cG hgi hgl ⊢
  clear hgs he hs
  obtain ⟨k, gr, o, wi, l, sz, f, t⟩ := e
  simp only at cG ⊢
  obtain ⟨W, hW⟩ : ∃ W, W = (((w.alloc (.cells #[.int .i64 k, .int .i64 gr, .int .i64 o, .int .i64 wi, .int .i64 l, .int .i64 sz, .int .i64 f, .int .i64 t] 31)).alloc (.cells #[.int .u64 0, .int .u64 0, .int .u64 0, .int .u64 0, .int .u64 0] 100)).alloc (.cells #[.int .u64 0, .int .u64 0, .int .u64 0, .int .u64 0, .int .u64 0] 100)) := ⟨_, rfl⟩
  have f0 : Fr w W := by rw [hW]; exact ((Fr.alloc w _).trans (Fr.alloc _ _)).trans (Fr.alloc _ _)
  have rA : W.heap[w.heap.size + 1]? = some (.cells #[.int .u64 0, .int .u64 0, .int .u64 0, .int .u64 0, .int .u64 0] 100 (0, 0)) := by
    have := heap_alloc_new (w.alloc (.cells #[.int .i64 k, .int .i64 gr, .int .i64 o, .int .i64 wi, .int .i64 l, .int .i64 sz, .int .i64 f, .int .i64 t] 31)) (.cells #[.int .u64 0, .int .u64 0, .int .u64 0, .int .u64 0, .int .u64 0] 100)
    rw [World.size_alloc] at this
    rw [hW]
    exact ((Fr.alloc _ _).block _ (Array.getElem?_eq_some_iff.1 this).1 (by simp)).trans this
  have rB : W.heap[w.heap.size + 1 + 1]? = some (.cells #[.int .u64 0, .int .u64 0, .int .u64 0, .int .u64 0, .int .u64 0] 100 (0, 0)) := by
    have := heap_alloc_new ((w.alloc (.cells #[.int .i64 k, .int .i64 gr, .int .i64 o, .int .i64 wi, .int .i64 l, .int .i64 sz, .int .i64 f, .int .i64 t] 31)).alloc (.cells #[.int .u64 0, .int .u64 0, .int .u64 0, .int .u64 0, .int .u64 0] 100)) (.cells #[.int .u64 0, .int .u64 0, .int .u64 0, .int .u64 0, .int .u64 0] 100)
    rw [World.size_alloc, World.size_alloc] at this
    rw [hW]
    exact this
  go_enter Tryz.func189, Tryz.ntmps189
  go_wp2_with fail
  rw [← hW]
  clear hW
  have p0 : PsC W (w.heap.size + 1 + 1) 0 0 := by
    intro k hk
    rw [cell_of_row _ _ _ _ _ _ rB, wd_zero]
    rcases k with _ | _ | _ | _ | _ | k <;> first | rfl | omega
  have rI : RowAt W (w.heap.size + 1 + 1) 100 := ⟨_, rB⟩
  clear rB
  obtain ⟨A, hA⟩ : ∃ A, A = w.heap.size + 1 := ⟨_, rfl⟩
  rw [← hA] at rA p0 rI ⊢
  have HA : Hid (A = w.heap.size + 1) := hA
  clear hA
  refine (cG _ f0).mono ?_
  rintro x u1 ⟨gb, rfl, og, fg⟩
  clear cG
  have h1 := h.fr (f0.trans fg)
  have rA := (fg.block A (Array.getElem?_eq_some_iff.1 rA).1 (by simp)).trans rA
  have p1 := p0.fr fg
  have r1 := rI.fr fg
  have hr1 := hr.fr (f0.trans fg)
  have F1 := f0.trans fg
  have gR := og.reads
  have glt : A + 1 < gb ∧ gb < u1.heap.size := by
    have := own_lt og
    have := HA.out
    have := rI.lt
    omega
  have HG : Hid (A + 1 < gb) := glt.1
  have HB : Hid (w.heap.size ≤ A + 1) := by have := HA.out; exact (by omega : w.heap.size ≤ A + 1)
  have HW : Hid (PastW lo w p gm b b1 b2 b3 b4 nb nm m st la G) := h
  clear glt h rI p0 fg f0 og h1 hr1
  go_wp2_with fail
  go_loopw [16] (fun i wr => ∃ k : Nat, k ≤ gs.length ∧ i = .int .i64 k ∧ PsC wr (A + 1) 0 (goE st la (gs.take k)) ∧ RowAt wr (A + 1) 100 ∧ u1.grownBy wr (some (A + 1)) ∧ Fr w wr) (fun i _ => gs.length - (intOf i).toNat)
  case atStart => exact ⟨0, Nat.zero_le _, rfl, by simpa [goE] using p1, r1, (Fr.refl u1).wide, F1⟩
  case round =>
    obtain ⟨q, hq, rfl, hP, hR, hg, hF⟩ := hrel
    by_cases hlt : q < gs.length
    · obtain ⟨bb, off, e0, hc⟩ := (gR.keep hg (.inr (by simp only [blk, Option.map_some, ne_eq, Option.some.injEq]; have := HG.out; omega))).at_ q hlt
      simp only [Option.some.injEq, Addr.mk.injEq, and_true] at e0
      obtain ⟨rfl, rfl⟩ := e0
      have hck := hc q hlt
      rw [getD_at hlt] at hck
      have hgb := hgi _ (List.getElem_mem hlt)
      have HT : Hid (goE st la (gs.take (q + 1)) = goE st la (gs.take q) ||| st gs[q].toNat ||| la gs[q].toNat) := by
        rw [List.take_succ_eq_append_getElem hlt, goE_one]
        exact rfl
      obtain ⟨d, hd⟩ : ∃ d : Nat, gs[q] = d := ⟨gs[q].toNat, by omega⟩
      rw [hd] at hck hgb HT
      simp only [Int.toNat_natCast] at HT
      have hd16 : d < 16 := by omega
      have h1 := HW.out.fr hF
      have a0 := (h1.st d hd16) 0 (by omega); have a1 := (h1.st d hd16) 1 (by omega); have a2 := (h1.st d hd16) 2 (by omega); have a3 := (h1.st d hd16) 3 (by omega); have a4 := (h1.st d hd16) 4 (by omega)
      simp only [Nat.add_zero, Nat.zero_add] at a0 hck
      have hqi : (q : Int) < gs.length := by omega
      have cA := fun u (x : PsC u (A + 1) 0 (goE st la (gs.take q))) y => addAll_any (A + 1) 0 (goE st la (gs.take q)) (st d) 100 u x y
      have cB := fun u x y => addAll_any (A + 1) 0 (goE st la (gs.take q) ||| st d) (la d) 100 u x y
      have HL : Hid (∀ u, Fr w u → PsC u p (81 + d * 5) (la d)) := fun u fu => (HW.out.fr fu).la d hd16
      clear hc h1 hd hgb
      obtain ⟨N, hN⟩ : ∃ N, N = goE st la (gs.take q) := ⟨_, rfl⟩
      simp only [← hN] at cA cB hP HT
      clear hN
      go_wp2_with fail
      refine (cA _ hP hR).mono ?_
      rintro x u2 ⟨rfl, hP2, W2⟩
      have hF2 := hF.then W2.by_ (fun j hj => by cases hj; exact HB.out)
      have hg2 := grown_trans hg W2.by_
      have hR2 := W2.row
      have m1 := HL.out _ hF2
      have y0 := m1 0 (by omega); have y1 := m1 1 (by omega); have y2 := m1 2 (by omega); have y3 := m1 3 (by omega); have y4 := m1 4 (by omega)
      simp only [Nat.add_zero] at y0
      clear a0 a1 a2 a3 a4 m1 W2 cA hck
      go_wp2_with fail
      refine (cB _ hP2 hR2).mono ?_
      rintro x u3 ⟨rfl, hP3, W3⟩
      have hF3 := hF2.then W3.by_ (fun j hj => by cases hj; exact HB.out)
      have hg3 := grown_trans hg2 W3.by_
      have hR3 := W3.row
      clear y0 y1 y2 y3 y4 W3 cB
      go_wp2_with fail
      go_roundw
      case rel => exact ⟨q + 1, by omega, by go_num, by rw [HT.out]; exact hP3, hR3, hg3, hF3⟩
      case measure => simp [intOf]; omega
    · have e : q = gs.length := by omega
      subst e
      rw [List.take_length] at hP
      obtain ⟨N, hN⟩ : ∃ N, N = goE st la gs := ⟨_, rfl⟩
      rw [← hN] at hP
      have HN : Hid (N = goE st la gs) := hN
      have rA2 := (hg.block A (Array.getElem?_eq_some_iff.1 rA).1 (by simp)).trans rA
      clear hN gR hgi hgl p1 r1 F1 rA HG
      go_wp2_with fail
      go_loopw [37] (fun i wq => ∃ k : Nat, k ≤ ts.length ∧ i = .int .i64 k ∧ PsC wq (A + 1) 0 (thE G N (ts.take k)) ∧ RowAt wq (A + 1) 100 ∧ wr.grownBy wq (some (A + 1)) ∧ Fr w wq) (fun i _ => ts.length - (intOf i).toNat)
      case atStart => exact ⟨0, Nat.zero_le _, rfl, by simpa [thE] using hP, hR, (Fr.refl wr).wide, hF⟩
      case round =>
        obtain ⟨q, hq, rfl, hP2, hR2, hg2, hF2⟩ := hrel
        by_cases hlt : q < ts.length
        · obtain ⟨bb, off, rfl, x0, x1, x2, x3, x4⟩ := tc_at (hr.fr hF2) q hlt
          have hti := ht _ (List.getElem_mem hlt)
          have HT : Hid (thE G N (ts.take (q + 1)) = if ts[q].tk = true then thE G N (ts.take q) ||| G ts[q].sp ts[q].ob ts[q].sl else thE G N (ts.take q)) := by
            rw [List.take_succ_eq_append_getElem hlt, thE_one]
            exact rfl
          obtain ⟨T, hT⟩ : ∃ T, T = ts[q] := ⟨_, rfl⟩
          rw [← hT] at x0 x1 x2 x3 x4 hti HT
          clear hT
          obtain ⟨sp, ob, sl, tk, gv⟩ := T
          obtain ⟨M, hM⟩ : ∃ M, M = thE G N (ts.take q) := ⟨_, rfl⟩
          simp only [← hM] at x0 x1 x2 x3 x4 hP2 HT
          clear hM
          have hqi : (q : Int) < ts.length := by omega
          have htl := hr.len
          have f5 := Fr.alloc wr (.cells #[.int .i64 sp, .int .i64 ob, .int .i64 sl, .bool tk, .bool gv] 225)
          have k5 := heap_alloc_new wr (.cells #[.int .i64 sp, .int .i64 ob, .int .i64 sl, .bool tk, .bool gv] 225)
          cases tk
          · have HT2 : Hid (thE G N (ts.take (q + 1)) = M) := by rw [HT.out]; exact if_neg (by simp)
            clear HT k5
            go_wp2_with fail
            go_roundw
            case rel => exact ⟨q + 1, by omega, by go_num, by rw [HT2.out]; exact hP2.fr f5, hR2.fr f5, grown_trans hg2 f5.wide, hF2.trans f5⟩
            case measure => simp [intOf]; omega
          · have HT2 : Hid (thE G N (ts.take (q + 1)) = M ||| G sp ob sl) := by rw [HT.out]; exact if_pos rfl
            have HM : Hid (∀ u, Fr w u → (Instr.lookup 217 (.map (some gm)) (.agg #[.int .i64 sp, .int .i64 ob, .int .i64 sl, .bool false, .bool false]) false).run Tryz.prog u = .ok (.agg #[.int .u64 (wd (G sp ob sl) 0), .int .u64 (wd (G sp ob sl) 1), .int .u64 (wd (G sp ob sl) 2), .int .u64 (wd (G sp ob sl) 3), .int .u64 (wd (G sp ob sl) 4)]) u ∧ u.cell? ⟨p, 161, none⟩ = some (.map (some gm))) := fun u fu => ⟨((HW.out.fr fu).mt).look hti.1 hti.2.1 hti.2.2, (HW.out.fr fu).mp⟩
            have cT := fun u => thing_any ⟨sp, ob, sl, true, gv⟩ u
            have cA := fun u x y => addAll_any (A + 1) 0 M (G sp ob sl) 100 u x y
            simp only at cT
            clear HT hti ht hr
            go_wp2_with fail
            obtain ⟨V, hV⟩ : ∃ V, V = wr.alloc (.cells #[.int .i64 sp, .int .i64 ob, .int .i64 sl, .bool true, .bool gv] 225) := ⟨_, rfl⟩
            rw [← hV] at f5 k5 ⊢
            obtain ⟨TB, hTB⟩ : ∃ TB, TB = wr.heap.size := ⟨_, rfl⟩
            rw [← hTB] at k5 ⊢
            have HTB : Hid (TB = wr.heap.size) := hTB
            clear hV hTB x0 x1 x2 x3 x4
            have FV := hF2.trans f5
            have KT : Hid (∀ u, Fr V u → u.cell? ⟨TB, 0, none⟩ = some (.int .i64 sp) ∧ u.cell? ⟨TB, 1, none⟩ = some (.int .i64 ob) ∧ u.cell? ⟨TB, 2, none⟩ = some (.int .i64 sl) ∧ u.cell? ⟨TB, 3, none⟩ = some (.bool true) ∧ u.cell? ⟨TB, 4, none⟩ = some (.bool gv)) := fun u fu => ⟨fu.cell (cell_of_row _ _ 0 _ _ _ k5), fu.cell (cell_of_row _ _ 1 _ _ _ k5), fu.cell (cell_of_row _ _ 2 _ _ _ k5), fu.cell (cell_of_row _ _ 3 _ _ _ k5), fu.cell (cell_of_row _ _ 4 _ _ _ k5)⟩
            have mp := (HM.out V FV).2
            obtain ⟨t0, t1, t2, t3, t4⟩ := KT.out V (Fr.refl V)
            have PV := hP2.fr f5
            have RV := hR2.fr f5
            have GV := grown_trans hg2 f5.wide
            have hnp : ¬ (some p = some (A + 1)) := by
              have := HW.out.row.lt
              have := HB.out
              simp only [Option.some.injEq]
              omega
            have hnt : ¬ (some TB = some (A + 1)) := by
              have := hR2.lt
              have := HTB.out
              simp only [Option.some.injEq]
              omega
            clear hP2 hR2 hg2 f5
            go_region_held3 (fun u => u.cell? ⟨p, 161, none⟩ = some (.map (some gm)) ∧ u.cell? ⟨TB, 0, none⟩ = some (.int .i64 sp) ∧ u.cell? ⟨TB, 1, none⟩ = some (.int .i64 ob) ∧ u.cell? ⟨TB, 2, none⟩ = some (.int .i64 sl) ∧ u.cell? ⟨TB, 3, none⟩ = some (.bool true) ∧ u.cell? ⟨TB, 4, none⟩ = some (.bool gv)) (go_keep)
              (first | (go_at_call 202; refine (cT _).mono ?_; rintro x u5 ⟨rfl, f6⟩; have g6 := (Fr.drew V).trans f6; obtain ⟨lk, z9⟩ := HM.out u5 (FV.trans g6); obtain ⟨z0, z1, z2, z3, z4⟩ := KT.out u5 g6) | (go_at_call 146; refine (cA _ (PV.fr g6) (RV.fr g6)).mono ?_; rintro x u6 ⟨rfl, P6, W6⟩; have y9 := W6.by_.cell z9 hnp; have y0 := W6.by_.cell z0 hnt; have y1 := W6.by_.cell z1 hnt; have y2 := W6.by_.cell z2 hnt; have y3 := W6.by_.cell z3 hnt; have y4 := W6.by_.cell z4 hnt))
            all_goals
              have F6 := (FV.trans g6).then W6.by_ (fun j hj => by cases hj; exact HB.out)
              have G6 := grown_trans (grown_trans GV g6.wide) W6.by_
              have R6 := W6.row
              clear mp t0 t1 t2 t3 t4 z0 z1 z2 z3 z4 z9 y0 y1 y2 y3 y4 y9 lk W6 cA cT KT HM
              go_wp2_with fail
              go_roundw
              case rel => exact ⟨q + 1, by omega, by go_num, by rw [HT2.out]; exact P6, R6, G6, F6⟩
              case measure => simp [intOf]; omega
        · have e : q = ts.length := by omega
          subst e
          rw [List.take_length] at hP2
          have rA3 := (hg2.block A (Array.getElem?_eq_some_iff.1 rA2).1 (by simp)).trans rA2
          have HV : Hid (psV (thE G (goE st la gs) ts) = psV (thE G N ts)) := by rw [HN.out]; exact rfl
          have x0 := hP2 0 (by omega); have x1 := hP2 1 (by omega); have x2 := hP2 2 (by omega); have x3 := hP2 3 (by omega); have x4 := hP2 4 (by omega)
          simp only [Nat.zero_add] at x0 x1 x2 x3 x4
          obtain ⟨Z, hZ⟩ : ∃ Z, Z = thE G N ts := ⟨_, rfl⟩
          simp only [← hZ] at x0 x1 x2 x3 x4 HV
          clear hZ
          have rr : RowAt wr A 100 := ⟨_, rA3⟩
          have c0 := cell_of_row _ _ 0 _ _ _ rA3
          have c1 := cell_of_row _ _ 1 _ _ _ rA3
          have c2 := cell_of_row _ _ 2 _ _ _ rA3
          have c3 := cell_of_row _ _ 3 _ _ _ rA3
          have c4 := cell_of_row _ _ 4 _ _ _ rA3
          have v0 := rr.free 0
          have v1 := rr.free 1
          have v2 := rr.free 2
          have v3 := rr.free 3
          have v4 := rr.free 4
          have R := row5 rA3 (.int .u64 (wd Z 0)) (.int .u64 (wd Z 1)) (.int .u64 (wd Z 2)) (.int .u64 (wd Z 3)) (.int .u64 (wd Z 4))
          have F4 := hF2.then (put5 wr A (.int .u64 (wd Z 0)) (.int .u64 (wd Z 1)) (.int .u64 (wd Z 2)) (.int .u64 (wd Z 3)) (.int .u64 (wd Z 4))) (fun j hj => by cases hj; have := HA.out; omega)
          have RH : Hid _ := R
          have FH : Hid _ := F4
          obtain ⟨z0, hz0⟩ : ∃ x, x = wd Z 0 := ⟨_, rfl⟩
          obtain ⟨z1, hz1⟩ : ∃ x, x = wd Z 1 := ⟨_, rfl⟩
          obtain ⟨z2, hz2⟩ : ∃ x, x = wd Z 2 := ⟨_, rfl⟩
          obtain ⟨z3, hz3⟩ : ∃ x, x = wd Z 3 := ⟨_, rfl⟩
          obtain ⟨z4, hz4⟩ : ∃ x, x = wd Z 4 := ⟨_, rfl⟩
          unfold psV at HV
          simp only [← hz0, ← hz1, ← hz2, ← hz3, ← hz4] at x0 x1 x2 x3 x4 RH FH HV
          clear hz0 hz1 hz2 hz3 hz4 R F4 rr rA3 rA2 hP2 hP HN
          go_wp2_with fail
          have R := RH.out
          have d0 := cell_of_row _ _ 0 _ _ _ R
          have d1 := cell_of_row _ _ 1 _ _ _ R
          have d2 := cell_of_row _ _ 2 _ _ _ R
          have d3 := cell_of_row _ _ 3 _ _ _ R
          have d4 := cell_of_row _ _ 4 _ _ _ R
          refine bodyPost_ret (v := .agg #[.int .u64 z0, .int .u64 z1, .int .u64 z2, .int .u64 z3, .int .u64 z4]) (by simp [results, Tryz.results189, go_sem, d0, d1, d2, d3, d4]) rfl ⟨congrArg Ending.returned HV.out.symm, FH.out⟩
end Go.Proofs.YthehhiccfnhinaaGreatDoor
