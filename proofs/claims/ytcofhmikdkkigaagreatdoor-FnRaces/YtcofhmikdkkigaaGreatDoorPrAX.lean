/-
  Pack AX: SpMeet, SpAll, SpEdges.
-/
import Derived.Test.YtcofhmikdkkigaaGreatDoorPrAW
import Derived.Deep.RegionHeld3
import Derived.Test.YtcofhmikdkkigaaGreatDoorPrAU
import Derived.Test.YtcofhmikdkkigaaGreatDoorPrAD
import Derived.Test.YtcofhmikdkkigaaGreatDoorPrAV
namespace Go.Proofs.YtcofhmikdkkigaaGreatDoor
open Go.RowKit

def mtB (x y : Tch) : Bool := x.gv && y.tk && x.sp == y.sp && x.ob == y.ob && x.sl == y.sl
theorem meetsB_mt (a b : List Tch) : meetsB a b = a.any fun x => b.any fun y => mtB x y := rfl

set_option maxRecDepth 20000 in
set_option maxHeartbeats 8000000 in
theorem meets_any (ao bo : Option Addr) (n c m d : Nat) (ts us : List Tch) (w : World) (hn : ts.length = n) (hm : us.length = m) (h : ReadsG layT w ao ts) (h' : ReadsG layT w bo us) :
    Calls Tryz.prog 183 #[.slice ao n c, .slice bo m d] w fun x w' => x = .returned (.bool (meetsB ts us)) ∧ Fr w w' := by
  subst hn
  subst hm
  have hl := h.len
  have hl' := h'.len
  rw [meetsB_mt]
  go_enter Tryz.func183, Tryz.ntmps183
  go_wp2_with fail
  go_loopw [5] (fun i wr => ∃ k : Nat, k ≤ ts.length ∧ i = .int .i64 k ∧ Hid (∀ q (hq : q < ts.length), q < k → (us.any fun y => mtB ts[q] y) = false) ∧ Fr w wr) (fun i _ => ts.length - (intOf i).toNat)
  case atStart => exact ⟨0, Nat.zero_le _, rfl, fun q hq h => by omega, Fr.refl w⟩
  case round =>
    obtain ⟨k, hk, rfl, HN, hF⟩ := hrel
    by_cases hlt : k < ts.length
    · have hki : (k : Int) < ts.length := by omega
      have hkb : decide ((k : Int) < ts.length) = true := by simp; omega
      go_wp2_with fail
      go_loopw [6] (fun i wr => ∃ q : Nat, q ≤ us.length ∧ i = .int .i64 q ∧ Hid (∀ p (hp : p < us.length), p < q → mtB ts[k] us[p] = false) ∧ Fr w wr) (fun i _ => us.length - (intOf i).toNat)
      case atStart => exact ⟨0, Nat.zero_le _, rfl, fun q hq h => by omega, hF⟩
      case round =>
        obtain ⟨q, hq, rfl, HM, hF2⟩ := hrel
        by_cases hlq : q < us.length
        · have hqi : (q : Int) < us.length := by omega
          obtain ⟨b, off, rfl, a0, a1, a2, a3, a4⟩ := tc_at (h.fr hF2) k hlt
          obtain ⟨b', off', rfl, x0, x1, x2, x3, x4⟩ := tc_at (h'.fr hF2) q hlq
          have HY : Hid (mtB ts[k] us[q] = true → (ts.any fun x => us.any fun y => mtB x y) = true) := fun e => by
            rw [List.any_eq_true]
            refine ⟨ts[k], List.getElem_mem hlt, ?_⟩
            rw [List.any_eq_true]
            exact ⟨us[q], List.getElem_mem hlq, e⟩
          have HX : Hid (mtB ts[k] us[q] = false → ∀ p (hp : p < us.length), p < q + 1 → mtB ts[k] us[p] = false) := fun e p hp h => by
            by_cases z : p = q
            · subst z
              exact e
            · exact HM.out p hp (by omega)
          obtain ⟨A, hA⟩ : ∃ A, A = ts[k] := ⟨_, rfl⟩
          obtain ⟨B, hB⟩ : ∃ B, B = us[q] := ⟨_, rfl⟩
          simp only [← hA, ← hB] at a0 a1 a2 a3 a4 x0 x1 x2 x3 x4 HY HX
          clear hB HM
          obtain ⟨sp, ob, sl, tk, gv⟩ := A
          obtain ⟨sp', ob', sl', tk', gv'⟩ := B
          simp only [mtB] at a0 a1 a2 a3 a4 x0 x1 x2 x3 x4 HY HX
          have HA : Hid (ts[k] = ⟨sp, ob, sl, tk, gv⟩) := hA.symm
          clear hA
          cases gv
          · have HX := HX.out rfl
            have HX : Hid _ := HX
            go_wp2_with fail
            go_quiet (fail)
            go_wp2_with fail
            go_roundw
            case rel => exact ⟨q + 1, by omega, by go_num, fun p hp hh => by rw [HA.out]; exact HX.out p hp hh, hF2.trans (Fr.drewN _ _)⟩
            case measure => simp [intOf] <;> omega
          · cases tk'
            · have HX := HX.out (rfl)
              have HX : Hid _ := HX
              clear HY
              go_wp2_with fail
              go_quiet (fail)
              go_wp2_with fail
              go_roundw
              case rel => exact ⟨q + 1, by omega, by go_num, fun p hp hh => by rw [HA.out]; exact HX.out p hp hh, hF2.trans (Fr.drewN _ _)⟩
              case measure => simp [intOf] <;> omega
            · cases h1 : (sp == sp')
              · have HX := HX.out (by simp [h1])
                have HX : Hid _ := HX
                clear HY
                go_wp2_with fail
                go_quiet (fail)
                go_wp2_with fail
                go_roundw
                case rel => exact ⟨q + 1, by omega, by go_num, fun p hp hh => by rw [HA.out]; exact HX.out p hp hh, hF2.trans (Fr.drewN _ _)⟩
                case measure => simp [intOf] <;> omega
              · cases h2 : (ob == ob')
                · have HX := HX.out (by simp [h1, h2])
                  have HX : Hid _ := HX
                  clear HY
                  go_wp2_with fail
                  go_quiet (fail)
                  go_wp2_with fail
                  go_roundw
                  case rel => exact ⟨q + 1, by omega, by go_num, fun p hp hh => by rw [HA.out]; exact HX.out p hp hh, hF2.trans (Fr.drewN _ _)⟩
                  case measure => simp [intOf] <;> omega
                · cases h3 : (sl == sl')
                  · have HX := HX.out (by simp [h1, h2, h3])
                    have HX : Hid _ := HX
                    clear HY
                    go_wp2_with fail
                    go_quiet (fail)
                    go_wp2_with fail
                    go_roundw
                    case rel => exact ⟨q + 1, by omega, by go_num, fun p hp hh => by rw [HA.out]; exact HX.out p hp hh, hF2.trans (Fr.drewN _ _)⟩
                    case measure => simp [intOf] <;> omega
                  · have HY := HY.out (by simp [h1, h2, h3])
                    have HY : Hid ((ts.any fun x => us.any fun y => mtB x y) = true) := HY
                    clear HX
                    go_wp2_with fail
                    go_quiet (fail)
                    go_wp2_with fail
                    go_ret
                    exact ⟨by rw [HY.out]; exact rfl, hF2.trans (Fr.drewN _ _)⟩
        · have e : q = us.length := by omega
          subst e
          have HNN : Hid (∀ p (hp : p < ts.length), p < k + 1 → (us.any fun y => mtB ts[p] y) = false) := fun p hp h => by
            by_cases z : p = k
            · subst z
              rw [List.any_eq_false]
              intro y hy
              obtain ⟨i, hi, rfl⟩ := List.mem_iff_getElem.1 hy
              rw [HM.out i hi hi]
              simp
            · exact HN.out p hp (by omega)
          clear HM HN
          go_wp2_with fail
          go_roundw
          case rel => exact ⟨k + 1, by omega, by go_num, HNN.out, hF2⟩
          case measure => simp [intOf] <;> omega
    · have e : k = ts.length := by omega
      subst e
      have HE : Hid ((ts.any fun x => us.any fun y => mtB x y) = false) := by
        refine (List.any_eq_false).2 fun x hx => ?_
        obtain ⟨i, hi, rfl⟩ := List.mem_iff_getElem.1 hx
        rw [HN.out i hi hi]
        simp
      clear HN
      go_wp2_with fail
      go_ret
      exact ⟨by rw [HE.out]; exact rfl, hF⟩
end Go.Proofs.YtcofhmikdkkigaaGreatDoor
namespace Go.Proofs.YtcofhmikdkkigaaGreatDoor
open Go.RowKit

structure Slc where
  ao : Option Addr
  n : Nat
  c : Nat
def layS (t : TypeId) : Lay Slc where
  ty := t
  sz := 1
  cs s := [.slice s.ao s.n s.c]
  pos := by omega
  len _ := rfl
  one x u hu := by
    simp only [List.mem_singleton] at hu
    subst hu
    rfl
theorem infoTS : (Tryz.prog.info? 207).map (fun i => (i.zero, i.size, i.bytes)) = some (some (.slice none 0 0), 1, 24) := by kernel_rfl
structure AllT (w : World) (base : Nat) (v : Value) (tss : List (List Tch)) : Prop where
  at_ : ∃ sls : List Slc, OwnG (layS 207) w base v sls ∧ sls.length = tss.length ∧ ∀ j (h1 : j < sls.length) (h2 : j < tss.length), ReadsG layT w sls[j].ao tss[j] ∧ sls[j].n = tss[j].length ∧ (∀ b, blk sls[j].ao = some b → base ≤ b ∧ b < w.heap.size ∧ some b ≠ v.ownBlock)
theorem AllT.fr {w w' : World} {base : Nat} {v : Value} {tss : List (List Tch)} (h : AllT w base v tss) (k : Fr w w') : AllT w' base v tss := by
  obtain ⟨sls, h1, h2, h3⟩ := h.at_
  exact ⟨sls, h1.fr k, h2, fun j a b => ⟨(h3 j a b).1.fr k, (h3 j a b).2.1, fun x hx => by have := (h3 j a b).2.2 x hx; have := k.size; exact ⟨by omega, by omega, ((h3 j a b).2.2 x hx).2.2⟩⟩⟩
def tssL (es : List Ev) (k : Nat) : List (List Tch) := (List.range k).map fun j => tchL (evA es j) (slotE (es.take j) (evA es j))
theorem tssL_len (es : List Ev) (k : Nat) : (tssL es k).length = k := by simp [tssL]
theorem tssL_succ (es : List Ev) (k : Nat) : tssL es (k + 1) = tssL es k ++ [tchL (evA es k) (slotE (es.take k) (evA es k))] := by simp [tssL, List.range_succ]

set_option maxRecDepth 20000 in
set_option maxHeartbeats 4000000 in
theorem l7All_any (ao : Option Addr) (n c : Nat) (es : List Ev) (w : World) (hn : es.length = n) (h : ReadsE w ao es) (hk : ∀ j (hj : j < es.length), (1 ≤ es[j].k ∧ es[j].k ≤ 22) ∧ (es[j].k = 7 ∨ es[j].k = 8 → capK es[j].o (es.take j) ≠ 0)) :
    Calls Tryz.prog 139 #[.slice ao n c] w fun x w' => ∃ v, x = .returned v ∧ AllT w' w.heap.size v (tssL es es.length) ∧ Fr w w' := by
  subst hn
  have hl := h.len
  go_enter Tryz.func139, Tryz.ntmps139
  go_wp2_with fail
  go_loopw [3, 4] (fun v i wr => ∃ k : Nat, k ≤ es.length ∧ i = .int .i64 k ∧ AllT wr w.heap.size v (tssL es k) ∧ Fr w wr) (fun _ i _ => es.length - (intOf i).toNat)
  case atStart => exact ⟨0, Nat.zero_le _, rfl, ⟨[], ownG_new (layS 207) w w.heap.size (Nat.le_refl _), by simp [tssL], fun j h1 => by simp at h1⟩, Fr.alloc _ _⟩
  case round =>
    obtain ⟨k, hk1, rfl, hA, hF⟩ := hrel
    by_cases hlt : k < es.length
    · have hki : (k : Int) < es.length := by omega
      obtain ⟨q1, q2⟩ := hk k hlt
      have cT := l6Touches_any ao es.length c es wr rfl (h.fr hF) k hlt q1 q2
      have HE : Hid (evA es k = es[k]) := evA_at hlt
      have HS : Hid (tssL es (k + 1) = tssL es k ++ [tchL es[k] (slotE (es.take k) es[k])]) := by rw [tssL_succ, HE.out]; exact rfl
      obtain ⟨ts, hts⟩ : ∃ ts, ts = tchL es[k] (slotE (es.take k) es[k]) := ⟨_, rfl⟩
      rw [← hts] at cT HS
      clear hts q1 q2
      go_wp2_with fail
      refine cT.mono ?_
      rintro x u1 ⟨v1, rfl, o1, f1⟩
      clear cT
      obtain ⟨tg, tc, rfl, ot, hol⟩ := o1
      have tr := own_readsG ot hol
      have tlt := ot.lt tg rfl
      have hbw : ∀ j, u3.ownBlock = some j → j < wr.heap.size := by
        obtain ⟨sls, s1, -, -⟩ := hA.at_
        exact s1.lt
      obtain ⟨sls, s1, s2, s3⟩ := (hA.fr f1).at_
      have f2 := Fr.alloc u1 (.cells #[.slice (some ⟨tg, 0, none⟩) ts.length tc] 207)
      have k2 := heap_alloc_new u1 (.cells #[.slice (some ⟨tg, 0, none⟩) ts.length tc] 207)
      have hsl : sls.length ≤ 16777215 := by rw [s2, tssL_len]; omega
      have hsz : w.heap.size ≤ (u1.alloc (.cells #[.slice (some ⟨tg, 0, none⟩) ts.length tc] 207)).heap.size := by have := hF.size; have := f1.size; have := f2.size; omega
      have hnew : ∀ q, q < (layS 207).sz → (u1.alloc (.cells #[.slice (some ⟨tg, 0, none⟩) ts.length tc] 207)).cell? ⟨u1.heap.size, q, none⟩ = ((layS 207).cs ⟨some ⟨tg, 0, none⟩, ts.length, tc⟩)[q]? := by
        intro q hq
        have : q = 0 := by simpa [layS] using hq
        subst this
        rw [cell_of_row _ _ _ _ _ _ k2]
        rfl
      have s1' := s1.fr f2
      have hbl := s1.lt
      clear hA k2
      go_wp2_with (at_builtin; refine appG (layS 207) _ rfl _ _ 169 (.slice none 0 0) 24 rfl Tryz.underlying169 infoTS rfl (by omega) w.heap.size u3 sls ⟨some ⟨tg, 0, none⟩, ts.length, tc⟩ rfl s1' _ _ rfl hnew hsl hsz ?_; intro v3 z3 s4 g3 at3)
      go_roundw
      case rel =>
        have hz1 : (u1.alloc (.cells #[.slice (some ⟨tg, 0, none⟩) ts.length tc] 207)).heap.size = u1.heap.size + 1 := by simp
        have hs1 := f1.size
        have hg3 := g3.size
        have hF1 := hF.size
        have hb3 : ∀ b, b < u1.heap.size → some b ≠ u3.ownBlock → some b ≠ v3.ownBlock := by
          intro b h1 h2
          rcases at3 with e | e
          · rw [e]
            exact h2
          · rw [e, hz1]
            simp
            omega
        refine ⟨k + 1, by omega, by go_num, ⟨sls ++ [⟨some ⟨tg, 0, none⟩, ts.length, tc⟩], s4, by rw [HS.out]; simp [s2], fun j h1 h2 => ?_⟩, ((hF.trans f1).trans f2).then g3 s1.blk⟩
        simp only [HS.out] at h2 ⊢
        by_cases e : j < sls.length
        · rw [List.getElem_append_left e, List.getElem_append_left (by omega)]
          have q := s3 j e (by omega)
          refine ⟨(q.1.fr f2).keep g3 (.inr (fun z => ?_)), q.2.1, fun b hb => ?_⟩
          · cases hb : blk sls[j].ao with
            | none =>
              rw [hb] at z
              obtain ⟨g, cap, rfl, -⟩ := s1
              simp [Value.ownBlock] at z
            | some b => exact (q.2.2 b hb).2.2 (hb ▸ z)
          · have := q.2.2 b hb
            exact ⟨this.1, by omega, hb3 b this.2.1 this.2.2⟩
        · have ej : j = sls.length := by
            simp at h1
            omega
          subst ej
          have e1 : (sls ++ [(⟨some ⟨tg, 0, none⟩, ts.length, tc⟩ : Slc)])[sls.length] = ⟨some ⟨tg, 0, none⟩, ts.length, tc⟩ := by simp
          have e2 : (tssL es k ++ [ts])[sls.length] = ts := by simp [s2]
          rw [e1, e2]
          have hne : some tg ≠ u3.ownBlock := by
            intro z
            have := hbw tg z.symm
            omega
          refine ⟨(tr.fr f2).keep g3 (.inr hne), rfl, fun b hb => ?_⟩
          simp only [blk, Option.map_some, Option.some.injEq] at hb
          subst hb
          exact ⟨by omega, by omega, hb3 tg tlt.2 hne⟩
      case measure => simp [intOf] <;> omega
    · have e : k = es.length := by omega
      subst e
      go_wp2_with fail
      go_ret
      exact ⟨_, rfl, hA, hF⟩

def layEv : Lay Ev where
  ty := 31
  sz := 8
  cs := evCells
  pos := by omega
  len _ := rfl
  one x u hu := by
    simp only [evCells, List.mem_cons, List.not_mem_nil, or_false] at hu
    rcases hu with rfl | rfl | rfl | rfl | rfl | rfl | rfl | rfl <;> rfl
theorem ReadsE.toG {w : World} {ao : Option Addr} {es : List Ev} (h : ReadsE w ao es) : ReadsG layEv w ao es := by
  refine ⟨h.len, fun i hi => ?_⟩
  obtain ⟨b, off, e, hc⟩ := h.at_ i hi
  refine ⟨b, off, e, fun j hj k hk => ?_⟩
  have hk8 : k < 8 := hk
  obtain ⟨c0, c1, c2, c3, c4, c5, c6, c7⟩ := hc j hj
  rcases k with _ | _ | _ | _ | _ | _ | _ | _ | k
  · exact c0
  · exact c1
  · exact c2
  · exact c3
  · exact c4
  · exact c5
  · exact c6
  · exact c7
  · omega
def lpL (es : List Ev) : List Ev := es.take (legLen es).toNat
set_option maxRecDepth 20000 in
set_option maxHeartbeats 2000000 in
theorem l5Part_any (gb off n c : Nat) (es : List Ev) (w : World) (hn : es.length = n) (hnc : n ≤ c) (h : ReadsE w (some ⟨gb, off, none⟩) es) :
    Calls Tryz.prog 83 #[.slice (some ⟨gb, off, none⟩) n c] w fun x w' => ∃ v, x = .returned v ∧ OwnE w' w.heap.size v (lpL es) ∧ Fr w w' := by
  have cL := specLen_any (some ⟨gb, off, none⟩) n c es w hn h
  have hle := legLen_le es
  have hlen := h.len
  obtain ⟨Z, hZ⟩ : ∃ Z, Z = legLen es := ⟨_, rfl⟩
  unfold lpL
  rw [← hZ] at cL hle ⊢
  clear hZ
  by_cases hz : Z < 0
  · have hz0 : Z.toNat = 0 := by omega
    have hzt : (Z < 0) = True := by simp [hz]
    rw [hz0, List.take_zero]
    clear hz0 h
    go_enter Tryz.func83, Tryz.ntmps83
    go_wp2_with fail
    refine (cL).mono ?_
    rintro e u1 ⟨rfl, f1⟩
    go_wp2_with fail
    go_ret
    have s1 := f1.size
    refine ⟨_, rfl, ?_, f1.trans (Fr.alloc _ _)⟩
    obtain ⟨g, cap, e, o, l⟩ := ownE_new u1
    exact ⟨g, cap, e, (OwnG.lower (L := layEv) (v := .slice (some ⟨g, 0, none⟩) 0 cap) (xs := []) ⟨g, cap, rfl, o, l⟩ s1).elim fun g' q => by
      obtain ⟨cap', e', o', _⟩ := q
      simp only [Value.slice.injEq, Option.some.injEq, Addr.mk.injEq, and_true] at e'
      obtain ⟨rfl, _, rfl⟩ := e'
      exact o', l⟩
  · obtain ⟨K, rfl⟩ : ∃ K : Nat, Z = K := ⟨Z.toNat, by omega⟩
    have hzt : ((K : Int) < 0) = False := by simp
    rw [Int.toNat_natCast]
    have hK : K ≤ es.length := by omega
    have hKl : (es.take K).length = K := by simp; omega
    have hKc : (K : Int) ≤ c := by omega
    have hKc2 : K ≤ c := by omega
    have hnew := fun u (f : Fr w u) => news_of_reads ((h.fr f).take K).toG
    clear h hz
    go_enter Tryz.func83, Tryz.ntmps83
    go_wp2_with fail
    refine (cL).mono ?_
    rintro e u1 ⟨rfl, f1⟩
    clear cL
    have f2 := Fr.alloc u1 (.cells #[] 31)
    have o2 : OwnG layEv (u1.alloc (.cells #[] 31)) w.heap.size (.slice (some ⟨u1.heap.size, 0, none⟩) 0 0) [] := ownG_new layEv u1 w.heap.size f1.size
    have hsz : w.heap.size ≤ (u1.alloc (.cells #[] 31)).heap.size := by have := f1.size; have := f2.size; omega
    have hnw := hnew _ (f1.trans f2)
    clear hnew
    go_wp2_with (at_builtin; refine appGL layEv _ rfl _ _ 42 _ 64 rfl Tryz.underlying42 Tryz.info31 rfl (by omega) w.heap.size _ [] (es.take K) rfl o2 _ _ (by rw [hKl]; rfl) hnw (by simp; omega) hsz ?_; intro v3 z3 s3 g3 at3)
    go_ret
    refine ⟨v3, rfl, ?_, (f1.trans f2).then g3 o2.blk⟩
    rw [List.nil_append] at s3
    obtain ⟨g, cap, rfl, o, l⟩ := s3
    exact ⟨g, cap, rfl, o, l⟩
end Go.Proofs.YtcofhmikdkkigaaGreatDoor
namespace Go.Proofs.YtcofhmikdkkigaaGreatDoor
open Go.RowKit

def edgeT (es : List Ev) (tss : List (List Tch)) (i j : Nat) : Bool := memB ((gorsL (evA es j)).map (lastG es j)) i || ((evA es i).k == 1 && memB (gorsL (evA es j)) (evA es i).o) || meetsB (tss.getD i []) (tss.getD j [])
def edgesT (es : List Ev) (tss : List (List Tch)) (j n : Nat) : List Int := ((List.range n).filter fun i => edgeT es tss i j).map fun i : Nat => (i : Int)
theorem edgesT_len (es : List Ev) (tss : List (List Tch)) (j n : Nat) : (edgesT es tss j n).length ≤ n := by
  unfold edgesT
  have := List.length_filter_le (fun i => edgeT es tss i j) (List.range n)
  simpa using this
theorem edgesT_succ (es : List Ev) (tss : List (List Tch)) (j n : Nat) : edgesT es tss j (n + 1) = if edgeT es tss n j = true then edgesT es tss j n ++ [(n : Int)] else edgesT es tss j n := by
  unfold edgesT
  rw [List.range_succ, List.filter_append, List.map_append]
  cases h : edgeT es tss n j <;> simp [h]

set_option maxRecDepth 20000 in
set_option maxHeartbeats 8000000 in
theorem l7Edges_any (ao : Option Addr) (n c ag ac J : Nat) (es : List Ev) (tss : List (List Tch)) (base : Nat) (w : World) (hn : es.length = n) (h : ReadsE w ao es) (hJ : J < n) (hl : n ≤ 300) (ht : tss.length = n) (hA : AllT w base (.slice (some ⟨ag, 0, none⟩) n ac) tss) :
    Calls Tryz.prog 140 #[.slice ao n c, .slice (some ⟨ag, 0, none⟩) n ac, .int .i64 J] w fun x w' => ∃ v, x = .returned v ∧ OwnS w' w.heap.size v (edgesT es tss J J) ∧ Fr w w' := by
  subst hn
  obtain ⟨eb, off, rfl, hev⟩ := h.at_ J hJ
  obtain ⟨d0, d1, d2, d3, d4, d5, d6, d7⟩ := hev J hJ
  have HE : Hid (evA es J = es[J]) := evA_at hJ
  have cG := fun u => specGors_any es[J] u
  have hgl := gors_len es[J]
  have hJi : (J : Int) < es.length := by omega
  have HGS : Hid (gorsL (evA es J) = gorsL es[J]) := by rw [HE.out]; exact rfl
  obtain ⟨gs, hgs⟩ : ∃ gs, gs = gorsL es[J] := ⟨_, rfl⟩
  simp only [← hgs] at cG hgl HGS
  clear hgs hev HE
  obtain ⟨E, hE⟩ : ∃ E, E = es[J] := ⟨_, rfl⟩
  simp only [← hE] at cG d0 d1 d2 d3 d4 d5 d6 d7
  clear hE
  obtain ⟨k, gr, o, wi, l, sz, f, t⟩ := E
  simp only at cG d0 d1 d2 d3 d4 d5 d6 d7
  go_enter Tryz.func140, Tryz.ntmps140
  go_wp2_with fail
  refine (cG _).mono ?_
  rintro x u1 ⟨gb, rfl, og, f1⟩
  clear cG d0 d1 d2 d3 d4 d5 d6 d7
  have gR := og.reads
  have glt := own_lt og
  have gbd := og.reads.bd
  have f2 := Fr.alloc u1 (.cells #[] 2)
  have oL := own_empty u1 w.heap.size f1.size
  have HGB : Hid (w.heap.size ≤ gb ∧ gb < u1.heap.size) := glt
  have s1 := f1.size
  clear og glt
  go_wp2_with fail
  go_loopw [8, 9] (fun v i wr => ∃ q : Nat, q ≤ gs.length ∧ i = .int .i64 q ∧ OwnS wr u1.heap.size v ((gs.take q).map (lastG es J)) ∧ Fr u1 wr) (fun _ i _ => gs.length - (intOf i).toNat)
  case atStart => exact ⟨0, Nat.zero_le _, rfl, own_empty u1 _ (Nat.le_refl _), f2⟩
  case round =>
    obtain ⟨q, hq, rfl, oV, hF⟩ := hrel
    by_cases hlt : q < gs.length
    · have hqi : (q : Int) < gs.length := by omega
      have hqb : decide ((q : Int) < gs.length) = true := by simp; omega
      obtain ⟨bb, off2, e0, hc⟩ := (gR.fr hF).at_ q hlt
      simp only [Option.some.injEq, Addr.mk.injEq, and_true] at e0
      obtain ⟨rfl, rfl⟩ := e0
      have HC : Hid (∀ u, Fr u1 u → u.cell? ⟨gb, q, none⟩ = some (.int .i64 gs[q])) := fun u fu => by
        obtain ⟨bb, off2, e0, hc⟩ := (gR.fr fu).at_ q hlt
        simp only [Option.some.injEq, Addr.mk.injEq, and_true] at e0
        obtain ⟨rfl, rfl⟩ := e0
        have := hc q hlt
        rw [getD_at hlt, Nat.zero_add] at this
        exact this
      have HT : Hid ((gs.take (q + 1)).map (lastG es J) = (gs.take q).map (lastG es J) ++ [lastG es J gs[q]]) := by
        rw [List.take_succ_eq_append_getElem hlt, List.map_append]
        exact rfl
      have hbl := lastG_lt es gs[q]
      obtain ⟨G, hG⟩ : ∃ G, G = gs[q] := ⟨_, rfl⟩
      simp only [← hG] at HC HT hbl
      clear hG hc
      go_wp2_with fail
      go_loopw [10, 11] (fun v i wq => ∃ p : Nat, p ≤ J ∧ i = .int .i64 p ∧ v = .int .i64 (lastG es p G) ∧ Fr wr wq) (fun _ i _ => J - (intOf i).toNat)
      case atStart => exact ⟨0, Nat.zero_le _, rfl, rfl, Fr.refl _⟩
      case round =>
        obtain ⟨i, hi, rfl, rfl, hF2⟩ := hrel
        by_cases hlp : i < J
        · have hii : (i : Int) < J := by omega
          have hil : (i : Int) < es.length := by omega
          have FW := f1.trans (hF.trans hF2)
          obtain ⟨b', o', e1, hev⟩ := (h.fr FW).at_ i (by omega)
          simp only [Option.some.injEq, Addr.mk.injEq, and_true] at e1
          obtain ⟨rfl, rfl⟩ := e1
          have ev := hev i (by omega)
          have HE : Hid (evA es i = es[i]) := evA_at (by omega)
          obtain ⟨E, hE⟩ : ∃ E, E = es[i] := ⟨_, rfl⟩
          rw [← hE] at ev HE
          clear hE hev
          obtain ⟨k, gr, o, wi, l, sz, f, t⟩ := E
          have HQ : Hid (∀ u, Fr wr u → (u.cell? ⟨eb, off + i * 8, none⟩ = some (.int .i64 k) ∧ u.cell? ⟨eb, off + i * 8 + 1, none⟩ = some (.int .i64 gr) ∧ u.cell? ⟨eb, off + i * 8 + 2, none⟩ = some (.int .i64 o) ∧ u.cell? ⟨eb, off + i * 8 + 3, none⟩ = some (.int .i64 wi) ∧ u.cell? ⟨eb, off + i * 8 + 4, none⟩ = some (.int .i64 l) ∧ u.cell? ⟨eb, off + i * 8 + 5, none⟩ = some (.int .i64 sz) ∧ u.cell? ⟨eb, off + i * 8 + 6, none⟩ = some (.int .i64 f) ∧ u.cell? ⟨eb, off + i * 8 + 7, none⟩ = some (.int .i64 t)) ∧ u.cell? ⟨gb, q, none⟩ = some (.int .i64 G)) := fun u fu => by
            have ev := ev.keep fu (by simp)
            obtain ⟨d0, d1, d2, d3, d4, d5, d6, d7⟩ := ev
            exact ⟨⟨d0, d1, d2, d3, d4, d5, d6, d7⟩, HC.out u ((hF.trans hF2).trans fu)⟩
          have cG := fun u => specGors_any ⟨k, gr, o, wi, l, sz, f, t⟩ u
          simp only at cG
          have HL : Hid (lastG es (i + 1) G = if memB (gorsL ⟨k, gr, o, wi, l, sz, f, t⟩) G = true then (i : Int) else lastG es i G) := by
            show (if ofG es i G = true then (i : Int) else lastG es i G) = _
            unfold ofG
            rw [HE.out]
          obtain ⟨xs, hxs⟩ : ∃ xs, xs = gorsL ⟨k, gr, o, wi, l, sz, f, t⟩ := ⟨_, rfl⟩
          simp only [← hxs] at cG HL
          clear hxs HE ev
          obtain ⟨⟨c0, c1, c2, c3, c4, c5, c6, c7⟩, cg⟩ := HQ.out wr (Fr.refl wr)
          go_wp2_with fail
          go_region_held3 (fun u => (u.cell? ⟨eb, off + i * 8, none⟩ = some (.int .i64 k) ∧ u.cell? ⟨eb, off + i * 8 + 1, none⟩ = some (.int .i64 gr) ∧ u.cell? ⟨eb, off + i * 8 + 2, none⟩ = some (.int .i64 o) ∧ u.cell? ⟨eb, off + i * 8 + 3, none⟩ = some (.int .i64 wi) ∧ u.cell? ⟨eb, off + i * 8 + 4, none⟩ = some (.int .i64 l) ∧ u.cell? ⟨eb, off + i * 8 + 5, none⟩ = some (.int .i64 sz) ∧ u.cell? ⟨eb, off + i * 8 + 6, none⟩ = some (.int .i64 f) ∧ u.cell? ⟨eb, off + i * 8 + 7, none⟩ = some (.int .i64 t)) ∧ u.cell? ⟨gb, q, none⟩ = some (.int .i64 G)) (go_keep)
            (first | (go_at_call 182; refine (cG _).mono ?_; rintro x z1 ⟨g1, rfl, o1, f3⟩; have g3 := (Fr.drew wr).trans f3; obtain ⟨⟨y0, y1, y2, y3, y4, y5, y6, y7⟩, yg⟩ := HQ.out z1 g3) | (go_at_call 58; refine (l4In_any _ _ _ xs G _ rfl o1.reads).mono ?_; rintro x z2 ⟨rfl, rfl⟩))
          all_goals
            clear c0 c1 c2 c3 c4 c5 c6 c7 cg y0 y1 y2 y3 y4 y5 y6 y7 yg cG HQ
            cases hm : memB xs G
            · have HL2 : Hid (lastG es (i + 1) G = lastG es i G) := by rw [HL.out, hm]; exact if_neg (by simp)
              clear HL hm
              go_wp2_with fail
              go_roundw
              case rel => exact ⟨i + 1, by omega, by go_num, by rw [HL2.out], hF2.trans g3⟩
              case measure => simp [intOf] <;> omega
            · have HL2 : Hid (lastG es (i + 1) G = i) := by rw [HL.out, hm]; exact if_pos rfl
              clear HL hm
              go_wp2_with fail
              go_roundw
              case rel => exact ⟨i + 1, by omega, by go_num, by rw [HL2.out], hF2.trans g3⟩
              case measure => simp [intOf] <;> omega
        · have e : J = i := by omega
          have hbn := hbl J
          have hm := fun u => reads_one u (lastG es J G) ⟨by omega, by omega⟩
          have hll : ((gs.take q).map (lastG es J)).length ≤ 2 := by simp; omega
          have oV2 := oV.fr hF2
          have hsz := (hF.trans hF2).size
          rw [← e]
          clear hi e
          obtain ⟨N, hN⟩ : ∃ N, N = lastG es J G := ⟨_, rfl⟩
          rw [← hN] at HT hm ⊢
          clear hN hbl hlp
          go_wp2_with (at_builtin; refine appI _ rfl _ _ rfl u1.heap.size _ _ [N] rfl (oV2.fr (Fr.alloc _ _)) _ _ _ rfl rfl (by simp) (hm _) (by simp; omega) (by simp; omega) ?_; intro v1 w4 hv1 hg1)
          go_roundw
          case rel => exact ⟨q + 1, by omega, by go_num, by rw [HT.out]; exact hv1, ((hF.trans hF2).trans (Fr.alloc _ _)).then hg1 oV.blk⟩
          case measure => simp [intOf] <;> omega
    · have e : q = gs.length := by omega
      subst e
      rw [List.take_length] at oV
      obtain ⟨lg, lcap, rfl, oL2⟩ := oV
      have lR := oL2.reads
      have hlen : (gs.map (lastG es J)).length = gs.length := by simp
      have HLS : Hid (∀ i, edgeT es tss i J = (memB (gs.map (lastG es J)) i || ((evA es i).k == 1 && memB gs (evA es i).o) || meetsB (tss.getD i []) (tss.getD J []))) := fun i => by unfold edgeT; rw [HGS.out]
      obtain ⟨ls, hls⟩ : ∃ ls, ls = gs.map (lastG es J) := ⟨_, rfl⟩
      rw [← hls] at lR hlen HLS oL2 ⊢
      rw [hlen]
      have HLEN : Hid (ls.length = gs.length) := hlen
      clear hls oL2 hq hlt hgl oL gbd hlen
      go_wp2_with fail
      obtain ⟨B0, hB0⟩ : ∃ B0, B0 = wr.heap.size := ⟨_, rfl⟩
      have HB0 : Hid (B0 = wr.heap.size) := hB0
      have HO0 : Hid (OwnS (wr.alloc (.cells #[] 2)) B0 (.slice (some ⟨wr.heap.size, 0, none⟩) 0 0) []) := own_empty wr B0 (by omega)
      clear hB0
      go_loopw [12, 13] (fun v i wq => ∃ p : Nat, p ≤ J ∧ i = .int .i64 p ∧ OwnS wq B0 v (edgesT es tss J p) ∧ Fr wr wq) (fun _ i _ => J - (intOf i).toNat)
      case atStart => exact ⟨0, Nat.zero_le _, rfl, HO0.out, Fr.alloc _ _⟩
      case round =>
        obtain ⟨i, hi, rfl, oO, hF2⟩ := hrel
        by_cases hlp : i < J
        · have hii : (i : Int) < J := by omega
          have hil : (i : Int) < es.length := by omega
          have hsz2 := hF2.size
          have hBw : B0 ≤ wr.heap.size := by have := HB0.out; omega
          have HBw : Hid (B0 ≤ wr.heap.size) := hBw
          have FW := (f1.trans hF).trans hF2
          obtain ⟨b', o', e1, hev⟩ := (h.fr FW).at_ i (by omega)
          simp only [Option.some.injEq, Addr.mk.injEq, and_true] at e1
          obtain ⟨rfl, rfl⟩ := e1
          have ev := hev i (by omega)
          have HE : Hid (evA es i = es[i]) := evA_at (by omega)
          obtain ⟨c0, -, c2, -⟩ := ev
          have HS := HLS.out i
          rw [HE.out] at HS
          obtain ⟨ki, hki⟩ : ∃ z, z = es[i].k := ⟨_, rfl⟩
          obtain ⟨oi, hoi⟩ : ∃ z, z = es[i].o := ⟨_, rfl⟩
          simp only [← hki, ← hoi] at c0 c2 HS
          have HS : Hid _ := HS
          obtain ⟨sls, ⟨ag', ac', ea, oa, la⟩, s2, s3⟩ := (hA.fr FW).at_
          simp only [Value.slice.injEq, Option.some.injEq, Addr.mk.injEq, and_true] at ea
          obtain ⟨rfl, hsl, rfl⟩ := ea
          have aR := own_readsG oa la
          have ai := aR.at_ i (by omega)
          obtain ⟨b2, o2, e2, ac0⟩ := ai
          simp only [Option.some.injEq, Addr.mk.injEq, and_true] at e2
          obtain ⟨rfl, rfl⟩ := e2
          have x1 := ac0 i (by omega) 0 (by decide)
          have x2 := ac0 J (by omega) 0 (by decide)
          have m1 := s3 i (by omega) (by omega)
          have m2 := s3 J (by omega) (by omega)
          have et1 : tss.getD i [] = tss[i]'(by omega) := by rw [List.getD_eq_getElem?_getD, List.getElem?_eq_getElem (by omega)]; rfl
          have et2 : tss.getD J [] = tss[J]'(by omega) := by rw [List.getD_eq_getElem?_getD, List.getElem?_eq_getElem (by omega)]; rfl
          rw [et1, et2] at HS
          obtain ⟨si, hsi⟩ : ∃ z, z = sls[i]'(by omega) := ⟨_, rfl⟩
          obtain ⟨sj, hsj⟩ : ∃ z, z = sls[J]'(by omega) := ⟨_, rfl⟩
          obtain ⟨ti, hti⟩ : ∃ z, z = tss[i]'(by omega) := ⟨_, rfl⟩
          obtain ⟨tj, htj⟩ : ∃ z, z = tss[J]'(by omega) := ⟨_, rfl⟩
          rw [← hsi, ← hti] at m1
          rw [← hsj, ← htj] at m2
          rw [← hsi] at x1
          rw [← hsj] at x2
          rw [← hti, ← htj] at HS
          obtain ⟨m1, n1, -⟩ := m1
          obtain ⟨m2, n2, -⟩ := m2
          obtain ⟨ai, ni, ci⟩ := si
          obtain ⟨aj, nj, cj⟩ := sj
          have x1 : wr.cell? ⟨ag, i, none⟩ = some (.slice ai ni ci) := by simpa [layS] using x1
          have x2 : wr.cell? ⟨ag, J, none⟩ = some (.slice aj nj cj) := by simpa [layS] using x2
          simp only at n1 n2 m1 m2
          have gR2 := gR.fr (hF.trans hF2)
          have lR2 := lR.fr hF2
          have HT : Hid (∀ b, edgeT es tss i J = b → edgesT es tss J (i + 1) = if b = true then edgesT es tss J i ++ [(i : Int)] else edgesT es tss J i) := fun b hb => by rw [edgesT_succ, hb]
          have hel := edgesT_len es tss J i
          have hone := fun u => reads_one u (i : Int) ⟨by omega, by omega⟩
          clear hev hki hoi hsi hsj hti htj et1 et2 ac0 aR oa la s2 s3 hsl HLS HE
          have cM := fun (s : Later wr) => meets_any ai aj ni ci nj cj ti tj s.u n1.symm n2.symm (m1.fr s.fr) (m2.fr s.fr)
          have cL := fun (s : Later wr) => l4In_any (some ⟨lg, 0, none⟩) gs.length lcap ls (i : Int) s.u HLEN.out (lR2.fr s.fr)
          have cO := l4In_any (some ⟨gb, 0, none⟩) gs.length gs.length gs oi wr rfl gR2
          have p1 : ∀ s : Later wr, s.u.cell? ⟨ag, i, none⟩ = some (.slice ai ni ci) := fun s => s.fr.cell x1
          have p2 : ∀ s : Later wr, s.u.cell? ⟨ag, J, none⟩ = some (.slice aj nj cj) := fun s => s.fr.cell x2
          obtain ⟨mB, hmB⟩ : ∃ b, b = meetsB ti tj := ⟨_, rfl⟩
          simp only [← hmB] at cM HS
          clear x1 x2 m1 m2 n1 n2 gR2 lR2 hmB
          cases hk : (ki == 1)
          · clear cO
            go_wp2_with fail
            cases ha : memB ls i
            · simp only [ha] at cL
              cases hb : mB
              · simp only [hb] at cM
                have := Later.some wr
                refine wp_region_grown (by kernel_rfl) (by kernel_rfl) ?_
                repeat (go_big_quiet_step (first | with_reducible exact Calls.grown_same (cL _) | with_reducible exact Calls.grown_of (cM _)))
                refine wpQuiet_nil ?_
                rintro _ ⟨s, rfl⟩
                have HTT : Hid _ := HT.out false (by rw [HS.out]; simp [ha, hb, hk])
                go_wp2_with fail
                go_roundw
                case rel => exact ⟨i + 1, by omega, by go_num, by rw [HTT.out]; exact oO.fr s.fr, hF2.trans s.fr⟩
                case measure => simp [intOf] <;> omega
              · simp only [hb] at cM
                have := Later.some wr
                refine wp_region_grown (by kernel_rfl) (by kernel_rfl) ?_
                repeat (go_big_quiet_step (first | with_reducible exact Calls.grown_same (cL _) | with_reducible exact Calls.grown_of (cM _)))
                refine wpQuiet_nil ?_
                rintro _ ⟨s, rfl⟩
                have HTT : Hid _ := HT.out true (by rw [HS.out]; simp [ha, hb, hk])
                have f5 := s.fr
                have o5 := oO.fr f5
                have hs5 := f5.size
                go_wp2_with (at_builtin; refine appI _ rfl _ _ rfl B0 _ _ [(i : Int)] rfl (o5.fr (Fr.alloc _ _)) _ _ _ rfl rfl (by simp) (hone _) (by simp; omega) (by simp; have := HBw.out; omega) ?_; intro v1 w4 hv1 hg1)
                go_roundw
                case rel => exact ⟨i + 1, by omega, by go_num, by rw [HTT.out]; exact hv1, ((hF2.trans f5).trans (Fr.alloc _ _)).then hg1 (fun j hj => by have := oO.blk j hj; have := HB0.out; omega)⟩
                case measure => simp [intOf] <;> omega
            · simp only [ha] at cL
              have := Later.some wr
              refine wp_region_grown (by kernel_rfl) (by kernel_rfl) ?_
              repeat (go_big_quiet_step (first | with_reducible exact Calls.grown_same (cL _) | with_reducible exact Calls.grown_of (cM _)))
              refine wpQuiet_nil ?_
              rintro _ ⟨s, rfl⟩
              have HTT : Hid _ := HT.out true (by rw [HS.out]; simp [ha])
              have f5 := s.fr
              have o5 := oO.fr f5
              have hs5 := f5.size
              go_wp2_with (at_builtin; refine appI _ rfl _ _ rfl B0 _ _ [(i : Int)] rfl (o5.fr (Fr.alloc _ _)) _ _ _ rfl rfl (by simp) (hone _) (by simp; omega) (by simp; have := HBw.out; omega) ?_; intro v1 w4 hv1 hg1)
              go_roundw
              case rel => exact ⟨i + 1, by omega, by go_num, by rw [HTT.out]; exact hv1, ((hF2.trans f5).trans (Fr.alloc _ _)).then hg1 (fun j hj => by have := oO.blk j hj; have := HB0.out; omega)⟩
              case measure => simp [intOf] <;> omega
          · cases hg : memB gs oi
            · simp only [hg] at cO
              go_wp2_with fail
              refine cO.mono ?_
              rintro x wr ⟨rfl, rfl⟩
              clear cO
              go_wp2_with fail
              cases ha : memB ls i
              · simp only [ha] at cL
                cases hb : mB
                · simp only [hb] at cM
                  have := Later.some wr
                  refine wp_region_grown (by kernel_rfl) (by kernel_rfl) ?_
                  repeat (go_big_quiet_step (first | with_reducible exact Calls.grown_same (cL _) | with_reducible exact Calls.grown_of (cM _)))
                  refine wpQuiet_nil ?_
                  rintro _ ⟨s, rfl⟩
                  have HTT : Hid _ := HT.out false (by rw [HS.out]; simp [ha, hb, hk, hg])
                  clear ha hb hk hg cM cL p1 p2 HS HT hone
                  go_wp2_with fail
                  go_roundw
                  case rel => exact ⟨i + 1, by omega, by go_num, by rw [HTT.out]; exact oO.fr s.fr, hF2.trans s.fr⟩
                  case measure => simp [intOf] <;> omega
                · simp only [hb] at cM
                  have := Later.some wr
                  refine wp_region_grown (by kernel_rfl) (by kernel_rfl) ?_
                  repeat (go_big_quiet_step (first | with_reducible exact Calls.grown_same (cL _) | with_reducible exact Calls.grown_of (cM _)))
                  refine wpQuiet_nil ?_
                  rintro _ ⟨s, rfl⟩
                  have HTT : Hid _ := HT.out true (by rw [HS.out]; simp [ha, hb, hk, hg])
                  have f5 := s.fr
                  have o5 := oO.fr f5
                  have hs5 := f5.size
                  go_wp2_with (at_builtin; refine appI _ rfl _ _ rfl B0 _ _ [(i : Int)] rfl (o5.fr (Fr.alloc _ _)) _ _ _ rfl rfl (by simp) (hone _) (by simp; omega) (by simp; have := HBw.out; omega) ?_; intro v1 w4 hv1 hg1)
                  go_roundw
                  case rel => exact ⟨i + 1, by omega, by go_num, by rw [HTT.out]; exact hv1, ((hF2.trans f5).trans (Fr.alloc _ _)).then hg1 (fun j hj => by have := oO.blk j hj; have := HB0.out; omega)⟩
                  case measure => simp [intOf] <;> omega
              · simp only [ha] at cL
                have := Later.some wr
                refine wp_region_grown (by kernel_rfl) (by kernel_rfl) ?_
                repeat (go_big_quiet_step (first | with_reducible exact Calls.grown_same (cL _) | with_reducible exact Calls.grown_of (cM _)))
                refine wpQuiet_nil ?_
                rintro _ ⟨s, rfl⟩
                have HTT : Hid _ := HT.out true (by rw [HS.out]; simp [ha])
                have f5 := s.fr
                have o5 := oO.fr f5
                have hs5 := f5.size
                go_wp2_with (at_builtin; refine appI _ rfl _ _ rfl B0 _ _ [(i : Int)] rfl (o5.fr (Fr.alloc _ _)) _ _ _ rfl rfl (by simp) (hone _) (by simp; omega) (by simp; have := HBw.out; omega) ?_; intro v1 w4 hv1 hg1)
                go_roundw
                case rel => exact ⟨i + 1, by omega, by go_num, by rw [HTT.out]; exact hv1, ((hF2.trans f5).trans (Fr.alloc _ _)).then hg1 (fun j hj => by have := oO.blk j hj; have := HB0.out; omega)⟩
                case measure => simp [intOf] <;> omega
            · simp only [hg] at cO
              go_wp2_with fail
              refine cO.mono ?_
              rintro x wr ⟨rfl, rfl⟩
              clear cO
              go_wp2_with fail
              cases ha : memB ls i
              · simp only [ha] at cL
                have := Later.some wr
                refine wp_region_grown (by kernel_rfl) (by kernel_rfl) ?_
                repeat (go_big_quiet_step (first | with_reducible exact Calls.grown_same (cL _) | with_reducible exact Calls.grown_of (cM _)))
                refine wpQuiet_nil ?_
                rintro _ ⟨s, rfl⟩
                have HTT : Hid _ := HT.out true (by rw [HS.out]; simp [ha, hk, hg])
                have f5 := s.fr
                have o5 := oO.fr f5
                have hs5 := f5.size
                go_wp2_with (at_builtin; refine appI _ rfl _ _ rfl B0 _ _ [(i : Int)] rfl (o5.fr (Fr.alloc _ _)) _ _ _ rfl rfl (by simp) (hone _) (by simp; omega) (by simp; have := HBw.out; omega) ?_; intro v1 w4 hv1 hg1)
                go_roundw
                case rel => exact ⟨i + 1, by omega, by go_num, by rw [HTT.out]; exact hv1, ((hF2.trans f5).trans (Fr.alloc _ _)).then hg1 (fun j hj => by have := oO.blk j hj; have := HB0.out; omega)⟩
                case measure => simp [intOf] <;> omega
              · simp only [ha] at cL
                have := Later.some wr
                refine wp_region_grown (by kernel_rfl) (by kernel_rfl) ?_
                repeat (go_big_quiet_step (first | with_reducible exact Calls.grown_same (cL _) | with_reducible exact Calls.grown_of (cM _)))
                refine wpQuiet_nil ?_
                rintro _ ⟨s, rfl⟩
                have HTT : Hid _ := HT.out true (by rw [HS.out]; simp [ha])
                have f5 := s.fr
                have o5 := oO.fr f5
                have hs5 := f5.size
                go_wp2_with (at_builtin; refine appI _ rfl _ _ rfl B0 _ _ [(i : Int)] rfl (o5.fr (Fr.alloc _ _)) _ _ _ rfl rfl (by simp) (hone _) (by simp; omega) (by simp; have := HBw.out; omega) ?_; intro v1 w4 hv1 hg1)
                go_roundw
                case rel => exact ⟨i + 1, by omega, by go_num, by rw [HTT.out]; exact hv1, ((hF2.trans f5).trans (Fr.alloc _ _)).then hg1 (fun j hj => by have := oO.blk j hj; have := HB0.out; omega)⟩
                case measure => simp [intOf] <;> omega
        · have e : J = i := by omega
          rw [← e] at oO
          clear lR gR HLS
          go_wp2_with fail
          go_ret
          exact ⟨_, rfl, oO.lower (by have := hF.size; have := HB0.out; omega), (f1.trans hF).trans hF2⟩
end Go.Proofs.YtcofhmikdkkigaaGreatDoor
