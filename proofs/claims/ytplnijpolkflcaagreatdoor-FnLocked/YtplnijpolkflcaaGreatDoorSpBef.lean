/-
  The specification's l7Before.
-/
import Derived.Test.YtplnijpolkflcaaGreatDoorSpBefM
import Derived.Deep.OwnRows
namespace Go.Proofs.YtplnijpolkflcaaGreatDoor
open Go.RowKit

/-- Rows of truths: the rows lie elsewhere. -/
structure RowsL (w : World) (base : Nat) (v : Value) (n : Nat) (sls : List Slc) (bf : Nat → Nat) : Prop where
  own : OwnG (layS 106) w base v sls
  rows : ∀ j (h1 : j < sls.length), ∃ b c, sls[j] = ⟨some ⟨b, 0, none⟩, n, c⟩ ∧ RowF w b n (bf j) ∧ base ≤ b ∧ b < w.heap.size ∧ some b ≠ v.ownBlock
def RowsB (w : World) (base : Nat) (v : Value) (n k : Nat) (bf : Nat → Nat) : Prop := ∃ sls : List Slc, sls.length = k ∧ RowsL w base v n sls bf
theorem RowsL.keep {w w' : World} {base n rb : Nat} {v : Value} {sls : List Slc} {bf : Nat → Nat} (h : RowsL w base v n sls bf) (k : w.grownBy w' (some rb)) (hrb : w.heap.size ≤ rb) : RowsL w' base v n sls bf := by
  have hz := k.size
  refine ⟨h.own.keep k (fun e => by have := h.own.lt rb e; omega), fun j h1 => ?_⟩
  obtain ⟨b, c, e, hr, h2, h3, h4⟩ := h.rows j h1
  exact ⟨b, c, e, hr.keep k (fun q => by injection q; omega), h2, by omega, h4⟩
theorem RowsL.fr {w w' : World} {base n : Nat} {v : Value} {sls : List Slc} {bf : Nat → Nat} (h : RowsL w base v n sls bf) (k : Fr w w') : RowsL w' base v n sls bf := by
  have hz := k.size
  refine ⟨h.own.fr k, fun j h1 => ?_⟩
  obtain ⟨b, c, e, hr, h2, h3, h4⟩ := h.rows j h1
  exact ⟨b, c, e, hr.fr k, h2, by omega, h4⟩
theorem RowsL.lower {w : World} {base base' n : Nat} {v : Value} {sls : List Slc} {bf : Nat → Nat} (h : RowsL w base v n sls bf) (hb : base' ≤ base) : RowsL w base' v n sls bf := by
  refine ⟨h.own.lower hb, fun j h1 => ?_⟩
  obtain ⟨b, c, e, hr, h2, h3, h4⟩ := h.rows j h1
  exact ⟨b, c, e, hr, by omega, h3, h4⟩
theorem RowsL.cong {w : World} {base n : Nat} {v : Value} {sls : List Slc} {bf bf' : Nat → Nat} (h : RowsL w base v n sls bf) (hb : ∀ j, j < sls.length → bf j = bf' j) : RowsL w base v n sls bf' := by
  refine ⟨h.own, fun j h1 => ?_⟩
  rw [← hb j h1]
  exact h.rows j h1
/-- A row's slice, and what it holds. -/
theorem RowsL.row {w : World} {base n g cap j : Nat} {sls : List Slc} {bf : Nat → Nat} (h : RowsL w base (.slice (some ⟨g, 0, none⟩) sls.length cap) n sls bf) (hj : j < sls.length) : ∃ b c, w.cell? ⟨g, j, none⟩ = some (.slice (some ⟨b, 0, none⟩) n c) ∧ RowF w b n (bf j) := by
  obtain ⟨b, c, e, hr, -⟩ := h.rows j hj
  refine ⟨b, c, ?_, hr⟩
  obtain ⟨g', cap', q, o, l⟩ := h.own
  simp only [Value.slice.injEq, Option.some.injEq, Addr.mk.injEq, and_true, true_and] at q
  obtain ⟨rfl, rfl⟩ := q
  obtain ⟨b2, o2, q2, hc⟩ := (own_readsG o l).at_ j hj
  simp only [Option.some.injEq, Addr.mk.injEq, and_true] at q2
  obtain ⟨rfl, rfl⟩ := q2
  have := hc j hj 0 (by decide)
  rw [e] at this
  simpa [layS] using this
theorem RowsL.row2 {w : World} {base n g cap j k : Nat} {sls : List Slc} {bf : Nat → Nat} (h : RowsL w base (.slice (some ⟨g, 0, none⟩) k cap) n sls bf) (hk : sls.length = k) (hj : j < k) : ∃ b c, w.cell? ⟨g, j, none⟩ = some (.slice (some ⟨b, 0, none⟩) n c) ∧ RowF w b n (bf j) := by
  subst hk
  exact h.row hj
theorem RowsL.row3 {w : World} {base n g cap j k : Nat} {sls : List Slc} {bf : Nat → Nat} (h : RowsL w base (.slice (some ⟨g, 0, none⟩) k cap) n sls bf) (hk : sls.length = k) (hj : j < k) : ∃ b c, w.cell? ⟨g, j, none⟩ = some (.slice (some ⟨b, 0, none⟩) n c) ∧ RowF w b n (bf j) ∧ base ≤ b ∧ b < w.heap.size := by
  subst hk
  obtain ⟨b, c, h1, h2⟩ := h.row hj
  obtain ⟨b', c', e, h3, h4, h5, -⟩ := h.rows j hj
  obtain ⟨g', cap', q, o, l⟩ := h.own
  simp only [Value.slice.injEq, Option.some.injEq, Addr.mk.injEq, and_true, true_and] at q
  obtain ⟨rfl, rfl⟩ := q
  obtain ⟨b2, o2, q2, hc⟩ := (own_readsG o l).at_ j hj
  simp only [Option.some.injEq, Addr.mk.injEq, and_true] at q2
  obtain ⟨rfl, rfl⟩ := q2
  have := hc j hj 0 (by decide)
  rw [e] at this
  exact ⟨b', c', by simpa [layS] using this, h3, h4, h5⟩
theorem RowsL.push {u z : World} {base n rb rc : Nat} {v v' : Value} {sls : List Slc} {bf : Nat → Nat} (h : RowsL u base v n sls bf) (hX : RowF u rb n (bf sls.length)) (h1 : base ≤ rb) (h2 : rb < u.heap.size) (h3 : some rb ≠ v.ownBlock)
    (s : OwnG (layS 106) z base v' (sls ++ [⟨some ⟨rb, 0, none⟩, n, rc⟩])) (g : u.grownBy z v.ownBlock) (hat : v'.ownBlock = v.ownBlock ∨ v'.ownBlock = some u.heap.size) : RowsL z base v' n (sls ++ [⟨some ⟨rb, 0, none⟩, n, rc⟩]) bf := by
  have hz := g.size
  have hb3 : ∀ b, b < u.heap.size → some b ≠ v.ownBlock → some b ≠ v'.ownBlock := by
    intro b q1 q2
    rcases hat with e | e
    · rw [e]
      exact q2
    · rw [e]
      intro q
      injection q
      omega
  refine ⟨s, fun j hj => ?_⟩
  by_cases e : j < sls.length
  · obtain ⟨b, c, q1, q2, q3, q4, q5⟩ := h.rows j e
    exact ⟨b, c, by rw [List.getElem_append_left e]; exact q1, q2.keep g q5, q3, by omega, hb3 b q4 q5⟩
  · have ej : j = sls.length := by
      simp at hj
      omega
    subst ej
    exact ⟨rb, rc, by simp, hX.keep g h3, h1, by omega, hb3 rb h2 h3⟩
theorem infoTB : (Tryz.prog.info? 106).map (fun i => (i.zero, i.size, i.bytes)) = some (some (.slice none 0 0), 1, 24) := by kernel_rfl
theorem infoB : (Tryz.prog.info? 4).map (fun i => (i.zero, i.size, i.bytes)) = some (some (.bool false), 1, 1) := by kernel_rfl
theorem made_row {w : World} {n : Nat} : RowF (w.alloc (.cells (madeCells #[.bool false] n) 4)) w.heap.size n 0 := by
  intro i hi
  rw [cell_of_row _ _ _ _ _ _ (heap_alloc_new w _)]
  simp [madeCells, hi, Nat.mod_one]

set_option maxRecDepth 20000 in
set_option maxHeartbeats 8000000 in
theorem l7Before_any (ao : Option Addr) (n c : Nat) (es : List Ev) (w : World) (hn : es.length = n) (h : ReadsE w ao es) (hl : n ≤ 300) (hk : KindsOk es) :
    Calls Tryz.prog 74 #[.slice ao n c] w fun x w' => ∃ v, x = .returned v ∧ RowsB w' w.heap.size v n n (befN (edgeT es (tssL es n))) ∧ Fr w w' := by
  subst hn
  have cA := l7All_any ao es.length c es w rfl h hk
  have HEd : Hid (∀ J, edgesT es (tssL es es.length) J J = ((List.range J).filter fun i => edgeT es (tssL es es.length) i J).map fun i : Nat => (i : Int)) := fun J => rfl
  obtain ⟨E, hE⟩ : ∃ E, E = edgeT es (tssL es es.length) := ⟨_, rfl⟩
  rw [← hE] at HEd ⊢
  clear hE
  go_enter Tryz.func74, Tryz.ntmps74
  go_wp2_with fail
  refine cA.mono ?_
  rintro x u1 ⟨v1, rfl, A1, f1⟩
  clear cA
  obtain ⟨sls, ⟨ag, ac, rfl, -, -⟩, s2, -⟩ := id A1
  have hsl : sls.length = es.length := by rw [s2, tssL_len]
  rw [hsl] at A1 ⊢
  clear hsl s2
  have hel : ∀ J, (edgesT es (tssL es es.length) J J).length ≤ J := fun J => edgesT_len _ _ _ _
  have cE := fun J u (hJ : J < es.length) (f : Fr u1 u) => l7Edges_any ao es.length c ag ac J es (tssL es es.length) w.heap.size u rfl (h.fr (f1.trans f)) hJ hl (tssL_len _ _) (A1.fr f)
  obtain ⟨eT, heT⟩ : ∃ eT : Nat → List Int, ∀ J, edgesT es (tssL es es.length) J J = eT J := ⟨_, fun _ => rfl⟩
  simp only [heT] at HEd cE hel
  clear heT A1 hk h
  go_wp2_with fail
  go_loopw [4, 5] (fun v i wr => ∃ k : Nat, k ≤ es.length ∧ i = .int .i64 k ∧ RowsB wr u1.heap.size v es.length k (befN E) ∧ Fr u1 wr) (fun _ i _ => es.length - (intOf i).toNat)
  case atStart => exact ⟨0, Nat.zero_le _, rfl, ⟨[], rfl, ownG_new (layS 106) u1 u1.heap.size (Nat.le_refl _), fun j h1 => by simp at h1⟩, Fr.alloc _ _⟩
  case round =>
    obtain ⟨k, hk1, rfl, ⟨sls, hsl, hR⟩, hF⟩ := hrel
    by_cases hlt : k < es.length
    · have hki : (k : Int) < es.length := by omega
      have cE := cE k
      have hel := hel k
      obtain ⟨xs, hxs⟩ : ∃ xs, xs = (List.range k).filter fun i => E i k := ⟨_, rfl⟩
      have HED : Hid (eT k = xs.map fun i : Nat => (i : Int)) := by rw [HEd.out, hxs]; exact rfl
      have HX : Hid (accS (befN E) xs = befN E k) := by rw [hxs]; exact accS_bef E k
      have HXM : Hid (∀ y ∈ xs, y < k) := by
        rw [hxs]
        intro y hy
        exact List.mem_range.1 (List.mem_filter.1 hy).1
      have HXL : Hid (∀ p (hp : p < xs.length), xs[p] < k) := fun p hp => HXM.out _ (List.getElem_mem hp)
      clear HXM
      rw [HED.out, List.length_map] at hel
      simp only [HED.out] at cE
      clear hxs HED
      have hmk := run_make_row' (P := Tryz.prog) 106 4 (.bool false) 1 Tryz.underlying106 infoB rfl .i64 .i64 es.length (by omega) (by omega)
      obtain ⟨og, oc, rfl, -, -⟩ := id hR.own
      have hogl := hR.own.lt og rfl
      have hogb := hR.own.blk og rfl
      rw [hsl] at hR
      have hsw := hF.size
      have f1s := f1.size
      have hfa := Fr.alloc wr (.cells (madeCells #[.bool false] es.length) 4)
      have HM : Hid (RowF (wr.alloc (.cells (madeCells #[.bool false] es.length) 4)) wr.heap.size es.length 0 ∧ RowAt (wr.alloc (.cells (madeCells #[.bool false] es.length) 4)) wr.heap.size 4) := ⟨made_row, ⟨_, heap_alloc_new _ _⟩⟩
      have cE := cE _ hlt (hF.trans hfa)
      rw [hsl]
      go_wp2_with fail
      refine cE.mono ?_
      rintro x u2 ⟨v2, rfl, o2, f2⟩
      clear cE
      obtain ⟨lb, lc, rfl, o2⟩ := o2
      have hlb := own_lt o2
      have hz1 : (wr.alloc (.cells (madeCells #[.bool false] es.length) 4)).heap.size = wr.heap.size + 1 := by simp
      rw [hz1] at hlb
      have f2s := f2.size
      rw [hz1] at f2s
      have lR := o2.reads
      have F2 := hfa.trans f2
      have hM := HM.out
      have hM1 := hM.1.fr f2
      have hM2 := hM.2.fr f2
      obtain ⟨rb, hrb⟩ : ∃ rb, rb = wr.heap.size := ⟨_, rfl⟩
      rw [← hrb] at hM1 hM2 hlb f2s ⊢
      have HRB : Hid (rb = wr.heap.size) := hrb
      have HRk : Hid (∀ u, u2.grownBy u (some rb) → RowsL u u1.heap.size (.slice (some ⟨og, 0, none⟩) k oc) es.length sls (befN E)) := fun u gu => hR.keep (grown_trans F2.wide gu) (by omega)
      clear hrb hM HM hmk o2 hR hfa hz1
      go_wp2_with fail
      go_loopw [8] (fun q wq => ∃ p : Nat, p ≤ xs.length ∧ q = .int .i64 p ∧ RowF wq rb es.length (accS (befN E) (xs.take p)) ∧ RowAt wq rb 4 ∧ u2.grownBy wq (some rb)) (fun q _ => xs.length - (intOf q).toNat)
      case atStart => exact ⟨0, Nat.zero_le _, rfl, hM1, hM2, ⟨rfl, rfl, rfl, Nat.le_refl _, fun _ _ _ => rfl⟩⟩
      case round =>
        obtain ⟨p, hp, rfl, hX, hA, hG⟩ := hrel
        by_cases hlp : p < xs.length
        · have hpi : (p : Int) < xs.length := by omega
          have HL := HXL.out p hlp
          have HT : Hid (accS (befN E) (xs.take (p + 1)) = accS (befN E) (xs.take p) ||| 2 ^ xs[p] ||| befN E xs[p]) := by
            rw [List.take_succ_eq_append_getElem hlp, accS_snoc]
            exact rfl
          have HC : Hid (∀ u, u2.grownBy u (some rb) → u.cell? ⟨lb, p, none⟩ = some (.int .i64 (xs[p] : Int))) := fun u gu => by
            obtain ⟨bb, off2, e0, hc⟩ := (lR.keep gu (.inr (by simp only [blk, Option.map_some, ne_eq, Option.some.injEq]; omega))).at_ p (by rw [List.length_map]; exact hlp)
            simp only [Option.some.injEq, Addr.mk.injEq, and_true] at e0
            obtain ⟨rfl, rfl⟩ := e0
            have := hc p (by rw [List.length_map]; exact hlp)
            rw [getD_at (by rw [List.length_map]; exact hlp), Nat.zero_add, List.getElem_map] at this
            exact this
          obtain ⟨L, hL⟩ : ∃ L, L = xs[p] := ⟨_, rfl⟩
          rw [← hL] at HL HT
          simp only [← hL] at HC
          clear hL
          have hLn : (L : Int) < es.length := by omega
          have hLk : (L : Int) < k := by omega
          have hL0 : L < es.length := by omega
          have c0 := HC.out _ hG
          have cL := hX L hL0
          have frz := hA.free L
          have HS : Hid (RowF (wr.setCell ⟨rb, L, none⟩ (.bool true)) rb es.length (accS (befN E) (xs.take p) ||| 2 ^ L) ∧ RowAt (wr.setCell ⟨rb, L, none⟩ (.bool true)) rb 4 ∧ u2.grownBy (wr.setCell ⟨rb, L, none⟩ (.bool true)) (some rb)) := ⟨hX.set hL0, hA.set _ _, grown_trans hG (grown_set _ _ _ _)⟩
          clear hX hA hG
          go_wp2_with fail
          obtain ⟨X0, hX0⟩ : ∃ X0, X0 = accS (befN E) (xs.take p) ||| 2 ^ L := ⟨_, rfl⟩
          rw [← hX0] at HS HT
          obtain ⟨wl, hwl⟩ : ∃ wl, wl = wr.setCell ⟨rb, L, none⟩ (.bool true) := ⟨_, rfl⟩
          rw [← hwl] at HS ⊢
          clear hX0 hwl c0 cL frz
          have HS0 : Hid (RowF wl rb es.length (X0 ||| lowS (befN E L) 0)) := by
            have : lowS (befN E L) 0 = 0 := rfl
            rw [this, Nat.or_zero]
            exact HS.out.1
          go_loopw [9] (fun q wz => ∃ i : Nat, i ≤ L ∧ q = .int .i64 i ∧ RowF wz rb es.length (X0 ||| lowS (befN E L) i) ∧ RowAt wz rb 4 ∧ u2.grownBy wz (some rb)) (fun q _ => L - (intOf q).toNat)
          case atStart => exact ⟨0, Nat.zero_le _, rfl, HS0.out, HS.out.2.1, HS.out.2.2⟩
          case round =>
            obtain ⟨i, hi, rfl, hX, hA, hG⟩ := hrel
            have c0 := HC.out _ hG
            by_cases hli : i < L
            · have hii : (i : Int) < L := by omega
              have hin : (i : Int) < es.length := by omega
              have hin0 : i < es.length := by omega
              obtain ⟨b, bc, hcell, hrow⟩ := (HRk.out _ hG).row2 hsl (j := L) (by omega)
              have hbit := hrow i hin0
              have cI := hX i hin0
              have frz := hA.free i
              have HSu : Hid (lowS (befN E L) (i + 1) = if (befN E L).testBit i = true then lowS (befN E L) i ||| 2 ^ i else lowS (befN E L) i) := rfl
              have HSet : Hid (RowF (wr.setCell ⟨rb, i, none⟩ (.bool true)) rb es.length (X0 ||| lowS (befN E L) i ||| 2 ^ i) ∧ RowAt (wr.setCell ⟨rb, i, none⟩ (.bool true)) rb 4 ∧ u2.grownBy (wr.setCell ⟨rb, i, none⟩ (.bool true)) (some rb)) := ⟨hX.set hin0, hA.set _ _, grown_trans hG (grown_set _ _ _ _)⟩
              have HKeep : Hid (RowF wr rb es.length (X0 ||| lowS (befN E L) i) ∧ RowAt wr rb 4 ∧ u2.grownBy wr (some rb)) := ⟨hX, hA, hG⟩
              clear hX hA hG hrow
              obtain ⟨Y, hY⟩ : ∃ Y, Y = (befN E L).testBit i := ⟨_, rfl⟩
              rw [← hY] at hbit HSu
              clear hY
              cases Y
              · have HSu : Hid (lowS (befN E L) (i + 1) = lowS (befN E L) i) := HSu.out.trans (if_neg (by simp))
                go_wp2_with fail
                go_roundw
                case rel => exact ⟨i + 1, by omega, by go_num, by rw [HSu.out]; exact HKeep.out.1, HKeep.out.2.1, HKeep.out.2.2⟩
                case measure => simp [intOf] <;> omega
              · have HSu : Hid (lowS (befN E L) (i + 1) = lowS (befN E L) i ||| 2 ^ i) := HSu.out.trans (if_pos rfl)
                go_wp2_with fail
                go_roundw
                case rel => exact ⟨i + 1, by omega, by go_num, by rw [HSu.out, ← Nat.or_assoc]; exact HSet.out.1, HSet.out.2.1, HSet.out.2.2⟩
                case measure => simp [intOf] <;> omega
            · have e : i = L := by omega
              subst e
              have HE2 : Hid (accS (befN E) (xs.take (p + 1)) = X0 ||| lowS (befN E i) i) := by rw [HT.out, lowS_bef]; exact rfl
              go_wp2_with fail
              go_roundw
              case rel => exact ⟨p + 1, by omega, by go_num, by rw [HE2.out]; exact hX, hA, hG⟩
              case measure => simp [intOf] <;> omega
        · have e : p = xs.length := by omega
          subst e
          rw [List.take_length, HX.out] at hX
          have R3 := HRk.out _ hG
          have hsw2 := hG.size
          have FW := F2.then hG (fun j hj => by cases hj; have := HRB.out; omega)
          have hbo : some rb ≠ (Value.slice (some ⟨og, 0, none⟩) k oc).ownBlock := by
            intro q
            simp only [Value.ownBlock, Option.some.injEq] at q
            have := HRB.out
            omega
          have f5 := Fr.alloc wr (.cells #[.slice (some ⟨rb, 0, none⟩) es.length es.length] 106)
          have k5 := heap_alloc_new wr (.cells #[.slice (some ⟨rb, 0, none⟩) es.length es.length] 106)
          have hnew : ∀ q, q < (layS 106).sz → (wr.alloc (.cells #[.slice (some ⟨rb, 0, none⟩) es.length es.length] 106)).cell? ⟨wr.heap.size, q, none⟩ = ((layS 106).cs ⟨some ⟨rb, 0, none⟩, es.length, es.length⟩)[q]? := by
            intro q hq
            have : q = 0 := by simpa [layS] using hq
            subst this
            rw [cell_of_row _ _ _ _ _ _ k5]
            rfl
          have R5 := R3.fr f5
          have X5 := hX.fr f5
          have hz5 : (wr.alloc (.cells #[.slice (some ⟨rb, 0, none⟩) es.length es.length] 106)).heap.size = wr.heap.size + 1 := by simp
          have hrl := hA.lt
          have hle : u1.heap.size ≤ rb := by have := HRB.out; omega
          clear k5
          go_wp2_with (at_builtin; refine appG (layS 106) _ rfl _ _ 107 (.slice none 0 0) 24 rfl Tryz.underlying107 infoTB rfl (by omega) u1.heap.size (.slice (some ⟨og, 0, none⟩) k oc) sls ⟨some ⟨rb, 0, none⟩, es.length, es.length⟩ rfl R5.own _ _ rfl hnew (by omega) (by omega) ?_; intro v3 z3 s4 g3 at3)
          go_roundw
          case rel => exact ⟨k + 1, by omega, by go_num, ⟨sls ++ [⟨some ⟨rb, 0, none⟩, es.length, es.length⟩], by simp [hsl], R5.push (by rw [hsl]; exact X5) (by have := HRB.out; omega) (by omega) hbo s4 g3 at3⟩, (hF.trans (FW.trans f5)).then g3 (fun j hj => by simp only [Value.ownBlock, Option.some.injEq] at hj; omega)⟩
          case measure => simp [intOf] <;> omega
    · have e : k = es.length := by omega
      subst e
      go_wp2_with fail
      go_ret
      exact ⟨_, rfl, ⟨sls, hsl, hR.lower f1.size⟩, f1.trans hF⟩
end Go.Proofs.YtplnijpolkflcaaGreatDoor
