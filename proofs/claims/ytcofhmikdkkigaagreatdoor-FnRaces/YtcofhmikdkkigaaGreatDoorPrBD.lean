/-
  Pack BD: SpBef, SpBefs.
-/
import Derived.Test.YtcofhmikdkkigaaGreatDoorPrBC
import Derived.Deep.OwnRows
import Derived.Test.YtcofhmikdkkigaaGreatDoorPrAA
namespace Go.Proofs.YtcofhmikdkkigaaGreatDoor
open Go.RowKit

structure RowsL (w : World) (base : Nat) (v : Value) (n : Nat) (sls : List Slc) (bf : Nat → Nat) : Prop where
  own : OwnG (layS 44) w base v sls
  rows : ∀ j (h1 : j < sls.length), ∃ b c, sls[j] = ⟨some ⟨b, 0, none⟩, n, c⟩ ∧ RowF w b n (bf j) ∧ base ≤ b ∧ b < w.heap.size ∧ some b ≠ v.ownBlock
def RowsB (w : World) (base : Nat) (v : Value) (n k : Nat) (bf : Nat → Nat) : Prop := ∃ sls : List Slc, sls.length = k ∧ RowsL w base v n sls bf
theorem RowsL.keep {w w' : World} {base n rb : Nat} {v : Value} {sls : List Slc} {bf : Nat → Nat} (h : RowsL w base v n sls bf) (k : w.grownBy w' (some rb)) (hrb : w.heap.size ≤ rb) : RowsL w' base v n sls bf := by
  have hz := k.size
  refine ⟨h.own.keep k (fun e => by have := h.own.lt rb e; omega), fun j h1 => ?_⟩
  obtain ⟨b, c, e, hr, h2, h3, h4⟩ := h.rows j h1
  exact ⟨b, c, e, hr.keep k (fun q => by injection q; omega), h2, by omega, h4⟩
theorem RowsL.fr {w w' : World} {base n : Nat} {v : Value} {sls : List Slc} {bf : Nat → Nat} (h : RowsL w base v n sls bf) (k : Fr w w') : RowsL w' base v n sls bf := by
  have hz := k.size
  refine ⟨h.own.fr k, fun j h1 => ?_⟩
  obtain ⟨b, c, e, hr, h2, h3, h4⟩ := h.rows j h1
  exact ⟨b, c, e, hr.fr k, h2, by omega, h4⟩
theorem RowsL.lower {w : World} {base base' n : Nat} {v : Value} {sls : List Slc} {bf : Nat → Nat} (h : RowsL w base v n sls bf) (hb : base' ≤ base) : RowsL w base' v n sls bf := by
  refine ⟨h.own.lower hb, fun j h1 => ?_⟩
  obtain ⟨b, c, e, hr, h2, h3, h4⟩ := h.rows j h1
  exact ⟨b, c, e, hr, by omega, h3, h4⟩
theorem RowsL.cong {w : World} {base n : Nat} {v : Value} {sls : List Slc} {bf bf' : Nat → Nat} (h : RowsL w base v n sls bf) (hb : ∀ j, j < sls.length → bf j = bf' j) : RowsL w base v n sls bf' := by
  refine ⟨h.own, fun j h1 => ?_⟩
  rw [← hb j h1]
  exact h.rows j h1
theorem RowsL.row {w : World} {base n g cap j : Nat} {sls : List Slc} {bf : Nat → Nat} (h : RowsL w base (.slice (some ⟨g, 0, none⟩) sls.length cap) n sls bf) (hj : j < sls.length) : ∃ b c, w.cell? ⟨g, j, none⟩ = some (.slice (some ⟨b, 0, none⟩) n c) ∧ RowF w b n (bf j) := by
  obtain ⟨b, c, e, hr, -⟩ := h.rows j hj
  refine ⟨b, c, ?_, hr⟩
  obtain ⟨g', cap', q, o, l⟩ := h.own
  simp only [Value.slice.injEq, Option.some.injEq, Addr.mk.injEq, and_true, true_and] at q
  obtain ⟨rfl, rfl⟩ := q
  obtain ⟨b2, o2, q2, hc⟩ := (own_readsG o l).at_ j hj
  simp only [Option.some.injEq, Addr.mk.injEq, and_true] at q2
  obtain ⟨rfl, rfl⟩ := q2
  have := hc j hj 0 (by decide)
  rw [e] at this
  simpa [layS] using this
theorem RowsL.row2 {w : World} {base n g cap j k : Nat} {sls : List Slc} {bf : Nat → Nat} (h : RowsL w base (.slice (some ⟨g, 0, none⟩) k cap) n sls bf) (hk : sls.length = k) (hj : j < k) : ∃ b c, w.cell? ⟨g, j, none⟩ = some (.slice (some ⟨b, 0, none⟩) n c) ∧ RowF w b n (bf j) := by
  subst hk
  exact h.row hj
theorem RowsL.row3 {w : World} {base n g cap j k : Nat} {sls : List Slc} {bf : Nat → Nat} (h : RowsL w base (.slice (some ⟨g, 0, none⟩) k cap) n sls bf) (hk : sls.length = k) (hj : j < k) : ∃ b c, w.cell? ⟨g, j, none⟩ = some (.slice (some ⟨b, 0, none⟩) n c) ∧ RowF w b n (bf j) ∧ base ≤ b ∧ b < w.heap.size := by
  subst hk
  obtain ⟨b, c, h1, h2⟩ := h.row hj
  obtain ⟨b', c', e, h3, h4, h5, -⟩ := h.rows j hj
  obtain ⟨g', cap', q, o, l⟩ := h.own
  simp only [Value.slice.injEq, Option.some.injEq, Addr.mk.injEq, and_true, true_and] at q
  obtain ⟨rfl, rfl⟩ := q
  obtain ⟨b2, o2, q2, hc⟩ := (own_readsG o l).at_ j hj
  simp only [Option.some.injEq, Addr.mk.injEq, and_true] at q2
  obtain ⟨rfl, rfl⟩ := q2
  have := hc j hj 0 (by decide)
  rw [e] at this
  exact ⟨b', c', by simpa [layS] using this, h3, h4, h5⟩
theorem RowsL.push {u z : World} {base n rb rc : Nat} {v v' : Value} {sls : List Slc} {bf : Nat → Nat} (h : RowsL u base v n sls bf) (hX : RowF u rb n (bf sls.length)) (h1 : base ≤ rb) (h2 : rb < u.heap.size) (h3 : some rb ≠ v.ownBlock)
    (s : OwnG (layS 44) z base v' (sls ++ [⟨some ⟨rb, 0, none⟩, n, rc⟩])) (g : u.grownBy z v.ownBlock) (hat : v'.ownBlock = v.ownBlock ∨ v'.ownBlock = some u.heap.size) : RowsL z base v' n (sls ++ [⟨some ⟨rb, 0, none⟩, n, rc⟩]) bf := by
  have hz := g.size
  have hb3 : ∀ b, b < u.heap.size → some b ≠ v.ownBlock → some b ≠ v'.ownBlock := by
    intro b q1 q2
    rcases hat with e | e
    · rw [e]
      exact q2
    · rw [e]
      intro q
      injection q
      omega
  refine ⟨s, fun j hj => ?_⟩
  by_cases e : j < sls.length
  · obtain ⟨b, c, q1, q2, q3, q4, q5⟩ := h.rows j e
    exact ⟨b, c, by rw [List.getElem_append_left e]; exact q1, q2.keep g q5, q3, by omega, hb3 b q4 q5⟩
  · have ej : j = sls.length := by
      simp at hj
      omega
    subst ej
    exact ⟨rb, rc, by simp, hX.keep g h3, h1, by omega, hb3 rb h2 h3⟩
theorem infoTB : (Tryz.prog.info? 44).map (fun i => (i.zero, i.size, i.bytes)) = some (some (.slice none 0 0), 1, 24) := by kernel_rfl
theorem infoB : (Tryz.prog.info? 4).map (fun i => (i.zero, i.size, i.bytes)) = some (some (.bool false), 1, 1) := by kernel_rfl
theorem made_row {w : World} {n : Nat} : RowF (w.alloc (.cells (madeCells #[.bool false] n) 4)) w.heap.size n 0 := by
  intro i hi
  rw [cell_of_row _ _ _ _ _ _ (heap_alloc_new w _)]
  simp [madeCells, hi, Nat.mod_one]

set_option maxRecDepth 20000 in
set_option maxHeartbeats 8000000 in
theorem l7Before_any (ao : Option Addr) (n c : Nat) (es : List Ev) (w : World) (hn : es.length = n) (h : ReadsE w ao es) (hl : n ≤ 300) (hk : KindsOk es) :
    Calls Tryz.prog 84 #[.slice ao n c] w fun x w' => ∃ v, x = .returned v ∧ RowsB w' w.heap.size v n n (befN (edgeT es (tssL es n))) ∧ Fr w w' := by
  subst hn
  have cA := l7All_any ao es.length c es w rfl h hk
  have HEd : Hid (∀ J, edgesT es (tssL es es.length) J J = ((List.range J).filter fun i => edgeT es (tssL es es.length) i J).map fun i : Nat => (i : Int)) := fun J => rfl
  obtain ⟨E, hE⟩ : ∃ E, E = edgeT es (tssL es es.length) := ⟨_, rfl⟩
  rw [← hE] at HEd ⊢
  clear hE
  go_enter Tryz.func84, Tryz.ntmps84
  go_wp2_with fail
  refine cA.mono ?_
  rintro x u1 ⟨v1, rfl, A1, f1⟩
  clear cA
  obtain ⟨sls, ⟨ag, ac, rfl, -, -⟩, s2, -⟩ := id A1
  have hsl : sls.length = es.length := by rw [s2, tssL_len]
  rw [hsl] at A1 ⊢
  clear hsl s2
  have hel : ∀ J, (edgesT es (tssL es es.length) J J).length ≤ J := fun J => edgesT_len _ _ _ _
  have cE := fun J u (hJ : J < es.length) (f : Fr u1 u) => l7Edges_any ao es.length c ag ac J es (tssL es es.length) w.heap.size u rfl (h.fr (f1.trans f)) hJ hl (tssL_len _ _) (A1.fr f)
  obtain ⟨eT, heT⟩ : ∃ eT : Nat → List Int, ∀ J, edgesT es (tssL es es.length) J J = eT J := ⟨_, fun _ => rfl⟩
  simp only [heT] at HEd cE hel
  clear heT A1 hk h
  go_wp2_with fail
  go_loopw [4, 5] (fun v i wr => ∃ k : Nat, k ≤ es.length ∧ i = .int .i64 k ∧ RowsB wr u1.heap.size v es.length k (befN E) ∧ Fr u1 wr) (fun _ i _ => es.length - (intOf i).toNat)
  case atStart => exact ⟨0, Nat.zero_le _, rfl, ⟨[], rfl, ownG_new (layS 44) u1 u1.heap.size (Nat.le_refl _), fun j h1 => by simp at h1⟩, Fr.alloc _ _⟩
  case round =>
    obtain ⟨k, hk1, rfl, ⟨sls, hsl, hR⟩, hF⟩ := hrel
    by_cases hlt : k < es.length
    · have hki : (k : Int) < es.length := by omega
      have cE := cE k
      have hel := hel k
      obtain ⟨xs, hxs⟩ : ∃ xs, xs = (List.range k).filter fun i => E i k := ⟨_, rfl⟩
      have HED : Hid (eT k = xs.map fun i : Nat => (i : Int)) := by rw [HEd.out, hxs]; exact rfl
      have HX : Hid (accS (befN E) xs = befN E k) := by rw [hxs]; exact accS_bef E k
      have HXM : Hid (∀ y ∈ xs, y < k) := by
        rw [hxs]
        intro y hy
        exact List.mem_range.1 (List.mem_filter.1 hy).1
      have HXL : Hid (∀ p (hp : p < xs.length), xs[p] < k) := fun p hp => HXM.out _ (List.getElem_mem hp)
      clear HXM
      rw [HED.out, List.length_map] at hel
      simp only [HED.out] at cE
      clear hxs HED
      have hmk := run_make_row' (P := Tryz.prog) 44 4 (.bool false) 1 Tryz.underlying44 infoB rfl .i64 .i64 es.length (by omega) (by omega)
      obtain ⟨og, oc, rfl, -, -⟩ := id hR.own
      have hogl := hR.own.lt og rfl
      have hogb := hR.own.blk og rfl
      rw [hsl] at hR
      have hsw := hF.size
      have f1s := f1.size
      have hfa := Fr.alloc wr (.cells (madeCells #[.bool false] es.length) 4)
      have HM : Hid (RowF (wr.alloc (.cells (madeCells #[.bool false] es.length) 4)) wr.heap.size es.length 0 ∧ RowAt (wr.alloc (.cells (madeCells #[.bool false] es.length) 4)) wr.heap.size 4) := ⟨made_row, ⟨_, heap_alloc_new _ _⟩⟩
      have cE := cE _ hlt (hF.trans hfa)
      rw [hsl]
      go_wp2_with fail
      refine cE.mono ?_
      rintro x u2 ⟨v2, rfl, o2, f2⟩
      clear cE
      obtain ⟨lb, lc, rfl, o2⟩ := o2
      have hlb := own_lt o2
      have hz1 : (wr.alloc (.cells (madeCells #[.bool false] es.length) 4)).heap.size = wr.heap.size + 1 := by simp
      rw [hz1] at hlb
      have f2s := f2.size
      rw [hz1] at f2s
      have lR := o2.reads
      have F2 := hfa.trans f2
      have hM := HM.out
      have hM1 := hM.1.fr f2
      have hM2 := hM.2.fr f2
      obtain ⟨rb, hrb⟩ : ∃ rb, rb = wr.heap.size := ⟨_, rfl⟩
      rw [← hrb] at hM1 hM2 hlb f2s ⊢
      have HRB : Hid (rb = wr.heap.size) := hrb
      have HRk : Hid (∀ u, u2.grownBy u (some rb) → RowsL u u1.heap.size (.slice (some ⟨og, 0, none⟩) k oc) es.length sls (befN E)) := fun u gu => hR.keep (grown_trans F2.wide gu) (by omega)
      clear hrb hM HM hmk o2 hR hfa hz1
      go_wp2_with fail
      go_loopw [8] (fun q wq => ∃ p : Nat, p ≤ xs.length ∧ q = .int .i64 p ∧ RowF wq rb es.length (accS (befN E) (xs.take p)) ∧ RowAt wq rb 4 ∧ u2.grownBy wq (some rb)) (fun q _ => xs.length - (intOf q).toNat)
      case atStart => exact ⟨0, Nat.zero_le _, rfl, hM1, hM2, ⟨rfl, rfl, rfl, Nat.le_refl _, fun _ _ _ => rfl⟩⟩
      case round =>
        obtain ⟨p, hp, rfl, hX, hA, hG⟩ := hrel
        by_cases hlp : p < xs.length
        · have hpi : (p : Int) < xs.length := by omega
          have HL := HXL.out p hlp
          have HT : Hid (accS (befN E) (xs.take (p + 1)) = accS (befN E) (xs.take p) ||| 2 ^ xs[p] ||| befN E xs[p]) := by
            rw [List.take_succ_eq_append_getElem hlp, accS_snoc]
            exact rfl
          have HC : Hid (∀ u, u2.grownBy u (some rb) → u.cell? ⟨lb, p, none⟩ = some (.int .i64 (xs[p] : Int))) := fun u gu => by
            obtain ⟨bb, off2, e0, hc⟩ := (lR.keep gu (.inr (by simp only [blk, Option.map_some, ne_eq, Option.some.injEq]; omega))).at_ p (by rw [List.length_map]; exact hlp)
            simp only [Option.some.injEq, Addr.mk.injEq, and_true] at e0
            obtain ⟨rfl, rfl⟩ := e0
            have := hc p (by rw [List.length_map]; exact hlp)
            rw [getD_at (by rw [List.length_map]; exact hlp), Nat.zero_add, List.getElem_map] at this
            exact this
          obtain ⟨L, hL⟩ : ∃ L, L = xs[p] := ⟨_, rfl⟩
          rw [← hL] at HL HT
          simp only [← hL] at HC
          clear hL
          have hLn : (L : Int) < es.length := by omega
          have hLk : (L : Int) < k := by omega
          have hL0 : L < es.length := by omega
          have c0 := HC.out _ hG
          have cL := hX L hL0
          have frz := hA.free L
          have HS : Hid (RowF (wr.setCell ⟨rb, L, none⟩ (.bool true)) rb es.length (accS (befN E) (xs.take p) ||| 2 ^ L) ∧ RowAt (wr.setCell ⟨rb, L, none⟩ (.bool true)) rb 4 ∧ u2.grownBy (wr.setCell ⟨rb, L, none⟩ (.bool true)) (some rb)) := ⟨hX.set hL0, hA.set _ _, grown_trans hG (grown_set _ _ _ _)⟩
          clear hX hA hG
          go_wp2_with fail
          obtain ⟨X0, hX0⟩ : ∃ X0, X0 = accS (befN E) (xs.take p) ||| 2 ^ L := ⟨_, rfl⟩
          rw [← hX0] at HS HT
          obtain ⟨wl, hwl⟩ : ∃ wl, wl = wr.setCell ⟨rb, L, none⟩ (.bool true) := ⟨_, rfl⟩
          rw [← hwl] at HS ⊢
          clear hX0 hwl c0 cL frz
          have HS0 : Hid (RowF wl rb es.length (X0 ||| lowS (befN E L) 0)) := by
            have : lowS (befN E L) 0 = 0 := rfl
            rw [this, Nat.or_zero]
            exact HS.out.1
          go_loopw [9] (fun q wz => ∃ i : Nat, i ≤ L ∧ q = .int .i64 i ∧ RowF wz rb es.length (X0 ||| lowS (befN E L) i) ∧ RowAt wz rb 4 ∧ u2.grownBy wz (some rb)) (fun q _ => L - (intOf q).toNat)
          case atStart => exact ⟨0, Nat.zero_le _, rfl, HS0.out, HS.out.2.1, HS.out.2.2⟩
          case round =>
            obtain ⟨i, hi, rfl, hX, hA, hG⟩ := hrel
            have c0 := HC.out _ hG
            by_cases hli : i < L
            · have hii : (i : Int) < L := by omega
              have hin : (i : Int) < es.length := by omega
              have hin0 : i < es.length := by omega
              obtain ⟨b, bc, hcell, hrow⟩ := (HRk.out _ hG).row2 hsl (j := L) (by omega)
              have hbit := hrow i hin0
              have cI := hX i hin0
              have frz := hA.free i
              have HSu : Hid (lowS (befN E L) (i + 1) = if (befN E L).testBit i = true then lowS (befN E L) i ||| 2 ^ i else lowS (befN E L) i) := rfl
              have HSet : Hid (RowF (wr.setCell ⟨rb, i, none⟩ (.bool true)) rb es.length (X0 ||| lowS (befN E L) i ||| 2 ^ i) ∧ RowAt (wr.setCell ⟨rb, i, none⟩ (.bool true)) rb 4 ∧ u2.grownBy (wr.setCell ⟨rb, i, none⟩ (.bool true)) (some rb)) := ⟨hX.set hin0, hA.set _ _, grown_trans hG (grown_set _ _ _ _)⟩
              have HKeep : Hid (RowF wr rb es.length (X0 ||| lowS (befN E L) i) ∧ RowAt wr rb 4 ∧ u2.grownBy wr (some rb)) := ⟨hX, hA, hG⟩
              clear hX hA hG hrow
              obtain ⟨Y, hY⟩ : ∃ Y, Y = (befN E L).testBit i := ⟨_, rfl⟩
              rw [← hY] at hbit HSu
              clear hY
              cases Y
              · have HSu : Hid (lowS (befN E L) (i + 1) = lowS (befN E L) i) := HSu.out.trans (if_neg (by simp))
                go_wp2_with fail
                go_roundw
                case rel => exact ⟨i + 1, by omega, by go_num, by rw [HSu.out]; exact HKeep.out.1, HKeep.out.2.1, HKeep.out.2.2⟩
                case measure => simp [intOf] <;> omega
              · have HSu : Hid (lowS (befN E L) (i + 1) = lowS (befN E L) i ||| 2 ^ i) := HSu.out.trans (if_pos rfl)
                go_wp2_with fail
                go_roundw
                case rel => exact ⟨i + 1, by omega, by go_num, by rw [HSu.out, ← Nat.or_assoc]; exact HSet.out.1, HSet.out.2.1, HSet.out.2.2⟩
                case measure => simp [intOf] <;> omega
            · have e : i = L := by omega
              subst e
              have HE2 : Hid (accS (befN E) (xs.take (p + 1)) = X0 ||| lowS (befN E i) i) := by rw [HT.out, lowS_bef]; exact rfl
              go_wp2_with fail
              go_roundw
              case rel => exact ⟨p + 1, by omega, by go_num, by rw [HE2.out]; exact hX, hA, hG⟩
              case measure => simp [intOf] <;> omega
        · have e : p = xs.length := by omega
          subst e
          rw [List.take_length, HX.out] at hX
          have R3 := HRk.out _ hG
          have hsw2 := hG.size
          have FW := F2.then hG (fun j hj => by cases hj; have := HRB.out; omega)
          have hbo : some rb ≠ (Value.slice (some ⟨og, 0, none⟩) k oc).ownBlock := by
            intro q
            simp only [Value.ownBlock, Option.some.injEq] at q
            have := HRB.out
            omega
          have f5 := Fr.alloc wr (.cells #[.slice (some ⟨rb, 0, none⟩) es.length es.length] 44)
          have k5 := heap_alloc_new wr (.cells #[.slice (some ⟨rb, 0, none⟩) es.length es.length] 44)
          have hnew : ∀ q, q < (layS 44).sz → (wr.alloc (.cells #[.slice (some ⟨rb, 0, none⟩) es.length es.length] 44)).cell? ⟨wr.heap.size, q, none⟩ = ((layS 44).cs ⟨some ⟨rb, 0, none⟩, es.length, es.length⟩)[q]? := by
            intro q hq
            have : q = 0 := by simpa [layS] using hq
            subst this
            rw [cell_of_row _ _ _ _ _ _ k5]
            rfl
          have R5 := R3.fr f5
          have X5 := hX.fr f5
          have hz5 : (wr.alloc (.cells #[.slice (some ⟨rb, 0, none⟩) es.length es.length] 44)).heap.size = wr.heap.size + 1 := by simp
          have hrl := hA.lt
          have hle : u1.heap.size ≤ rb := by have := HRB.out; omega
          clear k5
          go_wp2_with (at_builtin; refine appG (layS 44) _ rfl _ _ 116 (.slice none 0 0) 24 rfl Tryz.underlying116 infoTB rfl (by omega) u1.heap.size (.slice (some ⟨og, 0, none⟩) k oc) sls ⟨some ⟨rb, 0, none⟩, es.length, es.length⟩ rfl R5.own _ _ rfl hnew (by omega) (by omega) ?_; intro v3 z3 s4 g3 at3)
          go_roundw
          case rel => exact ⟨k + 1, by omega, by go_num, ⟨sls ++ [⟨some ⟨rb, 0, none⟩, es.length, es.length⟩], by simp [hsl], R5.push (by rw [hsl]; exact X5) (by have := HRB.out; omega) (by omega) hbo s4 g3 at3⟩, (hF.trans (FW.trans f5)).then g3 (fun j hj => by simp only [Value.ownBlock, Option.some.injEq] at hj; omega)⟩
          case measure => simp [intOf] <;> omega
    · have e : k = es.length := by omega
      subst e
      go_wp2_with fail
      go_ret
      exact ⟨_, rfl, ⟨sls, hsl, hR.lower f1.size⟩, f1.trans hF⟩
end Go.Proofs.YtcofhmikdkkigaaGreatDoor
namespace Go.Proofs.YtcofhmikdkkigaaGreatDoor
open Go.RowKit

def bitsI (p X : Nat) : List Int := (bitsL p X).map fun i : Nat => (i : Int)
theorem bitsL_succ (p X : Nat) : bitsL (p + 1) X = if X.testBit p = true then bitsL p X ++ [p] else bitsL p X := by
  unfold bitsL
  rw [List.range_succ, List.filter_append]
  cases h : X.testBit p <;> simp [h]
theorem bitsI_succ (p X : Nat) : bitsI (p + 1) X = if X.testBit p = true then bitsI p X ++ [(p : Int)] else bitsI p X := by
  unfold bitsI
  rw [bitsL_succ]
  split <;> simp
theorem bitsL_len (p X : Nat) : (bitsL p X).length ≤ p := by
  unfold bitsL
  have := List.length_filter_le (fun i => X.testBit i) (List.range p)
  simpa using this
theorem bitsI_len (p X : Nat) : (bitsI p X).length ≤ p := by
  unfold bitsI
  rw [List.length_map]
  exact bitsL_len p X
theorem bitsI_bef (E : Nat → Nat → Bool) {j : Nat} (h : j ≤ 320) : bitsI j (befN E j) = rsL (befN E j) := by
  unfold bitsI rsL
  rw [bitsL_low h (fun i hi => befN_high E hi)]

set_option maxRecDepth 20000 in
set_option maxHeartbeats 4000000 in
theorem specBef_any (gb off n c : Nat) (es : List Ev) (w : World) (hn : es.length = n) (hnc : n ≤ c) (h : ReadsE w (some ⟨gb, off, none⟩) es) (j : Int) :
    Calls Tryz.prog 32 #[.slice (some ⟨gb, off, none⟩) n c, .int .i64 j] w fun x w' => ∃ v, x = .returned v ∧ OwnS w' w.heap.size v (rsL (rJ es j).2) ∧ Fr w w' := by
  have cP := l5Part_any gb off n c es w hn hnc h
  have hK := lpL_300 es
  have HB : Hid (∀ J : Nat, J < (lpL es).length → 0 ≤ legLen es ∧ befN (eE (lpL es)) J = (rJ es J).2) := fun J hJ => lpL_bef hJ
  have HN : Hid (¬ (0 ≤ j ∧ j < (lpL es).length) → rsL (rJ es j).2 = []) := fun q => by rw [lpL_out q]; exact rsL_zero
  have HKK : Hid (∀ ls, ls = lpL es → 0 ≤ legLen es → KindsOk ls ∧ (legS scn0 ls).2.1 = ls.length) := by
    rintro _ rfl hb
    exact ⟨fun j hj => lpL_kinds j hj hb, (lpL_leg hb).2.2.1⟩
  obtain ⟨ls, hls⟩ : ∃ ls, ls = lpL es := ⟨_, rfl⟩
  simp only [← hls] at cP hK HB HN
  have HLS : Hid (ls = lpL es) := hls
  clear hls h hn hnc
  have cI := fun u => l1In_any j 0 ((ls.length : Int) - 1) u
  cases hb : inB 0 ((ls.length : Int) - 1) j
  · have HE := HN.out (by
      rintro ⟨q1, q2⟩
      have : inB 0 ((ls.length : Int) - 1) j = true := by simp [inB]; omega
      rw [hb] at this
      cases this)
    have HE : Hid _ := HE
    simp only [hb] at cI
    clear hb HN HB HKK
    go_enter Tryz.func32, Tryz.ntmps32
    go_wp2_with fail
    refine (cP).mono ?_
    rintro e u1 ⟨v1, rfl, o1, f1⟩
    obtain ⟨g1, c1, rfl, o1, hl1⟩ := o1
    go_wp2_with fail
    refine (cI _).mono ?_
    rintro e u2 ⟨rfl, rfl⟩
    go_wp2_with fail
    go_ret
    refine ⟨_, rfl, ?_, f1.trans (Fr.alloc _ _)⟩
    rw [HE.out]
    exact own_empty u1 _ f1.size
  · have hj : 0 ≤ j ∧ j < ls.length := by simp [inB] at hb; omega
    obtain ⟨J, rfl⟩ : ∃ J : Nat, j = J := ⟨j.toNat, by omega⟩
    have hJ : J < ls.length := by omega
    simp only [hb] at cI
    obtain ⟨hb0, HE⟩ := HB.out J hJ
    obtain ⟨hk2, hleg⟩ := HKK.out ls HLS.out hb0
    have hml : (ls.take (J + 1)).length = J + 1 := by simp; omega
    have HE : Hid (befN (edgeT (ls.take (J + 1)) (tssL (ls.take (J + 1)) (J + 1))) J = (rJ es J).2) := by
      have q := befN_legal (es := ls.take (J + 1)) (by omega) (leg_cut hleg (by omega)) (j := J) (by omega)
      rw [hml] at q
      rw [q, befN_part (by omega), HE]
      exact rfl
    obtain ⟨M, hM⟩ : ∃ M, M = (rJ es J).2 := ⟨_, rfl⟩
    rw [← hM] at HE ⊢
    clear hb HN HB HKK hj hb0 hM hleg
    have HM : Hid (bitsI J M = rsL M) := by rw [← HE.out]; exact bitsI_bef _ (by omega)
    have cB := fun g u c (f : ReadsE u (some ⟨g, 0, none⟩) ls) => l7Before_any (some ⟨g, 0, none⟩) (J + 1) c (ls.take (J + 1)) u hml (f.take _) (by omega) (hk2.part _)
    clear hml hk2
    go_enter Tryz.func32, Tryz.ntmps32
    go_wp2_with fail
    refine (cP).mono ?_
    rintro e u1 ⟨v1, rfl, o1, f1⟩
    obtain ⟨g1, c1, rfl, o1, hl1⟩ := o1
    have hc1 := own_capR o1
    have r1 := own_readsE o1 hl1
    go_wp2_with fail
    refine (cI _).mono ?_
    rintro e u2 ⟨rfl, rfl⟩
    clear cP cI o1 hl1
    have hJc : (J : Int) + 1 ≤ c1 := by omega
    have f2 := Fr.alloc u1 (.cells #[] 2)
    have cB := cB g1 _ c1 (r1.fr f2)
    have HO : Hid (OwnS (u1.alloc (.cells #[] 2)) w.heap.size (.slice (some ⟨u1.heap.size, 0, none⟩) 0 0) []) := own_empty u1 _ f1.size
    go_wp2_with fail
    obtain ⟨K, hKK⟩ : ∃ K, K = J + 1 := ⟨_, rfl⟩
    rw [← hKK] at cB HE ⊢
    have hJK : (J : Int) < K := by omega
    have hJK0 : J < K := by omega
    clear hKK
    refine cB.mono ?_
    rintro x u3 ⟨v3, rfl, ⟨sls, hsl, R3⟩, f3⟩
    clear cB r1
    obtain ⟨ag, ac, rfl, -, -⟩ := id R3.own
    rw [hsl] at R3 ⊢
    obtain ⟨b, bc, hcell, hrow, hbb⟩ := R3.row3 hsl (j := J) hJK0
    rw [HE.out] at hrow
    have o3 := HO.out.fr f3
    have F3 := (f1.trans f2).trans f3
    have hz1 := f1.size
    have hz2 : (u1.alloc (.cells #[] 2)).heap.size = u1.heap.size + 1 := by simp
    have hz3 := f3.size
    have HBB : Hid (u1.heap.size + 1 ≤ b ∧ b < u3.heap.size) := by rw [← hz2]; exact hbb
    have hne0 : (some b : Option Nat) ≠ (Value.slice (some ⟨u1.heap.size, 0, none⟩) 0 0).ownBlock := by
      have := HBB.out
      simp only [Value.ownBlock, ne_eq, Option.some.injEq]
      omega
    clear R3 hsl HE HO
    go_wp2_with fail
    go_loopw [6, 8] (fun v i wr => ∃ p : Nat, p ≤ J ∧ i = .int .i64 p ∧ OwnS wr w.heap.size v (bitsI p M) ∧ RowF wr b K M ∧ some b ≠ v.ownBlock ∧ u3.heap.size ≤ wr.heap.size ∧ Fr w wr) (fun _ i _ => J - (intOf i).toNat)
    case atStart => exact ⟨0, Nat.zero_le _, rfl, by simpa [bitsI, bitsL] using o3, hrow, hne0, Nat.le_refl _, F3⟩
    case round =>
      obtain ⟨p, hp, rfl, oO, hR, hne, hsz, hF⟩ := hrel
      by_cases hlp : p < J
      · have hpi : (p : Int) < J := by omega
        have hpK : (p : Int) < K := by omega
        have hbit := hR p (by omega)
        have HT : Hid (bitsI (p + 1) M = if M.testBit p = true then bitsI p M ++ [(p : Int)] else bitsI p M) := bitsI_succ p M
        have hone := fun u => reads_one u (p : Int) ⟨by omega, by omega⟩
        have hbl := bitsI_len p M
        obtain ⟨Y, hY⟩ : ∃ Y, Y = M.testBit p := ⟨_, rfl⟩
        rw [← hY] at hbit HT
        clear hY
        cases Y
        · have HT : Hid (bitsI (p + 1) M = bitsI p M) := HT.out.trans (if_neg (by simp))
          go_wp2_with fail
          go_roundw
          case rel => exact ⟨p + 1, by omega, by go_num, by rw [HT.out]; exact oO, hR, hne, hsz, hF⟩
          case measure => simp [intOf] <;> omega
        · have HT : Hid (bitsI (p + 1) M = bitsI p M ++ [(p : Int)]) := HT.out.trans (if_pos rfl)
          have hF1 := hF.size
          go_wp2_with (at_builtin; refine appI2 _ rfl _ _ rfl w.heap.size _ _ [(p : Int)] rfl (oO.fr (Fr.alloc _ _)) _ _ _ rfl rfl (by simp) (hone _) (by simp; omega) (by simp; omega) ?_; intro v1 w4 hv1 hg1 hat)
          go_roundw
          case rel =>
            have f5 := Fr.alloc wr (.cells #[.int .i64 (p : Int)] 2)
            have hs5 := hg1.size
            have hz5 : (wr.alloc (.cells #[.int .i64 (p : Int)] 2)).heap.size = wr.heap.size + 1 := by simp
            refine ⟨p + 1, by omega, by go_num, by rw [HT.out]; exact hv1, (hR.fr f5).keep hg1 hne, ?_, by omega, (hF.trans f5).then hg1 oO.blk⟩
            rcases hat with e | e
            · rw [e]
              exact hne
            · rw [e]
              have := HBB.out
              simp only [ne_eq, Option.some.injEq]
              omega
          case measure => simp [intOf] <;> omega
      · have e : J = p := by omega
        rw [← e, HM.out] at oO
        go_wp2_with fail
        go_ret
        exact ⟨_, rfl, oO, hF⟩

theorem memB_rs (N : Nat) (x : Int) : memB (rsL N) x = (inB 0 319 x && N.testBit x.toNat) := by
  rw [Bool.eq_iff_iff, memB_iff, Bool.and_eq_true]
  unfold rsL
  rw [List.mem_map]
  constructor
  · rintro ⟨i, h1, rfl⟩
    obtain ⟨h2, h3⟩ := (bitsL_mem _ _ _).1 h1
    refine ⟨?_, by simpa using h3⟩
    simp [inB]
    omega
  · rintro ⟨h1, h2⟩
    have h1 : 0 ≤ x ∧ x ≤ 319 := by simpa [inB] using h1
    exact ⟨x.toNat, (bitsL_mem _ _ _).2 ⟨by omega, h2⟩, by omega⟩
theorem rJ_high (es : List Ev) (j : Int) {i : Nat} (h : 300 ≤ i) : (rJ es j).2.testBit i = false := by
  by_cases q : 0 ≤ j ∧ j < (lpL es).length
  · obtain ⟨J, rfl⟩ : ∃ J : Nat, j = J := ⟨j.toNat, by omega⟩
    have h1 := (lpL_bef (es := es) (J := J) (by omega)).2
    have h2 := lpL_300 es
    rw [← h1]
    exact befN_high _ (by omega)
  · rw [lpL_out q]
    exact Nat.zero_testBit i
def atB (bf : Nat → Nat) : Nat → Int
  | 0 => 0
  | k + 1 => atB bf k + ((k : Int) - (bitsL k (bf k)).length)
theorem atB_in (bf : Nat → Nat) : ∀ k : Nat, k ≤ 300 → 0 ≤ atB bf k ∧ atB bf k ≤ 300 * (k : Int)
  | 0, _ => by simp [atB]
  | k + 1, h => by
    have ih := atB_in bf k (by omega)
    have := bitsL_len k (bf k)
    simp only [atB]
    omega
theorem atB_atO {es : List Ev} {bf : Nat → Nat} : ∀ k : Nat, k ≤ 300 → (∀ j, j < k → bf j = befN (eE es) j) → atB bf k = atO es k
  | 0, _, _ => rfl
  | k + 1, h, hb => by
    simp only [atB, atO]
    rw [atB_atO k (by omega) (fun j hj => hb j (by omega)), hb k (by omega)]
    unfold popS
    rw [bitsL_low (show k ≤ 320 by omega) (fun i hi => befN_high _ hi)]

end Go.Proofs.YtcofhmikdkkigaaGreatDoor
