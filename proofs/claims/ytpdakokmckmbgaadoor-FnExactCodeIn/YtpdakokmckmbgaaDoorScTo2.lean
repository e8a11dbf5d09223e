/-
  The walks of the laws' toLock, toLockS, toScene.
-/
import Derived.Test.YtpdakokmckmbgaaDoorScTo
import Derived.Test.YtpdakokmckmbgaaDoorScNew
namespace Go.Proofs.YtpdakokmckmbgaaDoor
open Go.RowKit

theorem put3 (w : World) (r : Nat) (v0 v1 v2 : Value) : w.grownBy (((w.setCell ⟨r, 0, none⟩ v0).setCell ⟨r, 1, none⟩ v1).setCell ⟨r, 2, none⟩ v2) (some r) :=
  grown_trans (grown_trans (grown_set _ r 0 _) (grown_set _ r 1 _)) (grown_set _ r 2 _)

set_option maxHeartbeats 1000000 in
theorem toLock_any {B : Nat → Prop} (lv : Lv) (l : Lk) (w : World) (h : LkR B w lv l) :
    Calls Tryd.prog 43 #[.agg #[.int .i64 lv.o, .int .i64 lv.wr, .slice lv.ro lv.rn lv.rc]] w fun e w' => ∃ lv' : Lv, e = .returned (.agg #[.int .i64 lv'.o, .int .i64 lv'.wr, .slice lv'.ro lv'.rn lv'.rc]) ∧ LkR (fun b => w.heap.size ≤ b ∧ b < w'.heap.size) w' lv' l ∧ Fr w w' := by
  have f1 := Fr.alloc w (.cells #[.int .i64 lv.o, .int .i64 lv.wr, .slice lv.ro lv.rn lv.rc] 63)
  have f2 := Fr.alloc (w.alloc (.cells #[.int .i64 lv.o, .int .i64 lv.wr, .slice lv.ro lv.rn lv.rc] 63)) (.cells #[.int .i64 0, .int .i64 0, .slice none 0 0] 72)
  have f3 := Fr.alloc ((w.alloc (.cells #[.int .i64 lv.o, .int .i64 lv.wr, .slice lv.ro lv.rn lv.rc] 63)).alloc (.cells #[.int .i64 0, .int .i64 0, .slice none 0 0] 72)) (.cells #[.int .i64 lv.o, .int .i64 lv.wr, .slice none 0 0] 72)
  have kr := (LvK.new (w.alloc (.cells #[.int .i64 lv.o, .int .i64 lv.wr, .slice lv.ro lv.rn lv.rc] 63)) ⟨0, 0, none, 0, 0⟩).keep f3 (by simp)
  have kl := LvK.new ((w.alloc (.cells #[.int .i64 lv.o, .int .i64 lv.wr, .slice lv.ro lv.rn lv.rc] 63)).alloc (.cells #[.int .i64 0, .int .i64 0, .slice none 0 0] 72)) ⟨lv.o, lv.wr, none, 0, 0⟩
  have cI := toI_any lv.ro lv.rn lv.rc l.rd (((w.alloc (.cells #[.int .i64 lv.o, .int .i64 lv.wr, .slice lv.ro lv.rn lv.rc] 63)).alloc (.cells #[.int .i64 0, .int .i64 0, .slice none 0 0] 72)).alloc (.cells #[.int .i64 lv.o, .int .i64 lv.wr, .slice none 0 0] 72)) h.rn.symm (h.rd.fr ((f1.trans f2).trans f3))
  simp only [World.size_alloc] at kr kl cI
  have fW := (f1.trans f2).trans f3
  have HR : Hid (LkR B w lv l) := h
  clear h f1 f2 f3
  obtain ⟨o, wt, ro, rn, rc⟩ := lv
  simp only at kr kl cI fW HR ⊢
  go_enter Tryd.func43, Tryd.ntmps43
  go_wp2_with fail
  obtain ⟨b0, hb⟩ : ∃ b0, b0 = w.heap.size := ⟨_, rfl⟩
  refine cI.mono ?_
  rintro x u ⟨rfl, ou, fu⟩
  have F := fW.trans fu
  have kr := kr.keep fu (by simp)
  have kl := kl.keep fu (by simp)
  have tu := own_lt ou
  have HB : Hid (b0 = w.heap.size) := hb
  rw [← hb] at kr kl tu ⊢
  rw [← hb] at ou
  clear cI fW fu hb
  have gs := grown_set u (b0 + 1 + 1) 2 (.slice (some ⟨b0 + 1 + 1 + 1, 0, none⟩) rn rn)
  have q4 := kl.setR (some ⟨b0 + 1 + 1 + 1, 0, none⟩) rn rn
  have qr := kr.keep gs (by simp)
  have fz := kl.free 2
  have x2 := kl.at.2.2
  obtain ⟨y0, y1, y2⟩ := q4.at
  obtain ⟨z0, z1, z2⟩ := qr.at
  have zf := fun i => qr.free i
  simp only at x2 y0 y1 y2 z0 z1 z2
  have HO : Hid (OwnI u (b0 + 1 + 1 + 1) (.slice (some ⟨b0 + 1 + 1 + 1, 0, none⟩) rn rn) l.rd) := ou
  have HT : Hid (b0 + 1 + 1 + 1 < u.heap.size) := tu.2
  have HF : Hid (Fr w u) := F
  clear q4 qr kr kl ou tu F gs
  go_wp2_with fail
  have g1 := grown_set u (b0 + 1 + 1) 2 (.slice (some ⟨b0 + 1 + 1 + 1, 0, none⟩) rn rn)
  have g2 := put3 (u.setCell ⟨b0 + 1 + 1, 2, none⟩ (.slice (some ⟨b0 + 1 + 1 + 1, 0, none⟩) rn rn)) (b0 + 1) (.int .i64 o) (.int .i64 wt) (.slice (some ⟨b0 + 1 + 1 + 1, 0, none⟩) rn rn)
  have s1 := g1.size
  have s2 := g2.size
  have hb := HB.out
  have ht := HT.out
  refine bodyPost_ret (v := .agg #[.int .i64 o, .int .i64 wt, .slice (some ⟨b0 + 1 + 1 + 1, 0, none⟩) rn rn]) (by simp [results, Tryd.results43, go_sem, z0, z1, z2]) rfl ⟨⟨o, wt, some ⟨b0 + 1 + 1 + 1, 0, none⟩, rn, rn⟩, rfl, ?_, (HF.out.then g1 (one_blk (by omega))).then g2 (one_blk (by omega))⟩
  exact ⟨HR.out.o, HR.out.wr, HR.out.rn, (HO.out.reads.keep g1 (.inr (by simp [blk]))).keep g2 (.inr (by simp [blk]; omega)), fun b hb2 => by simp only [blk, Option.map_some, Option.some.injEq] at hb2; subst hb2; exact ⟨by omega, by omega⟩, fun q => by simp at q, HR.out.sz, HR.out.io, HR.out.iw⟩

set_option maxHeartbeats 1000000 in
theorem toLockS_any {B : Nat → Prop} (ao : Option Addr) (n cap : Nat) (lvs : List Lv) (ls : List Lk) (w : World) (hn : lvs.length = n) (hl : lvs.length ≤ 1048576) (h : ReadsG layL w ao lvs) (hL : LksR B w lvs ls) :
    Calls Tryd.prog 20 #[.slice ao n cap] w fun e w' => e = .returned (.slice (some ⟨w.heap.size, 0, none⟩) n n) ∧ (∃ zs : List Lv, OwnG layL w' w.heap.size (.slice (some ⟨w.heap.size, 0, none⟩) n n) zs ∧ LksR (fun b => w.heap.size < b ∧ b < w'.heap.size) w' zs ls) ∧ Fr w w' := by
  subst hn
  have HL : Hid (lvs.length = ls.length) := hL.len
  obtain ⟨i0, hi, hz0, hz1, hz2⟩ := info_parts Tryd.inf3L
  go_enter Tryd.func20, Tryd.ntmps20
  go_wp2_with (at_make; refine wpList_make_full _ rfl _ _ 32 rfl w.heap.size 72 i0 (.agg #[.int .i64 0, .int .i64 0, .slice none 0 0]) 3 Tryd.underlying32 hi hz0 hz1 .i64 .i64 _ _ lvs.length rfl rfl rfl rfl (by rw [hz2]; omega) (by unfold maxLen; omega) (Nat.le_refl _) ?_; intro w1 hown hgrow)
  obtain ⟨M, hM⟩ : ∃ M, M = (madeCells (Value.agg #[.int .i64 0, .int .i64 0, .slice none 0 0]).cells (lvs.length * 3)).toList := ⟨_, rfl⟩
  rw [← hM] at hown
  clear hM
  have hMl := hown.1
  have hsz := (hown.lt w.heap.size rfl).2
  clear hi hz0 hz1 hz2
  go_loopw [4] (fun i wr => ∃ (k : Nat) (zs : List Lv), k ≤ lvs.length ∧ i = .int .i64 k ∧ zs.length = k ∧ wr.ownsRow w.heap.size 72 3 (.slice (some ⟨w.heap.size, 0, none⟩) lvs.length lvs.length) lvs.length (zs.flatMap layL.cs ++ M.drop (k * 3)) ∧ LksR (fun b => w.heap.size < b ∧ b < wr.heap.size) wr zs (ls.take k) ∧ Fr w wr) (fun i _ => lvs.length - (intOf i).toNat)
  case atStart => exact ⟨0, [], Nat.zero_le _, rfl, rfl, by simpa using hown, LksR.nil _ _, hgrow⟩
  case round =>
    obtain ⟨k, zs, hk, rfl, hzl, ho, hR, hf⟩ := hrel
    have s7 := (ho.lt w.heap.size rfl).2
    have HZ : Hid (zs.length = k) := hzl
    have HR : Hid (LksR (fun b => w.heap.size < b ∧ b < wr.heap.size) wr zs (ls.take k)) := hR
    clear hown hgrow hzl hR
    by_cases hlt : k < lvs.length
    · have hlt2 : k < ls.length := by have := HL.out; omega
      obtain ⟨b, off, rfl, d0, d1, d2⟩ := lv_at (h.fr hf) k hlt
      have HE : Hid (ls.take k ++ [ls[k]] = ls.take (k + 1)) := (List.take_succ_eq_append_getElem hlt2).symm
      have cT := toLock_any lvs[k] ls[k] wr ((hL.at_ k hlt hlt2).fr hf)
      obtain ⟨e, he⟩ : ∃ e, e = lvs[k] := ⟨_, rfl⟩
      obtain ⟨l, hll⟩ : ∃ l, l = ls[k] := ⟨_, rfl⟩
      simp only [← he] at d0 d1 d2 cT
      rw [← hll] at HE
      simp only [← hll] at cT
      clear he hll hlt2
      go_wp2_with fail
      refine cT.mono ?_
      rintro x w5 ⟨⟨o', wt', ro', rn', rc'⟩, rfl, hlk, f5⟩
      have ho := ho.kept f5 (by simp [Value.ownBlock])
      have hll : (zs.flatMap layL.cs ++ M.drop (k * 3)).length = lvs.length * 3 := ho.1
      have hat : ∀ i, i < 3 → ∃ u, w5.cell? ⟨w.heap.size, k * 3 + i, none⟩ = some u := fun i hi => by
        rw [ho.cellAt (k * 3 + i) (by omega)]
        exact ⟨_, List.getElem?_eq_getElem (by omega)⟩
      obtain ⟨q0, x0⟩ := hat 0 (by omega)
      obtain ⟨q1, x1⟩ := hat 1 (by omega)
      obtain ⟨q2, x2⟩ := hat 2 (by omega)
      rw [Nat.add_zero] at x0
      have z0 := ho.frozenAt (k * 3)
      have z1 := ho.frozenAt (k * 3 + 1)
      have z2 := ho.frozenAt (k * 3 + 2)
      have hst := own3 ho (k * 3) (.int .i64 o') (.int .i64 wt') (.slice ro' rn' rc')
      rw [laid3 (L := layL) rfl zs M k lvs.length HZ.out hlt hMl ⟨o', wt', ro', rn', rc'⟩ (.int .i64 o') (.int .i64 wt') (.slice ro' rn' rc') rfl] at hst
      have s5 := f5.size
      have s1 := hf.size
      have s6 := hst.2.size
      have HX : Hid (LksR (fun b => w.heap.size < b ∧ b < (((w5.setCell ⟨w.heap.size, k * 3, none⟩ (.int .i64 o')).setCell ⟨w.heap.size, k * 3 + 1, none⟩ (.int .i64 wt')).setCell ⟨w.heap.size, k * 3 + 2, none⟩ (.slice ro' rn' rc')).heap.size) (((w5.setCell ⟨w.heap.size, k * 3, none⟩ (.int .i64 o')).setCell ⟨w.heap.size, k * 3 + 1, none⟩ (.int .i64 wt')).setCell ⟨w.heap.size, k * 3 + 2, none⟩ (.slice ro' rn' rc')) (zs ++ [⟨o', wt', ro', rn', rc'⟩]) (ls.take (k + 1))) := by
        rw [← HE.out]
        refine LksR.snoc ?_ ?_
        · exact ((HR.out.fr f5).keep hst.2 (fun j hj => by cases hj; omega)).mono (fun b hb => ⟨hb.1, by omega⟩)
        · exact (hlk.keep hst.2 (fun j hj => by cases hj; omega)).mono (fun b hb => ⟨by omega, by omega⟩)
      have hfin := (hf.trans f5).then hst.2 (fun j hj => by simp only [Option.some.injEq] at hj; omega)
      clear hat hll ho d0 d1 d2 cT hlk
      go_wp2_with fail
      go_roundw
      case rel => exact ⟨k + 1, _, by omega, by go_num, by simp [HZ.out], hst.1, HX.out, hfin⟩
      case measure => simp [intOf]; omega
    · have ek : k = lvs.length := by omega
      have hd : M.drop (k * 3) = [] := List.drop_eq_nil_of_le (by rw [hMl, ek]; omega)
      rw [hd, List.append_nil] at ho
      have HR : Hid (LksR (fun b => w.heap.size < b ∧ b < wr.heap.size) wr zs ls) := by
        have h1 := HR.out
        rw [List.take_of_length_le (by rw [ek, HL.out]; exact Nat.le_refl _)] at h1
        exact h1
      have HZ2 : Hid (lvs.length = zs.length) := by rw [HZ.out, ek]; exact rfl
      clear ek hd
      go_wp2_with fail
      go_ret
      refine ⟨rfl, ⟨zs, ⟨w.heap.size, lvs.length, by rw [HZ2.out], by rw [HZ2.out] at ho; rw [HZ2.out]; exact ho, by rw [← HZ2.out]; omega⟩, HR.out⟩, hf⟩
end Go.Proofs.YtpdakokmckmbgaaDoor
