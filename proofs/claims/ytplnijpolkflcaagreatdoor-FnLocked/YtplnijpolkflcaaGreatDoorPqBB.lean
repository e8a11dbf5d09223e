/-
  Pack BB: TchSpec, TchSa, TchSb, TchSc, TchSd.
-/
import Derived.Test.YtplnijpolkflcaaGreatDoorPqBA
import Derived.Test.YtplnijpolkflcaaGreatDoorPqAB
import Derived.BigQuiet
namespace Go.Proofs.YtplnijpolkflcaaGreatDoor
open Go.RowKit

theorem cntK_take (k o : Int) (es : List Ev) (i : Nat) (hi : i < es.length) : cntK k o (es.take (i + 1)) = cntK k o (es.take i) + (if es[i].o = o ∧ es[i].k = k then 1 else 0) := by
  rw [List.take_succ_eq_append_getElem hi, cntK_one]
theorem capK_take (o : Int) (es : List Ev) (i : Nat) (hi : i < es.length) : capK o (es.take (i + 1)) = if es[i].o = o ∧ es[i].k = 6 then es[i].s else capK o (es.take i) := by
  rw [List.take_succ_eq_append_getElem hi, capK_one]
set_option maxRecDepth 20000 in
set_option maxHeartbeats 2000000 in
theorem l6Slot_any (ao : Option Addr) (n c : Nat) (es : List Ev) (w : World) (hn : es.length = n) (h : ReadsE w ao es) (j : Nat) (hj : j < es.length) (hr : capK es[j].o (es.take j) ≠ 0) :
    Calls Tryz.prog 191 #[.slice ao n c, .int .i64 j] w fun x w' => x = .returned (.int .i64 (slotE (es.take j) es[j])) ∧ Fr w w' := by
  subst hn
  have hl := h.len
  obtain ⟨fb, off, rfl, hev⟩ := h.at_ j hj
  have hjn : (j : Int) < es.length := by omega
  obtain ⟨F, hF⟩ : ∃ F, F = es[j] := ⟨_, rfl⟩
  have HJ := hev j hj
  rw [← hF] at HJ hr ⊢
  clear hF
  obtain ⟨fk, fg, fo, fw, fl, fs, ff, ft⟩ := F
  have HE : Hid (slotE (es.take j) ⟨fk, fg, fo, fw, fl, fs, ff, ft⟩ = (cntK fk fo (es.take j) : Int).tmod (capK fo (es.take j))) := rfl
  simp only at hr
  have HR : Hid (capK fo (es.take j) ≠ 0) := hr
  clear hr
  go_enter Tryz.func191, Tryz.ntmps191
  go_wp2_with fail
  go_loopw [5, 6, 7] (fun cn cr i wr => ∃ (k : Nat) (N : Nat) (R : Int), k ≤ j ∧ i = .int .i64 k ∧ cn = .int .i64 N ∧ cr = .int .i64 R ∧ Hid (N = cntK fk fo (es.take k) ∧ R = capK fo (es.take k)) ∧ N ≤ k ∧ Fr w wr) (fun _ _ i _ => j - (intOf i).toNat)
  case atStart => exact ⟨0, 0, 1, Nat.zero_le _, rfl, rfl, rfl, ⟨by simp [cntK], by simp [capK]⟩, Nat.le_refl _, Fr.refl w⟩
  case round =>
    obtain ⟨k, N, R, hk, rfl, rfl, rfl, HC, hN, hf⟩ := hrel
    by_cases hlt : k < j
    · have hkl : k < es.length := by omega
      have HK := hev k hkl
      obtain ⟨d0, d1, d2, d3, d4, d5, d6, d7⟩ := HJ.keep hf (by simp)
      obtain ⟨c0, c1, c2, c3, c4, c5, c6, c7⟩ := HK.keep hf (by simp)
      have hi : (k : Int) < es.length := by omega
      have hi2 : (k : Int) < j := by omega
      have HN := cntK_take fk fo es k hkl
      have HP := capK_take fo es k hkl
      obtain ⟨E, hE⟩ : ∃ E, E = es[k] := ⟨_, rfl⟩
      rw [← hE] at c0 c1 c2 c3 c4 c5 c6 c7 HN HP
      clear hE HK
      obtain ⟨ek, eg, eo, ew, el, ez, ef, et⟩ := E
      simp only at c0 c1 c2 c3 c4 c5 c6 c7 d0 d1 d2 d3 d4 d5 d6 d7 HN HP
      clear c1 c3 c4 c6 c7 d1 d3 d4 d5 d6 d7
      by_cases ho : eo = fo
      · have hob : (eo == fo) = true := by simp [ho]
        by_cases hk : ek = fk
        · have hkb : (ek == fk) = true := by simp [hk]
          by_cases h6 : ek = 6
          · have h6b : (ek == 6) = true := by simp [h6]
            rw [if_pos ⟨ho, hk⟩] at HN
            rw [if_pos ⟨ho, h6⟩] at HP
            have HN : Hid _ := HN
            have HP : Hid _ := HP
            clear ho hk h6
            go_wp2_with fail
            go_quiet (fail)
            go_wp2_with fail
            go_quiet (fail)
            go_wp2_with fail
            go_roundw
            case rel => exact ⟨k + 1, N + 1, ez, by omega, by go_num, by go_num, rfl, ⟨by rw [HN.out, HC.out.1], HP.out.symm⟩, by omega, hf.trans (Fr.drewN _ _)⟩
            case measure => simp [intOf]; omega
          · have h6b : (ek == 6) = false := by simp [h6]
            rw [if_pos ⟨ho, hk⟩] at HN
            rw [if_neg (by omega)] at HP
            have HN : Hid _ := HN
            have HP : Hid _ := HP
            clear ho hk h6
            go_wp2_with fail
            go_quiet (fail)
            go_wp2_with fail
            go_quiet (fail)
            go_wp2_with fail
            go_roundw
            case rel => exact ⟨k + 1, N + 1, R, by omega, by go_num, by go_num, rfl, ⟨by rw [HN.out, HC.out.1], by rw [HP.out, HC.out.2]⟩, by omega, hf.trans (Fr.drewN _ _)⟩
            case measure => simp [intOf]; omega
        · have hkb : (ek == fk) = false := by simp [hk]
          by_cases h6 : ek = 6
          · have h6b : (ek == 6) = true := by simp [h6]
            rw [if_neg (by omega)] at HN
            rw [if_pos ⟨ho, h6⟩] at HP
            have HN : Hid _ := HN
            have HP : Hid _ := HP
            clear ho hk h6
            go_wp2_with fail
            go_quiet (fail)
            go_wp2_with fail
            go_quiet (fail)
            go_wp2_with fail
            go_roundw
            case rel => exact ⟨k + 1, N, ez, by omega, by go_num, rfl, rfl, ⟨by rw [HN.out, HC.out.1]; rfl, HP.out.symm⟩, by omega, hf.trans (Fr.drewN _ _)⟩
            case measure => simp [intOf]; omega
          · have h6b : (ek == 6) = false := by simp [h6]
            rw [if_neg (by omega)] at HN
            rw [if_neg (by omega)] at HP
            have HN : Hid _ := HN
            have HP : Hid _ := HP
            clear ho hk h6
            go_wp2_with fail
            go_quiet (fail)
            go_wp2_with fail
            go_quiet (fail)
            go_wp2_with fail
            go_roundw
            case rel => exact ⟨k + 1, N, R, by omega, by go_num, rfl, rfl, ⟨by rw [HN.out, HC.out.1]; rfl, by rw [HP.out, HC.out.2]⟩, by omega, hf.trans (Fr.drewN _ _)⟩
            case measure => simp [intOf]; omega
      · have hob : (eo == fo) = false := by simp [ho]
        rw [if_neg (by omega)] at HN
        rw [if_neg (by omega)] at HP
        have HN : Hid _ := HN
        have HP : Hid _ := HP
        clear ho
        go_wp2_with fail
        go_quiet (fail)
        go_wp2_with fail
        go_quiet (fail)
        go_wp2_with fail
        go_roundw
        case rel => exact ⟨k + 1, N, R, by omega, by go_num, rfl, rfl, ⟨by rw [HN.out, HC.out.1]; rfl, by rw [HP.out, HC.out.2]⟩, by omega, hf.trans (Fr.drewN _ _)⟩
        case measure => simp [intOf]; omega
    · have e : k = j := by omega
      subst e
      have hR0 : R ≠ 0 := by rw [HC.out.2]; exact HR.out
      have hR1 : ¬ R = 0 := hR0
      go_wp2_with fail
      go_ret
      exact ⟨by rw [HE.out, ← HC.out.1, ← HC.out.2, Int.tmod_eq_emod_of_nonneg (Int.natCast_nonneg N)]; rfl, hf⟩
end Go.Proofs.YtplnijpolkflcaaGreatDoor
namespace Go.Proofs.YtplnijpolkflcaaGreatDoor
open Go.RowKit

set_option maxRecDepth 20000 in
set_option maxHeartbeats 1000000 in
theorem l6T_1 (fg fo fw fl fs ff ft : Int) (ao : Option Addr) (n c : Nat) (es : List Ev) (w : World) (hn : es.length = n) (h : ReadsE w ao es) (j : Nat) (hj : j < es.length) (hF : es[j] = ⟨1, fg, fo, fw, fl, fs, ff, ft⟩) :
    Calls Tryz.prog 163 #[.slice ao n c, .int .i64 j] w fun x w' => ∃ v, x = .returned v ∧ OwnG layT w' w.heap.size v [] ∧ Fr w w' := by
  subst hn
  have hl := h.len
  obtain ⟨fb, off, rfl, hev⟩ := h.at_ j hj
  have HJ := hev j hj
  rw [hF] at HJ
  obtain ⟨d0, d1, d2, d3, d4, d5, d6, d7⟩ := HJ
  simp only at d0 d1 d2 d3 d4 d5 d6 d7
  have hjn : (j : Int) < es.length := by omega
  clear hev hF h
  go_enter Tryz.func163, Tryz.ntmps163
  go_wp2_with fail
  go_ret
  refine ⟨.slice (some ⟨w.heap.size + 1 + 1 + 1 + 1, 0, none⟩) 0 0, rfl, ?_, ?_⟩
  · exact ownG_litK layT _ [] (by simp) _ rfl _ _ (by simp) (by omega)
  · exact ((((Fr.alloc _ _).trans (Fr.alloc _ _)).trans (Fr.alloc _ _)).trans (Fr.alloc _ _)).trans (Fr.alloc _ _)

set_option maxRecDepth 20000 in
set_option maxHeartbeats 1000000 in
theorem l6T_2 (fg fo fw fl fs ff ft : Int) (ao : Option Addr) (n c : Nat) (es : List Ev) (w : World) (hn : es.length = n) (h : ReadsE w ao es) (j : Nat) (hj : j < es.length) (hF : es[j] = ⟨2, fg, fo, fw, fl, fs, ff, ft⟩) :
    Calls Tryz.prog 163 #[.slice ao n c, .int .i64 j] w fun x w' => ∃ v, x = .returned v ∧ OwnG layT w' w.heap.size v [⟨1, fo, 0, true, false⟩, ⟨2, fo, 0, true, false⟩] ∧ Fr w w' := by
  subst hn
  have hl := h.len
  obtain ⟨fb, off, rfl, hev⟩ := h.at_ j hj
  have HJ := hev j hj
  rw [hF] at HJ
  obtain ⟨d0, d1, d2, d3, d4, d5, d6, d7⟩ := HJ
  simp only at d0 d1 d2 d3 d4 d5 d6 d7
  have hjn : (j : Int) < es.length := by omega
  clear hev hF h
  go_enter Tryz.func163, Tryz.ntmps163
  go_wp2_with fail
  go_ret
  refine ⟨.slice (some ⟨w.heap.size + 1 + 1 + 1 + 1 + 1, 0, none⟩) 2 2, rfl, ?_, ?_⟩
  · exact ownG_litK layT _ [⟨1, fo, 0, true, false⟩, ⟨2, fo, 0, true, false⟩] (by simp) _ rfl _ _ (by simp) (by omega)
  · exact (((((Fr.alloc _ _).trans (Fr.alloc _ _)).trans (Fr.alloc _ _)).trans (Fr.alloc _ _)).trans (Fr.alloc _ _)).trans (Fr.alloc _ _)

set_option maxRecDepth 20000 in
set_option maxHeartbeats 1000000 in
theorem l6T_3 (fg fo fw fl fs ff ft : Int) (ao : Option Addr) (n c : Nat) (es : List Ev) (w : World) (hn : es.length = n) (h : ReadsE w ao es) (j : Nat) (hj : j < es.length) (hF : es[j] = ⟨3, fg, fo, fw, fl, fs, ff, ft⟩) :
    Calls Tryz.prog 163 #[.slice ao n c, .int .i64 j] w fun x w' => ∃ v, x = .returned v ∧ OwnG layT w' w.heap.size v [⟨1, fo, 0, false, true⟩] ∧ Fr w w' := by
  subst hn
  have hl := h.len
  obtain ⟨fb, off, rfl, hev⟩ := h.at_ j hj
  have HJ := hev j hj
  rw [hF] at HJ
  obtain ⟨d0, d1, d2, d3, d4, d5, d6, d7⟩ := HJ
  simp only at d0 d1 d2 d3 d4 d5 d6 d7
  have hjn : (j : Int) < es.length := by omega
  clear hev hF h
  go_enter Tryz.func163, Tryz.ntmps163
  go_wp2_with fail
  go_ret
  refine ⟨.slice (some ⟨w.heap.size + 1 + 1 + 1 + 1, 0, none⟩) 1 1, rfl, ?_, ?_⟩
  · exact ownG_litK layT _ [⟨1, fo, 0, false, true⟩] (by simp) _ rfl _ _ (by simp) (by omega)
  · exact ((((Fr.alloc _ _).trans (Fr.alloc _ _)).trans (Fr.alloc _ _)).trans (Fr.alloc _ _)).trans (Fr.alloc _ _)

set_option maxRecDepth 20000 in
set_option maxHeartbeats 1000000 in
theorem l6T_4 (fg fo fw fl fs ff ft : Int) (ao : Option Addr) (n c : Nat) (es : List Ev) (w : World) (hn : es.length = n) (h : ReadsE w ao es) (j : Nat) (hj : j < es.length) (hF : es[j] = ⟨4, fg, fo, fw, fl, fs, ff, ft⟩) :
    Calls Tryz.prog 163 #[.slice ao n c, .int .i64 j] w fun x w' => ∃ v, x = .returned v ∧ OwnG layT w' w.heap.size v [⟨1, fo, 0, true, false⟩] ∧ Fr w w' := by
  subst hn
  have hl := h.len
  obtain ⟨fb, off, rfl, hev⟩ := h.at_ j hj
  have HJ := hev j hj
  rw [hF] at HJ
  obtain ⟨d0, d1, d2, d3, d4, d5, d6, d7⟩ := HJ
  simp only at d0 d1 d2 d3 d4 d5 d6 d7
  have hjn : (j : Int) < es.length := by omega
  clear hev hF h
  go_enter Tryz.func163, Tryz.ntmps163
  go_wp2_with fail
  go_ret
  refine ⟨.slice (some ⟨w.heap.size + 1 + 1 + 1 + 1, 0, none⟩) 1 1, rfl, ?_, ?_⟩
  · exact ownG_litK layT _ [⟨1, fo, 0, true, false⟩] (by simp) _ rfl _ _ (by simp) (by omega)
  · exact ((((Fr.alloc _ _).trans (Fr.alloc _ _)).trans (Fr.alloc _ _)).trans (Fr.alloc _ _)).trans (Fr.alloc _ _)

set_option maxRecDepth 20000 in
set_option maxHeartbeats 1000000 in
theorem l6T_5 (fg fo fw fl fs ff ft : Int) (ao : Option Addr) (n c : Nat) (es : List Ev) (w : World) (hn : es.length = n) (h : ReadsE w ao es) (j : Nat) (hj : j < es.length) (hF : es[j] = ⟨5, fg, fo, fw, fl, fs, ff, ft⟩) :
    Calls Tryz.prog 163 #[.slice ao n c, .int .i64 j] w fun x w' => ∃ v, x = .returned v ∧ OwnG layT w' w.heap.size v [⟨2, fo, 0, false, true⟩] ∧ Fr w w' := by
  subst hn
  have hl := h.len
  obtain ⟨fb, off, rfl, hev⟩ := h.at_ j hj
  have HJ := hev j hj
  rw [hF] at HJ
  obtain ⟨d0, d1, d2, d3, d4, d5, d6, d7⟩ := HJ
  simp only at d0 d1 d2 d3 d4 d5 d6 d7
  have hjn : (j : Int) < es.length := by omega
  clear hev hF h
  go_enter Tryz.func163, Tryz.ntmps163
  go_wp2_with fail
  go_ret
  refine ⟨.slice (some ⟨w.heap.size + 1 + 1 + 1 + 1, 0, none⟩) 1 1, rfl, ?_, ?_⟩
  · exact ownG_litK layT _ [⟨2, fo, 0, false, true⟩] (by simp) _ rfl _ _ (by simp) (by omega)
  · exact ((((Fr.alloc _ _).trans (Fr.alloc _ _)).trans (Fr.alloc _ _)).trans (Fr.alloc _ _)).trans (Fr.alloc _ _)

set_option maxRecDepth 20000 in
set_option maxHeartbeats 1000000 in
theorem l6T_6 (fg fo fw fl fs ff ft : Int) (ao : Option Addr) (n c : Nat) (es : List Ev) (w : World) (hn : es.length = n) (h : ReadsE w ao es) (j : Nat) (hj : j < es.length) (hF : es[j] = ⟨6, fg, fo, fw, fl, fs, ff, ft⟩) :
    Calls Tryz.prog 163 #[.slice ao n c, .int .i64 j] w fun x w' => ∃ v, x = .returned v ∧ OwnG layT w' w.heap.size v [] ∧ Fr w w' := by
  subst hn
  have hl := h.len
  obtain ⟨fb, off, rfl, hev⟩ := h.at_ j hj
  have HJ := hev j hj
  rw [hF] at HJ
  obtain ⟨d0, d1, d2, d3, d4, d5, d6, d7⟩ := HJ
  simp only at d0 d1 d2 d3 d4 d5 d6 d7
  have hjn : (j : Int) < es.length := by omega
  clear hev hF h
  go_enter Tryz.func163, Tryz.ntmps163
  go_wp2_with fail
  go_ret
  refine ⟨.slice (some ⟨w.heap.size + 1 + 1 + 1 + 1, 0, none⟩) 0 0, rfl, ?_, ?_⟩
  · exact ownG_litK layT _ [] (by simp) _ rfl _ _ (by simp) (by omega)
  · exact ((((Fr.alloc _ _).trans (Fr.alloc _ _)).trans (Fr.alloc _ _)).trans (Fr.alloc _ _)).trans (Fr.alloc _ _)
end Go.Proofs.YtplnijpolkflcaaGreatDoor
namespace Go.Proofs.YtplnijpolkflcaaGreatDoor
open Go.RowKit

set_option maxRecDepth 20000 in
set_option maxHeartbeats 1000000 in
theorem l6T_9 (fg fo fw fl fs ff ft : Int) (ao : Option Addr) (n c : Nat) (es : List Ev) (w : World) (hn : es.length = n) (h : ReadsE w ao es) (j : Nat) (hj : j < es.length) (hF : es[j] = ⟨9, fg, fo, fw, fl, fs, ff, ft⟩) :
    Calls Tryz.prog 163 #[.slice ao n c, .int .i64 j] w fun x w' => ∃ v, x = .returned v ∧ OwnG layT w' w.heap.size v [] ∧ Fr w w' := by
  subst hn
  have hl := h.len
  obtain ⟨fb, off, rfl, hev⟩ := h.at_ j hj
  have HJ := hev j hj
  rw [hF] at HJ
  obtain ⟨d0, d1, d2, d3, d4, d5, d6, d7⟩ := HJ
  simp only at d0 d1 d2 d3 d4 d5 d6 d7
  have hjn : (j : Int) < es.length := by omega
  clear hev hF h
  go_enter Tryz.func163, Tryz.ntmps163
  go_wp2_with fail
  go_ret
  refine ⟨.slice (some ⟨w.heap.size + 1 + 1 + 1 + 1, 0, none⟩) 0 0, rfl, ?_, ?_⟩
  · exact ownG_litK layT _ [] (by simp) _ rfl _ _ (by simp) (by omega)
  · exact ((((Fr.alloc _ _).trans (Fr.alloc _ _)).trans (Fr.alloc _ _)).trans (Fr.alloc _ _)).trans (Fr.alloc _ _)

set_option maxRecDepth 20000 in
set_option maxHeartbeats 1000000 in
theorem l6T_10 (fg fo fw fl fs ff ft : Int) (ao : Option Addr) (n c : Nat) (es : List Ev) (w : World) (hn : es.length = n) (h : ReadsE w ao es) (j : Nat) (hj : j < es.length) (hF : es[j] = ⟨10, fg, fo, fw, fl, fs, ff, ft⟩) :
    Calls Tryz.prog 163 #[.slice ao n c, .int .i64 j] w fun x w' => ∃ v, x = .returned v ∧ OwnG layT w' w.heap.size v [⟨4, fo, 0, false, true⟩] ∧ Fr w w' := by
  subst hn
  have hl := h.len
  obtain ⟨fb, off, rfl, hev⟩ := h.at_ j hj
  have HJ := hev j hj
  rw [hF] at HJ
  obtain ⟨d0, d1, d2, d3, d4, d5, d6, d7⟩ := HJ
  simp only at d0 d1 d2 d3 d4 d5 d6 d7
  have hjn : (j : Int) < es.length := by omega
  clear hev hF h
  go_enter Tryz.func163, Tryz.ntmps163
  go_wp2_with fail
  go_ret
  refine ⟨.slice (some ⟨w.heap.size + 1 + 1 + 1 + 1, 0, none⟩) 1 1, rfl, ?_, ?_⟩
  · exact ownG_litK layT _ [⟨4, fo, 0, false, true⟩] (by simp) _ rfl _ _ (by simp) (by omega)
  · exact ((((Fr.alloc _ _).trans (Fr.alloc _ _)).trans (Fr.alloc _ _)).trans (Fr.alloc _ _)).trans (Fr.alloc _ _)

set_option maxRecDepth 20000 in
set_option maxHeartbeats 1000000 in
theorem l6T_11 (fg fo fw fl fs ff ft : Int) (ao : Option Addr) (n c : Nat) (es : List Ev) (w : World) (hn : es.length = n) (h : ReadsE w ao es) (j : Nat) (hj : j < es.length) (hF : es[j] = ⟨11, fg, fo, fw, fl, fs, ff, ft⟩) :
    Calls Tryz.prog 163 #[.slice ao n c, .int .i64 j] w fun x w' => ∃ v, x = .returned v ∧ OwnG layT w' w.heap.size v [⟨4, fo, 0, true, false⟩] ∧ Fr w w' := by
  subst hn
  have hl := h.len
  obtain ⟨fb, off, rfl, hev⟩ := h.at_ j hj
  have HJ := hev j hj
  rw [hF] at HJ
  obtain ⟨d0, d1, d2, d3, d4, d5, d6, d7⟩ := HJ
  simp only at d0 d1 d2 d3 d4 d5 d6 d7
  have hjn : (j : Int) < es.length := by omega
  clear hev hF h
  go_enter Tryz.func163, Tryz.ntmps163
  go_wp2_with fail
  go_ret
  refine ⟨.slice (some ⟨w.heap.size + 1 + 1 + 1 + 1, 0, none⟩) 1 1, rfl, ?_, ?_⟩
  · exact ownG_litK layT _ [⟨4, fo, 0, true, false⟩] (by simp) _ rfl _ _ (by simp) (by omega)
  · exact ((((Fr.alloc _ _).trans (Fr.alloc _ _)).trans (Fr.alloc _ _)).trans (Fr.alloc _ _)).trans (Fr.alloc _ _)

set_option maxRecDepth 20000 in
set_option maxHeartbeats 1000000 in
theorem l6T_12 (fg fo fw fl fs ff ft : Int) (ao : Option Addr) (n c : Nat) (es : List Ev) (w : World) (hn : es.length = n) (h : ReadsE w ao es) (j : Nat) (hj : j < es.length) (hF : es[j] = ⟨12, fg, fo, fw, fl, fs, ff, ft⟩) :
    Calls Tryz.prog 163 #[.slice ao n c, .int .i64 j] w fun x w' => ∃ v, x = .returned v ∧ OwnG layT w' w.heap.size v [] ∧ Fr w w' := by
  subst hn
  have hl := h.len
  obtain ⟨fb, off, rfl, hev⟩ := h.at_ j hj
  have HJ := hev j hj
  rw [hF] at HJ
  obtain ⟨d0, d1, d2, d3, d4, d5, d6, d7⟩ := HJ
  simp only at d0 d1 d2 d3 d4 d5 d6 d7
  have hjn : (j : Int) < es.length := by omega
  clear hev hF h
  go_enter Tryz.func163, Tryz.ntmps163
  go_wp2_with fail
  go_ret
  refine ⟨.slice (some ⟨w.heap.size + 1 + 1 + 1 + 1, 0, none⟩) 0 0, rfl, ?_, ?_⟩
  · exact ownG_litK layT _ [] (by simp) _ rfl _ _ (by simp) (by omega)
  · exact ((((Fr.alloc _ _).trans (Fr.alloc _ _)).trans (Fr.alloc _ _)).trans (Fr.alloc _ _)).trans (Fr.alloc _ _)

set_option maxRecDepth 20000 in
set_option maxHeartbeats 1000000 in
theorem l6T_13 (fg fo fw fl fs ff ft : Int) (ao : Option Addr) (n c : Nat) (es : List Ev) (w : World) (hn : es.length = n) (h : ReadsE w ao es) (j : Nat) (hj : j < es.length) (hF : es[j] = ⟨13, fg, fo, fw, fl, fs, ff, ft⟩) :
    Calls Tryz.prog 163 #[.slice ao n c, .int .i64 j] w fun x w' => ∃ v, x = .returned v ∧ OwnG layT w' w.heap.size v [⟨5, fo, 0, false, true⟩] ∧ Fr w w' := by
  subst hn
  have hl := h.len
  obtain ⟨fb, off, rfl, hev⟩ := h.at_ j hj
  have HJ := hev j hj
  rw [hF] at HJ
  obtain ⟨d0, d1, d2, d3, d4, d5, d6, d7⟩ := HJ
  simp only at d0 d1 d2 d3 d4 d5 d6 d7
  have hjn : (j : Int) < es.length := by omega
  clear hev hF h
  go_enter Tryz.func163, Tryz.ntmps163
  go_wp2_with fail
  go_ret
  refine ⟨.slice (some ⟨w.heap.size + 1 + 1 + 1 + 1, 0, none⟩) 1 1, rfl, ?_, ?_⟩
  · exact ownG_litK layT _ [⟨5, fo, 0, false, true⟩] (by simp) _ rfl _ _ (by simp) (by omega)
  · exact ((((Fr.alloc _ _).trans (Fr.alloc _ _)).trans (Fr.alloc _ _)).trans (Fr.alloc _ _)).trans (Fr.alloc _ _)

set_option maxRecDepth 20000 in
set_option maxHeartbeats 1000000 in
theorem l6T_14 (fg fo fw fl fs ff ft : Int) (ao : Option Addr) (n c : Nat) (es : List Ev) (w : World) (hn : es.length = n) (h : ReadsE w ao es) (j : Nat) (hj : j < es.length) (hF : es[j] = ⟨14, fg, fo, fw, fl, fs, ff, ft⟩) :
    Calls Tryz.prog 163 #[.slice ao n c, .int .i64 j] w fun x w' => ∃ v, x = .returned v ∧ OwnG layT w' w.heap.size v [⟨5, fo, 0, true, false⟩] ∧ Fr w w' := by
  subst hn
  have hl := h.len
  obtain ⟨fb, off, rfl, hev⟩ := h.at_ j hj
  have HJ := hev j hj
  rw [hF] at HJ
  obtain ⟨d0, d1, d2, d3, d4, d5, d6, d7⟩ := HJ
  simp only at d0 d1 d2 d3 d4 d5 d6 d7
  have hjn : (j : Int) < es.length := by omega
  clear hev hF h
  go_enter Tryz.func163, Tryz.ntmps163
  go_wp2_with fail
  go_ret
  refine ⟨.slice (some ⟨w.heap.size + 1 + 1 + 1 + 1, 0, none⟩) 1 1, rfl, ?_, ?_⟩
  · exact ownG_litK layT _ [⟨5, fo, 0, true, false⟩] (by simp) _ rfl _ _ (by simp) (by omega)
  · exact ((((Fr.alloc _ _).trans (Fr.alloc _ _)).trans (Fr.alloc _ _)).trans (Fr.alloc _ _)).trans (Fr.alloc _ _)

set_option maxRecDepth 20000 in
set_option maxHeartbeats 1000000 in
theorem l6T_15 (fg fo fw fl fs ff ft : Int) (ao : Option Addr) (n c : Nat) (es : List Ev) (w : World) (hn : es.length = n) (h : ReadsE w ao es) (j : Nat) (hj : j < es.length) (hF : es[j] = ⟨15, fg, fo, fw, fl, fs, ff, ft⟩) :
    Calls Tryz.prog 163 #[.slice ao n c, .int .i64 j] w fun x w' => ∃ v, x = .returned v ∧ OwnG layT w' w.heap.size v [⟨6, fo, 0, false, true⟩] ∧ Fr w w' := by
  subst hn
  have hl := h.len
  obtain ⟨fb, off, rfl, hev⟩ := h.at_ j hj
  have HJ := hev j hj
  rw [hF] at HJ
  obtain ⟨d0, d1, d2, d3, d4, d5, d6, d7⟩ := HJ
  simp only at d0 d1 d2 d3 d4 d5 d6 d7
  have hjn : (j : Int) < es.length := by omega
  clear hev hF h
  go_enter Tryz.func163, Tryz.ntmps163
  go_wp2_with fail
  go_ret
  refine ⟨.slice (some ⟨w.heap.size + 1 + 1 + 1 + 1, 0, none⟩) 1 1, rfl, ?_, ?_⟩
  · exact ownG_litK layT _ [⟨6, fo, 0, false, true⟩] (by simp) _ rfl _ _ (by simp) (by omega)
  · exact ((((Fr.alloc _ _).trans (Fr.alloc _ _)).trans (Fr.alloc _ _)).trans (Fr.alloc _ _)).trans (Fr.alloc _ _)
end Go.Proofs.YtplnijpolkflcaaGreatDoor
namespace Go.Proofs.YtplnijpolkflcaaGreatDoor
open Go.RowKit

set_option maxRecDepth 20000 in
set_option maxHeartbeats 1000000 in
theorem l6T_16 (fg fo fw fl fs ff ft : Int) (ao : Option Addr) (n c : Nat) (es : List Ev) (w : World) (hn : es.length = n) (h : ReadsE w ao es) (j : Nat) (hj : j < es.length) (hF : es[j] = ⟨16, fg, fo, fw, fl, fs, ff, ft⟩) :
    Calls Tryz.prog 163 #[.slice ao n c, .int .i64 j] w fun x w' => ∃ v, x = .returned v ∧ OwnG layT w' w.heap.size v [⟨6, fo, 0, true, false⟩] ∧ Fr w w' := by
  subst hn
  have hl := h.len
  obtain ⟨fb, off, rfl, hev⟩ := h.at_ j hj
  have HJ := hev j hj
  rw [hF] at HJ
  obtain ⟨d0, d1, d2, d3, d4, d5, d6, d7⟩ := HJ
  simp only at d0 d1 d2 d3 d4 d5 d6 d7
  have hjn : (j : Int) < es.length := by omega
  clear hev hF h
  go_enter Tryz.func163, Tryz.ntmps163
  go_wp2_with fail
  go_ret
  refine ⟨.slice (some ⟨w.heap.size + 1 + 1 + 1 + 1, 0, none⟩) 1 1, rfl, ?_, ?_⟩
  · exact ownG_litK layT _ [⟨6, fo, 0, true, false⟩] (by simp) _ rfl _ _ (by simp) (by omega)
  · exact ((((Fr.alloc _ _).trans (Fr.alloc _ _)).trans (Fr.alloc _ _)).trans (Fr.alloc _ _)).trans (Fr.alloc _ _)

set_option maxRecDepth 20000 in
set_option maxHeartbeats 1000000 in
theorem l6T_17 (fg fo fw fl fs ff ft : Int) (ao : Option Addr) (n c : Nat) (es : List Ev) (w : World) (hn : es.length = n) (h : ReadsE w ao es) (j : Nat) (hj : j < es.length) (hF : es[j] = ⟨17, fg, fo, fw, fl, fs, ff, ft⟩) :
    Calls Tryz.prog 163 #[.slice ao n c, .int .i64 j] w fun x w' => ∃ v, x = .returned v ∧ OwnG layT w' w.heap.size v [⟨7, fo, 0, true, false⟩] ∧ Fr w w' := by
  subst hn
  have hl := h.len
  obtain ⟨fb, off, rfl, hev⟩ := h.at_ j hj
  have HJ := hev j hj
  rw [hF] at HJ
  obtain ⟨d0, d1, d2, d3, d4, d5, d6, d7⟩ := HJ
  simp only at d0 d1 d2 d3 d4 d5 d6 d7
  have hjn : (j : Int) < es.length := by omega
  clear hev hF h
  go_enter Tryz.func163, Tryz.ntmps163
  go_wp2_with fail
  go_ret
  refine ⟨.slice (some ⟨w.heap.size + 1 + 1 + 1 + 1, 0, none⟩) 1 1, rfl, ?_, ?_⟩
  · exact ownG_litK layT _ [⟨7, fo, 0, true, false⟩] (by simp) _ rfl _ _ (by simp) (by omega)
  · exact ((((Fr.alloc _ _).trans (Fr.alloc _ _)).trans (Fr.alloc _ _)).trans (Fr.alloc _ _)).trans (Fr.alloc _ _)

set_option maxRecDepth 20000 in
set_option maxHeartbeats 1000000 in
theorem l6T_18 (fg fo fw fl fs ff ft : Int) (ao : Option Addr) (n c : Nat) (es : List Ev) (w : World) (hn : es.length = n) (h : ReadsE w ao es) (j : Nat) (hj : j < es.length) (hF : es[j] = ⟨18, fg, fo, fw, fl, fs, ff, ft⟩) :
    Calls Tryz.prog 163 #[.slice ao n c, .int .i64 j] w fun x w' => ∃ v, x = .returned v ∧ OwnG layT w' w.heap.size v [⟨7, fo, 0, false, true⟩] ∧ Fr w w' := by
  subst hn
  have hl := h.len
  obtain ⟨fb, off, rfl, hev⟩ := h.at_ j hj
  have HJ := hev j hj
  rw [hF] at HJ
  obtain ⟨d0, d1, d2, d3, d4, d5, d6, d7⟩ := HJ
  simp only at d0 d1 d2 d3 d4 d5 d6 d7
  have hjn : (j : Int) < es.length := by omega
  clear hev hF h
  go_enter Tryz.func163, Tryz.ntmps163
  go_wp2_with fail
  go_ret
  refine ⟨.slice (some ⟨w.heap.size + 1 + 1 + 1 + 1, 0, none⟩) 1 1, rfl, ?_, ?_⟩
  · exact ownG_litK layT _ [⟨7, fo, 0, false, true⟩] (by simp) _ rfl _ _ (by simp) (by omega)
  · exact ((((Fr.alloc _ _).trans (Fr.alloc _ _)).trans (Fr.alloc _ _)).trans (Fr.alloc _ _)).trans (Fr.alloc _ _)

set_option maxRecDepth 20000 in
set_option maxHeartbeats 1000000 in
theorem l6T_19 (fg fo fw fl fs ff ft : Int) (ao : Option Addr) (n c : Nat) (es : List Ev) (w : World) (hn : es.length = n) (h : ReadsE w ao es) (j : Nat) (hj : j < es.length) (hF : es[j] = ⟨19, fg, fo, fw, fl, fs, ff, ft⟩) :
    Calls Tryz.prog 163 #[.slice ao n c, .int .i64 j] w fun x w' => ∃ v, x = .returned v ∧ OwnG layT w' w.heap.size v [⟨7, fo, 0, true, true⟩] ∧ Fr w w' := by
  subst hn
  have hl := h.len
  obtain ⟨fb, off, rfl, hev⟩ := h.at_ j hj
  have HJ := hev j hj
  rw [hF] at HJ
  obtain ⟨d0, d1, d2, d3, d4, d5, d6, d7⟩ := HJ
  simp only at d0 d1 d2 d3 d4 d5 d6 d7
  have hjn : (j : Int) < es.length := by omega
  clear hev hF h
  go_enter Tryz.func163, Tryz.ntmps163
  go_wp2_with fail
  go_ret
  refine ⟨.slice (some ⟨w.heap.size + 1 + 1 + 1 + 1, 0, none⟩) 1 1, rfl, ?_, ?_⟩
  · exact ownG_litK layT _ [⟨7, fo, 0, true, true⟩] (by simp) _ rfl _ _ (by simp) (by omega)
  · exact ((((Fr.alloc _ _).trans (Fr.alloc _ _)).trans (Fr.alloc _ _)).trans (Fr.alloc _ _)).trans (Fr.alloc _ _)

set_option maxRecDepth 20000 in
set_option maxHeartbeats 1000000 in
theorem l6T_20 (fg fo fw fl fs ff ft : Int) (ao : Option Addr) (n c : Nat) (es : List Ev) (w : World) (hn : es.length = n) (h : ReadsE w ao es) (j : Nat) (hj : j < es.length) (hF : es[j] = ⟨20, fg, fo, fw, fl, fs, ff, ft⟩) :
    Calls Tryz.prog 163 #[.slice ao n c, .int .i64 j] w fun x w' => ∃ v, x = .returned v ∧ OwnG layT w' w.heap.size v [] ∧ Fr w w' := by
  subst hn
  have hl := h.len
  obtain ⟨fb, off, rfl, hev⟩ := h.at_ j hj
  have HJ := hev j hj
  rw [hF] at HJ
  obtain ⟨d0, d1, d2, d3, d4, d5, d6, d7⟩ := HJ
  simp only at d0 d1 d2 d3 d4 d5 d6 d7
  have hjn : (j : Int) < es.length := by omega
  clear hev hF h
  go_enter Tryz.func163, Tryz.ntmps163
  go_wp2_with fail
  go_ret
  refine ⟨.slice (some ⟨w.heap.size + 1 + 1 + 1 + 1, 0, none⟩) 0 0, rfl, ?_, ?_⟩
  · exact ownG_litK layT _ [] (by simp) _ rfl _ _ (by simp) (by omega)
  · exact ((((Fr.alloc _ _).trans (Fr.alloc _ _)).trans (Fr.alloc _ _)).trans (Fr.alloc _ _)).trans (Fr.alloc _ _)

set_option maxRecDepth 20000 in
set_option maxHeartbeats 1000000 in
theorem l6T_21 (fg fo fw fl fs ff ft : Int) (ao : Option Addr) (n c : Nat) (es : List Ev) (w : World) (hn : es.length = n) (h : ReadsE w ao es) (j : Nat) (hj : j < es.length) (hF : es[j] = ⟨21, fg, fo, fw, fl, fs, ff, ft⟩) :
    Calls Tryz.prog 163 #[.slice ao n c, .int .i64 j] w fun x w' => ∃ v, x = .returned v ∧ OwnG layT w' w.heap.size v [] ∧ Fr w w' := by
  subst hn
  have hl := h.len
  obtain ⟨fb, off, rfl, hev⟩ := h.at_ j hj
  have HJ := hev j hj
  rw [hF] at HJ
  obtain ⟨d0, d1, d2, d3, d4, d5, d6, d7⟩ := HJ
  simp only at d0 d1 d2 d3 d4 d5 d6 d7
  have hjn : (j : Int) < es.length := by omega
  clear hev hF h
  go_enter Tryz.func163, Tryz.ntmps163
  go_wp2_with fail
  go_ret
  refine ⟨.slice (some ⟨w.heap.size + 1 + 1 + 1 + 1, 0, none⟩) 0 0, rfl, ?_, ?_⟩
  · exact ownG_litK layT _ [] (by simp) _ rfl _ _ (by simp) (by omega)
  · exact ((((Fr.alloc _ _).trans (Fr.alloc _ _)).trans (Fr.alloc _ _)).trans (Fr.alloc _ _)).trans (Fr.alloc _ _)

set_option maxRecDepth 20000 in
set_option maxHeartbeats 1000000 in
theorem l6T_22 (fg fo fw fl fs ff ft : Int) (ao : Option Addr) (n c : Nat) (es : List Ev) (w : World) (hn : es.length = n) (h : ReadsE w ao es) (j : Nat) (hj : j < es.length) (hF : es[j] = ⟨22, fg, fo, fw, fl, fs, ff, ft⟩) :
    Calls Tryz.prog 163 #[.slice ao n c, .int .i64 j] w fun x w' => ∃ v, x = .returned v ∧ OwnG layT w' w.heap.size v [] ∧ Fr w w' := by
  subst hn
  have hl := h.len
  obtain ⟨fb, off, rfl, hev⟩ := h.at_ j hj
  have HJ := hev j hj
  rw [hF] at HJ
  obtain ⟨d0, d1, d2, d3, d4, d5, d6, d7⟩ := HJ
  simp only at d0 d1 d2 d3 d4 d5 d6 d7
  have hjn : (j : Int) < es.length := by omega
  clear hev hF h
  go_enter Tryz.func163, Tryz.ntmps163
  go_wp2_with fail
  go_ret
  refine ⟨.slice (some ⟨w.heap.size + 1 + 1 + 1 + 1, 0, none⟩) 0 0, rfl, ?_, ?_⟩
  · exact ownG_litK layT _ [] (by simp) _ rfl _ _ (by simp) (by omega)
  · exact ((((Fr.alloc _ _).trans (Fr.alloc _ _)).trans (Fr.alloc _ _)).trans (Fr.alloc _ _)).trans (Fr.alloc _ _)
end Go.Proofs.YtplnijpolkflcaaGreatDoor
namespace Go.Proofs.YtplnijpolkflcaaGreatDoor
open Go.RowKit

def TchK (w : World) (b : Nat) (c : Tch) : Prop := w.heap[b]? = some (.cells #[.int .i64 c.sp, .int .i64 c.ob, .int .i64 c.sl, .bool c.tk, .bool c.gv] 225 (0, 0))
theorem TchK.lt {w : World} {b : Nat} {c : Tch} (h : TchK w b c) : b < w.heap.size := (Array.getElem?_eq_some_iff.1 h).1
theorem TchK.fr {w w' : World} {b : Nat} {c : Tch} (h : TchK w b c) (k : Fr w w') : TchK w' b c := (k.block b h.lt (by simp)).trans h
theorem TchK.free {w : World} {b : Nat} {c : Tch} (h : TchK w b c) (i : Nat) : w.frozen? ⟨b, i, none⟩ = false := frozen_of_row w b i _ _ h
theorem TchK.at {w : World} {b : Nat} {c : Tch} (h : TchK w b c) : w.cell? ⟨b, 0, none⟩ = some (.int .i64 c.sp) ∧ w.cell? ⟨b, 1, none⟩ = some (.int .i64 c.ob) ∧ w.cell? ⟨b, 2, none⟩ = some (.int .i64 c.sl) ∧ w.cell? ⟨b, 3, none⟩ = some (.bool c.tk) ∧ w.cell? ⟨b, 4, none⟩ = some (.bool c.gv) :=
  ⟨cell_of_row w b 0 _ _ _ h, cell_of_row w b 1 _ _ _ h, cell_of_row w b 2 _ _ _ h, cell_of_row w b 3 _ _ _ h, cell_of_row w b 4 _ _ _ h⟩

set_option maxRecDepth 20000 in
set_option maxHeartbeats 1000000 in
theorem l6T_7 (fg fo fw fl fs ff ft : Int) (ao : Option Addr) (n c : Nat) (es : List Ev) (w : World) (hn : es.length = n) (h : ReadsE w ao es) (j : Nat) (hj : j < es.length) (hF : es[j] = ⟨7, fg, fo, fw, fl, fs, ff, ft⟩) (hr : capK es[j].o (es.take j) ≠ 0) :
    Calls Tryz.prog 163 #[.slice ao n c, .int .i64 j] w fun x w' => ∃ v, x = .returned v ∧ OwnG layT w' w.heap.size v [⟨3, fo, slotE (es.take j) es[j], true, true⟩] ∧ Fr w w' := by
  have cS := fun u (f : Fr w u) => l6Slot_any ao n c es u hn (h.fr f) j hj hr
  obtain ⟨Z, hZ⟩ : ∃ Z, Z = slotE (es.take j) es[j] := ⟨_, rfl⟩
  simp only [← hZ] at cS ⊢
  clear hZ hr
  subst hn
  have hl := h.len
  obtain ⟨fb, off, rfl, hev⟩ := h.at_ j hj
  have HJ := hev j hj
  rw [hF] at HJ
  obtain ⟨d0, d1, d2, d3, d4, d5, d6, d7⟩ := HJ
  simp only at d0 d1 d2 d3 d4 d5 d6 d7
  have hjn : (j : Int) < es.length := by omega
  clear hev hF h
  have f1 : Fr w ((((w.alloc (.cells #[.int .i64 7, .int .i64 fg, .int .i64 fo, .int .i64 fw, .int .i64 fl, .int .i64 fs, .int .i64 ff, .int .i64 ft] 31)).alloc (.cells #[.int .i64 0, .int .i64 fo, .int .i64 0, .bool true, .bool false] 225)).alloc (.cells #[.int .i64 0, .int .i64 fo, .int .i64 0, .bool false, .bool true] 225)).alloc (.cells #[.int .i64 3, .int .i64 fo, .int .i64 0, .bool true, .bool true] 225)) := (((Fr.alloc _ _).trans (Fr.alloc _ _)).trans (Fr.alloc _ _)).trans (Fr.alloc _ _)
  have hK : TchK ((((w.alloc (.cells #[.int .i64 7, .int .i64 fg, .int .i64 fo, .int .i64 fw, .int .i64 fl, .int .i64 fs, .int .i64 ff, .int .i64 ft] 31)).alloc (.cells #[.int .i64 0, .int .i64 fo, .int .i64 0, .bool true, .bool false] 225)).alloc (.cells #[.int .i64 0, .int .i64 fo, .int .i64 0, .bool false, .bool true] 225)).alloc (.cells #[.int .i64 3, .int .i64 fo, .int .i64 0, .bool true, .bool true] 225)) (w.heap.size + 1 + 1 + 1) ⟨3, fo, 0, true, true⟩ := by
    have := heap_alloc_new (((w.alloc (.cells #[.int .i64 7, .int .i64 fg, .int .i64 fo, .int .i64 fw, .int .i64 fl, .int .i64 fs, .int .i64 ff, .int .i64 ft] 31)).alloc (.cells #[.int .i64 0, .int .i64 fo, .int .i64 0, .bool true, .bool false] 225)).alloc (.cells #[.int .i64 0, .int .i64 fo, .int .i64 0, .bool false, .bool true] 225)) (.cells #[.int .i64 3, .int .i64 fo, .int .i64 0, .bool true, .bool true] 225)
    simpa [TchK] using this
  go_enter Tryz.func163, Tryz.ntmps163
  go_wp2_with fail
  refine (cS _ f1).mono ?_
  rintro x u2 ⟨rfl, f2⟩
  have hK2 := hK.fr f2
  obtain ⟨t0, t1, t2, t3, t4⟩ := hK2.at
  simp only at t0 t1 t2 t3 t4
  have tf := hK2.free 2
  have F2 := f1.trans f2
  have sz := f2.size
  simp at sz
  go_wp2_with fail
  go_ret
  refine ⟨.slice (some ⟨u2.heap.size, 0, none⟩) 1 1, rfl, ?_, ?_⟩
  · exact ownG_litK layT _ [⟨3, fo, Z, true, true⟩] (by simp) _ rfl _ _ (by simp) (by omega)
  · exact (F2.then (grown_set u2 (w.heap.size + 1 + 1 + 1) 2 (.int .i64 Z)) (fun j hj => by simp only [Option.some.injEq] at hj; omega)).trans (Fr.alloc _ _)

set_option maxRecDepth 20000 in
set_option maxHeartbeats 1000000 in
theorem l6T_8 (fg fo fw fl fs ff ft : Int) (ao : Option Addr) (n c : Nat) (es : List Ev) (w : World) (hn : es.length = n) (h : ReadsE w ao es) (j : Nat) (hj : j < es.length) (hF : es[j] = ⟨8, fg, fo, fw, fl, fs, ff, ft⟩) (hr : capK es[j].o (es.take j) ≠ 0) :
    Calls Tryz.prog 163 #[.slice ao n c, .int .i64 j] w fun x w' => ∃ v, x = .returned v ∧ OwnG layT w' w.heap.size v [⟨3, fo, slotE (es.take j) es[j], true, true⟩] ∧ Fr w w' := by
  have cS := fun u (f : Fr w u) => l6Slot_any ao n c es u hn (h.fr f) j hj hr
  obtain ⟨Z, hZ⟩ : ∃ Z, Z = slotE (es.take j) es[j] := ⟨_, rfl⟩
  simp only [← hZ] at cS ⊢
  clear hZ hr
  subst hn
  have hl := h.len
  obtain ⟨fb, off, rfl, hev⟩ := h.at_ j hj
  have HJ := hev j hj
  rw [hF] at HJ
  obtain ⟨d0, d1, d2, d3, d4, d5, d6, d7⟩ := HJ
  simp only at d0 d1 d2 d3 d4 d5 d6 d7
  have hjn : (j : Int) < es.length := by omega
  clear hev hF h
  have f1 : Fr w ((((w.alloc (.cells #[.int .i64 8, .int .i64 fg, .int .i64 fo, .int .i64 fw, .int .i64 fl, .int .i64 fs, .int .i64 ff, .int .i64 ft] 31)).alloc (.cells #[.int .i64 0, .int .i64 fo, .int .i64 0, .bool true, .bool false] 225)).alloc (.cells #[.int .i64 0, .int .i64 fo, .int .i64 0, .bool false, .bool true] 225)).alloc (.cells #[.int .i64 3, .int .i64 fo, .int .i64 0, .bool true, .bool true] 225)) := (((Fr.alloc _ _).trans (Fr.alloc _ _)).trans (Fr.alloc _ _)).trans (Fr.alloc _ _)
  have hK : TchK ((((w.alloc (.cells #[.int .i64 8, .int .i64 fg, .int .i64 fo, .int .i64 fw, .int .i64 fl, .int .i64 fs, .int .i64 ff, .int .i64 ft] 31)).alloc (.cells #[.int .i64 0, .int .i64 fo, .int .i64 0, .bool true, .bool false] 225)).alloc (.cells #[.int .i64 0, .int .i64 fo, .int .i64 0, .bool false, .bool true] 225)).alloc (.cells #[.int .i64 3, .int .i64 fo, .int .i64 0, .bool true, .bool true] 225)) (w.heap.size + 1 + 1 + 1) ⟨3, fo, 0, true, true⟩ := by
    have := heap_alloc_new (((w.alloc (.cells #[.int .i64 8, .int .i64 fg, .int .i64 fo, .int .i64 fw, .int .i64 fl, .int .i64 fs, .int .i64 ff, .int .i64 ft] 31)).alloc (.cells #[.int .i64 0, .int .i64 fo, .int .i64 0, .bool true, .bool false] 225)).alloc (.cells #[.int .i64 0, .int .i64 fo, .int .i64 0, .bool false, .bool true] 225)) (.cells #[.int .i64 3, .int .i64 fo, .int .i64 0, .bool true, .bool true] 225)
    simpa [TchK] using this
  go_enter Tryz.func163, Tryz.ntmps163
  go_wp2_with fail
  refine (cS _ f1).mono ?_
  rintro x u2 ⟨rfl, f2⟩
  have hK2 := hK.fr f2
  obtain ⟨t0, t1, t2, t3, t4⟩ := hK2.at
  simp only at t0 t1 t2 t3 t4
  have tf := hK2.free 2
  have F2 := f1.trans f2
  have sz := f2.size
  simp at sz
  go_wp2_with fail
  go_ret
  refine ⟨.slice (some ⟨u2.heap.size, 0, none⟩) 1 1, rfl, ?_, ?_⟩
  · exact ownG_litK layT _ [⟨3, fo, Z, true, true⟩] (by simp) _ rfl _ _ (by simp) (by omega)
  · exact (F2.then (grown_set u2 (w.heap.size + 1 + 1 + 1) 2 (.int .i64 Z)) (fun j hj => by simp only [Option.some.injEq] at hj; omega)).trans (Fr.alloc _ _)
end Go.Proofs.YtplnijpolkflcaaGreatDoor
