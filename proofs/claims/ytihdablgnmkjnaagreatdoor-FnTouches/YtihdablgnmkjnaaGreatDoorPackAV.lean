/-
  The specification's touches, kind by kind (9, 10, 11, 12, 13, 14, 15).
-/
import Derived.Test.YtihdablgnmkjnaaGreatDoorPackAU
import Derived.Test.YtihdablgnmkjnaaGreatDoorPackAD
import Derived.Test.YtihdablgnmkjnaaGreatDoorPackAL
import Derived.Test.YtihdablgnmkjnaaGreatDoorPackAC
import Derived.Deep.CutBlock
namespace Go.Proofs.YtihdablgnmkjnaaGreatDoor
open Go.RowKit

set_option maxRecDepth 20000 in
set_option maxHeartbeats 1000000 in
theorem l6T_9 (fg fo fw fl fs ff ft : Int) (ao : Option Addr) (n c : Nat) (es : List Ev) (w : World) (hn : es.length = n) (h : ReadsE w ao es) (j : Nat) (hj : j < es.length) (hF : es[j] = ⟨9, fg, fo, fw, fl, fs, ff, ft⟩) :
    Calls Tryz.prog 66 #[.slice ao n c, .int .i64 j] w fun x w' => ∃ v, x = .returned v ∧ OwnG layT w' w.heap.size v [] ∧ Fr w w' := by
  subst hn
  have hl := h.len
  obtain ⟨fb, off, rfl, hev⟩ := h.at_ j hj
  have HJ := hev j hj
  rw [hF] at HJ
  obtain ⟨d0, d1, d2, d3, d4, d5, d6, d7⟩ := HJ
  simp only at d0 d1 d2 d3 d4 d5 d6 d7
  have hjn : (j : Int) < es.length := by omega
  clear hev hF h
  go_enter Tryz.func66, Tryz.ntmps66
  go_wp2_with fail
  go_ret
  refine ⟨.slice (some ⟨w.heap.size + 1 + 1 + 1 + 1, 0, none⟩) 0 0, rfl, ?_, ?_⟩
  · exact ownG_litK layT _ [] (by simp) _ rfl _ _ (by simp) (by omega)
  · exact ((((Fr.alloc _ _).trans (Fr.alloc _ _)).trans (Fr.alloc _ _)).trans (Fr.alloc _ _)).trans (Fr.alloc _ _)

set_option maxRecDepth 20000 in
set_option maxHeartbeats 1000000 in
theorem l6T_10 (fg fo fw fl fs ff ft : Int) (ao : Option Addr) (n c : Nat) (es : List Ev) (w : World) (hn : es.length = n) (h : ReadsE w ao es) (j : Nat) (hj : j < es.length) (hF : es[j] = ⟨10, fg, fo, fw, fl, fs, ff, ft⟩) :
    Calls Tryz.prog 66 #[.slice ao n c, .int .i64 j] w fun x w' => ∃ v, x = .returned v ∧ OwnG layT w' w.heap.size v [⟨4, fo, 0, false, true⟩] ∧ Fr w w' := by
  subst hn
  have hl := h.len
  obtain ⟨fb, off, rfl, hev⟩ := h.at_ j hj
  have HJ := hev j hj
  rw [hF] at HJ
  obtain ⟨d0, d1, d2, d3, d4, d5, d6, d7⟩ := HJ
  simp only at d0 d1 d2 d3 d4 d5 d6 d7
  have hjn : (j : Int) < es.length := by omega
  clear hev hF h
  go_enter Tryz.func66, Tryz.ntmps66
  go_wp2_with fail
  go_ret
  refine ⟨.slice (some ⟨w.heap.size + 1 + 1 + 1 + 1, 0, none⟩) 1 1, rfl, ?_, ?_⟩
  · exact ownG_litK layT _ [⟨4, fo, 0, false, true⟩] (by simp) _ rfl _ _ (by simp) (by omega)
  · exact ((((Fr.alloc _ _).trans (Fr.alloc _ _)).trans (Fr.alloc _ _)).trans (Fr.alloc _ _)).trans (Fr.alloc _ _)

set_option maxRecDepth 20000 in
set_option maxHeartbeats 1000000 in
theorem l6T_11 (fg fo fw fl fs ff ft : Int) (ao : Option Addr) (n c : Nat) (es : List Ev) (w : World) (hn : es.length = n) (h : ReadsE w ao es) (j : Nat) (hj : j < es.length) (hF : es[j] = ⟨11, fg, fo, fw, fl, fs, ff, ft⟩) :
    Calls Tryz.prog 66 #[.slice ao n c, .int .i64 j] w fun x w' => ∃ v, x = .returned v ∧ OwnG layT w' w.heap.size v [⟨4, fo, 0, true, false⟩] ∧ Fr w w' := by
  subst hn
  have hl := h.len
  obtain ⟨fb, off, rfl, hev⟩ := h.at_ j hj
  have HJ := hev j hj
  rw [hF] at HJ
  obtain ⟨d0, d1, d2, d3, d4, d5, d6, d7⟩ := HJ
  simp only at d0 d1 d2 d3 d4 d5 d6 d7
  have hjn : (j : Int) < es.length := by omega
  clear hev hF h
  go_enter Tryz.func66, Tryz.ntmps66
  go_wp2_with fail
  go_ret
  refine ⟨.slice (some ⟨w.heap.size + 1 + 1 + 1 + 1, 0, none⟩) 1 1, rfl, ?_, ?_⟩
  · exact ownG_litK layT _ [⟨4, fo, 0, true, false⟩] (by simp) _ rfl _ _ (by simp) (by omega)
  · exact ((((Fr.alloc _ _).trans (Fr.alloc _ _)).trans (Fr.alloc _ _)).trans (Fr.alloc _ _)).trans (Fr.alloc _ _)

set_option maxRecDepth 20000 in
set_option maxHeartbeats 1000000 in
theorem l6T_12 (fg fo fw fl fs ff ft : Int) (ao : Option Addr) (n c : Nat) (es : List Ev) (w : World) (hn : es.length = n) (h : ReadsE w ao es) (j : Nat) (hj : j < es.length) (hF : es[j] = ⟨12, fg, fo, fw, fl, fs, ff, ft⟩) :
    Calls Tryz.prog 66 #[.slice ao n c, .int .i64 j] w fun x w' => ∃ v, x = .returned v ∧ OwnG layT w' w.heap.size v [] ∧ Fr w w' := by
  subst hn
  have hl := h.len
  obtain ⟨fb, off, rfl, hev⟩ := h.at_ j hj
  have HJ := hev j hj
  rw [hF] at HJ
  obtain ⟨d0, d1, d2, d3, d4, d5, d6, d7⟩ := HJ
  simp only at d0 d1 d2 d3 d4 d5 d6 d7
  have hjn : (j : Int) < es.length := by omega
  clear hev hF h
  go_enter Tryz.func66, Tryz.ntmps66
  go_wp2_with fail
  go_ret
  refine ⟨.slice (some ⟨w.heap.size + 1 + 1 + 1 + 1, 0, none⟩) 0 0, rfl, ?_, ?_⟩
  · exact ownG_litK layT _ [] (by simp) _ rfl _ _ (by simp) (by omega)
  · exact ((((Fr.alloc _ _).trans (Fr.alloc _ _)).trans (Fr.alloc _ _)).trans (Fr.alloc _ _)).trans (Fr.alloc _ _)

set_option maxRecDepth 20000 in
set_option maxHeartbeats 1000000 in
theorem l6T_13 (fg fo fw fl fs ff ft : Int) (ao : Option Addr) (n c : Nat) (es : List Ev) (w : World) (hn : es.length = n) (h : ReadsE w ao es) (j : Nat) (hj : j < es.length) (hF : es[j] = ⟨13, fg, fo, fw, fl, fs, ff, ft⟩) :
    Calls Tryz.prog 66 #[.slice ao n c, .int .i64 j] w fun x w' => ∃ v, x = .returned v ∧ OwnG layT w' w.heap.size v [⟨5, fo, 0, false, true⟩] ∧ Fr w w' := by
  subst hn
  have hl := h.len
  obtain ⟨fb, off, rfl, hev⟩ := h.at_ j hj
  have HJ := hev j hj
  rw [hF] at HJ
  obtain ⟨d0, d1, d2, d3, d4, d5, d6, d7⟩ := HJ
  simp only at d0 d1 d2 d3 d4 d5 d6 d7
  have hjn : (j : Int) < es.length := by omega
  clear hev hF h
  go_enter Tryz.func66, Tryz.ntmps66
  go_wp2_with fail
  go_ret
  refine ⟨.slice (some ⟨w.heap.size + 1 + 1 + 1 + 1, 0, none⟩) 1 1, rfl, ?_, ?_⟩
  · exact ownG_litK layT _ [⟨5, fo, 0, false, true⟩] (by simp) _ rfl _ _ (by simp) (by omega)
  · exact ((((Fr.alloc _ _).trans (Fr.alloc _ _)).trans (Fr.alloc _ _)).trans (Fr.alloc _ _)).trans (Fr.alloc _ _)

set_option maxRecDepth 20000 in
set_option maxHeartbeats 1000000 in
theorem l6T_14 (fg fo fw fl fs ff ft : Int) (ao : Option Addr) (n c : Nat) (es : List Ev) (w : World) (hn : es.length = n) (h : ReadsE w ao es) (j : Nat) (hj : j < es.length) (hF : es[j] = ⟨14, fg, fo, fw, fl, fs, ff, ft⟩) :
    Calls Tryz.prog 66 #[.slice ao n c, .int .i64 j] w fun x w' => ∃ v, x = .returned v ∧ OwnG layT w' w.heap.size v [⟨5, fo, 0, true, false⟩] ∧ Fr w w' := by
  subst hn
  have hl := h.len
  obtain ⟨fb, off, rfl, hev⟩ := h.at_ j hj
  have HJ := hev j hj
  rw [hF] at HJ
  obtain ⟨d0, d1, d2, d3, d4, d5, d6, d7⟩ := HJ
  simp only at d0 d1 d2 d3 d4 d5 d6 d7
  have hjn : (j : Int) < es.length := by omega
  clear hev hF h
  go_enter Tryz.func66, Tryz.ntmps66
  go_wp2_with fail
  go_ret
  refine ⟨.slice (some ⟨w.heap.size + 1 + 1 + 1 + 1, 0, none⟩) 1 1, rfl, ?_, ?_⟩
  · exact ownG_litK layT _ [⟨5, fo, 0, true, false⟩] (by simp) _ rfl _ _ (by simp) (by omega)
  · exact ((((Fr.alloc _ _).trans (Fr.alloc _ _)).trans (Fr.alloc _ _)).trans (Fr.alloc _ _)).trans (Fr.alloc _ _)

set_option maxRecDepth 20000 in
set_option maxHeartbeats 1000000 in
theorem l6T_15 (fg fo fw fl fs ff ft : Int) (ao : Option Addr) (n c : Nat) (es : List Ev) (w : World) (hn : es.length = n) (h : ReadsE w ao es) (j : Nat) (hj : j < es.length) (hF : es[j] = ⟨15, fg, fo, fw, fl, fs, ff, ft⟩) :
    Calls Tryz.prog 66 #[.slice ao n c, .int .i64 j] w fun x w' => ∃ v, x = .returned v ∧ OwnG layT w' w.heap.size v [⟨6, fo, 0, false, true⟩] ∧ Fr w w' := by
  subst hn
  have hl := h.len
  obtain ⟨fb, off, rfl, hev⟩ := h.at_ j hj
  have HJ := hev j hj
  rw [hF] at HJ
  obtain ⟨d0, d1, d2, d3, d4, d5, d6, d7⟩ := HJ
  simp only at d0 d1 d2 d3 d4 d5 d6 d7
  have hjn : (j : Int) < es.length := by omega
  clear hev hF h
  go_enter Tryz.func66, Tryz.ntmps66
  go_wp2_with fail
  go_ret
  refine ⟨.slice (some ⟨w.heap.size + 1 + 1 + 1 + 1, 0, none⟩) 1 1, rfl, ?_, ?_⟩
  · exact ownG_litK layT _ [⟨6, fo, 0, false, true⟩] (by simp) _ rfl _ _ (by simp) (by omega)
  · exact ((((Fr.alloc _ _).trans (Fr.alloc _ _)).trans (Fr.alloc _ _)).trans (Fr.alloc _ _)).trans (Fr.alloc _ _)
end Go.Proofs.YtihdablgnmkjnaaGreatDoor
/-
  The specification's touches, kind by kind (16, 17, 18, 19, 20, 21, 22).
-/
namespace Go.Proofs.YtihdablgnmkjnaaGreatDoor
open Go.RowKit

set_option maxRecDepth 20000 in
set_option maxHeartbeats 1000000 in
theorem l6T_16 (fg fo fw fl fs ff ft : Int) (ao : Option Addr) (n c : Nat) (es : List Ev) (w : World) (hn : es.length = n) (h : ReadsE w ao es) (j : Nat) (hj : j < es.length) (hF : es[j] = ⟨16, fg, fo, fw, fl, fs, ff, ft⟩) :
    Calls Tryz.prog 66 #[.slice ao n c, .int .i64 j] w fun x w' => ∃ v, x = .returned v ∧ OwnG layT w' w.heap.size v [⟨6, fo, 0, true, false⟩] ∧ Fr w w' := by
  subst hn
  have hl := h.len
  obtain ⟨fb, off, rfl, hev⟩ := h.at_ j hj
  have HJ := hev j hj
  rw [hF] at HJ
  obtain ⟨d0, d1, d2, d3, d4, d5, d6, d7⟩ := HJ
  simp only at d0 d1 d2 d3 d4 d5 d6 d7
  have hjn : (j : Int) < es.length := by omega
  clear hev hF h
  go_enter Tryz.func66, Tryz.ntmps66
  go_wp2_with fail
  go_ret
  refine ⟨.slice (some ⟨w.heap.size + 1 + 1 + 1 + 1, 0, none⟩) 1 1, rfl, ?_, ?_⟩
  · exact ownG_litK layT _ [⟨6, fo, 0, true, false⟩] (by simp) _ rfl _ _ (by simp) (by omega)
  · exact ((((Fr.alloc _ _).trans (Fr.alloc _ _)).trans (Fr.alloc _ _)).trans (Fr.alloc _ _)).trans (Fr.alloc _ _)

set_option maxRecDepth 20000 in
set_option maxHeartbeats 1000000 in
theorem l6T_17 (fg fo fw fl fs ff ft : Int) (ao : Option Addr) (n c : Nat) (es : List Ev) (w : World) (hn : es.length = n) (h : ReadsE w ao es) (j : Nat) (hj : j < es.length) (hF : es[j] = ⟨17, fg, fo, fw, fl, fs, ff, ft⟩) :
    Calls Tryz.prog 66 #[.slice ao n c, .int .i64 j] w fun x w' => ∃ v, x = .returned v ∧ OwnG layT w' w.heap.size v [⟨7, fo, 0, true, false⟩] ∧ Fr w w' := by
  subst hn
  have hl := h.len
  obtain ⟨fb, off, rfl, hev⟩ := h.at_ j hj
  have HJ := hev j hj
  rw [hF] at HJ
  obtain ⟨d0, d1, d2, d3, d4, d5, d6, d7⟩ := HJ
  simp only at d0 d1 d2 d3 d4 d5 d6 d7
  have hjn : (j : Int) < es.length := by omega
  clear hev hF h
  go_enter Tryz.func66, Tryz.ntmps66
  go_wp2_with fail
  go_ret
  refine ⟨.slice (some ⟨w.heap.size + 1 + 1 + 1 + 1, 0, none⟩) 1 1, rfl, ?_, ?_⟩
  · exact ownG_litK layT _ [⟨7, fo, 0, true, false⟩] (by simp) _ rfl _ _ (by simp) (by omega)
  · exact ((((Fr.alloc _ _).trans (Fr.alloc _ _)).trans (Fr.alloc _ _)).trans (Fr.alloc _ _)).trans (Fr.alloc _ _)

set_option maxRecDepth 20000 in
set_option maxHeartbeats 1000000 in
theorem l6T_18 (fg fo fw fl fs ff ft : Int) (ao : Option Addr) (n c : Nat) (es : List Ev) (w : World) (hn : es.length = n) (h : ReadsE w ao es) (j : Nat) (hj : j < es.length) (hF : es[j] = ⟨18, fg, fo, fw, fl, fs, ff, ft⟩) :
    Calls Tryz.prog 66 #[.slice ao n c, .int .i64 j] w fun x w' => ∃ v, x = .returned v ∧ OwnG layT w' w.heap.size v [⟨7, fo, 0, false, true⟩] ∧ Fr w w' := by
  subst hn
  have hl := h.len
  obtain ⟨fb, off, rfl, hev⟩ := h.at_ j hj
  have HJ := hev j hj
  rw [hF] at HJ
  obtain ⟨d0, d1, d2, d3, d4, d5, d6, d7⟩ := HJ
  simp only at d0 d1 d2 d3 d4 d5 d6 d7
  have hjn : (j : Int) < es.length := by omega
  clear hev hF h
  go_enter Tryz.func66, Tryz.ntmps66
  go_wp2_with fail
  go_ret
  refine ⟨.slice (some ⟨w.heap.size + 1 + 1 + 1 + 1, 0, none⟩) 1 1, rfl, ?_, ?_⟩
  · exact ownG_litK layT _ [⟨7, fo, 0, false, true⟩] (by simp) _ rfl _ _ (by simp) (by omega)
  · exact ((((Fr.alloc _ _).trans (Fr.alloc _ _)).trans (Fr.alloc _ _)).trans (Fr.alloc _ _)).trans (Fr.alloc _ _)

set_option maxRecDepth 20000 in
set_option maxHeartbeats 1000000 in
theorem l6T_19 (fg fo fw fl fs ff ft : Int) (ao : Option Addr) (n c : Nat) (es : List Ev) (w : World) (hn : es.length = n) (h : ReadsE w ao es) (j : Nat) (hj : j < es.length) (hF : es[j] = ⟨19, fg, fo, fw, fl, fs, ff, ft⟩) :
    Calls Tryz.prog 66 #[.slice ao n c, .int .i64 j] w fun x w' => ∃ v, x = .returned v ∧ OwnG layT w' w.heap.size v [⟨7, fo, 0, true, true⟩] ∧ Fr w w' := by
  subst hn
  have hl := h.len
  obtain ⟨fb, off, rfl, hev⟩ := h.at_ j hj
  have HJ := hev j hj
  rw [hF] at HJ
  obtain ⟨d0, d1, d2, d3, d4, d5, d6, d7⟩ := HJ
  simp only at d0 d1 d2 d3 d4 d5 d6 d7
  have hjn : (j : Int) < es.length := by omega
  clear hev hF h
  go_enter Tryz.func66, Tryz.ntmps66
  go_wp2_with fail
  go_ret
  refine ⟨.slice (some ⟨w.heap.size + 1 + 1 + 1 + 1, 0, none⟩) 1 1, rfl, ?_, ?_⟩
  · exact ownG_litK layT _ [⟨7, fo, 0, true, true⟩] (by simp) _ rfl _ _ (by simp) (by omega)
  · exact ((((Fr.alloc _ _).trans (Fr.alloc _ _)).trans (Fr.alloc _ _)).trans (Fr.alloc _ _)).trans (Fr.alloc _ _)

set_option maxRecDepth 20000 in
set_option maxHeartbeats 1000000 in
theorem l6T_20 (fg fo fw fl fs ff ft : Int) (ao : Option Addr) (n c : Nat) (es : List Ev) (w : World) (hn : es.length = n) (h : ReadsE w ao es) (j : Nat) (hj : j < es.length) (hF : es[j] = ⟨20, fg, fo, fw, fl, fs, ff, ft⟩) :
    Calls Tryz.prog 66 #[.slice ao n c, .int .i64 j] w fun x w' => ∃ v, x = .returned v ∧ OwnG layT w' w.heap.size v [] ∧ Fr w w' := by
  subst hn
  have hl := h.len
  obtain ⟨fb, off, rfl, hev⟩ := h.at_ j hj
  have HJ := hev j hj
  rw [hF] at HJ
  obtain ⟨d0, d1, d2, d3, d4, d5, d6, d7⟩ := HJ
  simp only at d0 d1 d2 d3 d4 d5 d6 d7
  have hjn : (j : Int) < es.length := by omega
  clear hev hF h
  go_enter Tryz.func66, Tryz.ntmps66
  go_wp2_with fail
  go_ret
  refine ⟨.slice (some ⟨w.heap.size + 1 + 1 + 1 + 1, 0, none⟩) 0 0, rfl, ?_, ?_⟩
  · exact ownG_litK layT _ [] (by simp) _ rfl _ _ (by simp) (by omega)
  · exact ((((Fr.alloc _ _).trans (Fr.alloc _ _)).trans (Fr.alloc _ _)).trans (Fr.alloc _ _)).trans (Fr.alloc _ _)

set_option maxRecDepth 20000 in
set_option maxHeartbeats 1000000 in
theorem l6T_21 (fg fo fw fl fs ff ft : Int) (ao : Option Addr) (n c : Nat) (es : List Ev) (w : World) (hn : es.length = n) (h : ReadsE w ao es) (j : Nat) (hj : j < es.length) (hF : es[j] = ⟨21, fg, fo, fw, fl, fs, ff, ft⟩) :
    Calls Tryz.prog 66 #[.slice ao n c, .int .i64 j] w fun x w' => ∃ v, x = .returned v ∧ OwnG layT w' w.heap.size v [] ∧ Fr w w' := by
  subst hn
  have hl := h.len
  obtain ⟨fb, off, rfl, hev⟩ := h.at_ j hj
  have HJ := hev j hj
  rw [hF] at HJ
  obtain ⟨d0, d1, d2, d3, d4, d5, d6, d7⟩ := HJ
  simp only at d0 d1 d2 d3 d4 d5 d6 d7
  have hjn : (j : Int) < es.length := by omega
  clear hev hF h
  go_enter Tryz.func66, Tryz.ntmps66
  go_wp2_with fail
  go_ret
  refine ⟨.slice (some ⟨w.heap.size + 1 + 1 + 1 + 1, 0, none⟩) 0 0, rfl, ?_, ?_⟩
  · exact ownG_litK layT _ [] (by simp) _ rfl _ _ (by simp) (by omega)
  · exact ((((Fr.alloc _ _).trans (Fr.alloc _ _)).trans (Fr.alloc _ _)).trans (Fr.alloc _ _)).trans (Fr.alloc _ _)

set_option maxRecDepth 20000 in
set_option maxHeartbeats 1000000 in
theorem l6T_22 (fg fo fw fl fs ff ft : Int) (ao : Option Addr) (n c : Nat) (es : List Ev) (w : World) (hn : es.length = n) (h : ReadsE w ao es) (j : Nat) (hj : j < es.length) (hF : es[j] = ⟨22, fg, fo, fw, fl, fs, ff, ft⟩) :
    Calls Tryz.prog 66 #[.slice ao n c, .int .i64 j] w fun x w' => ∃ v, x = .returned v ∧ OwnG layT w' w.heap.size v [] ∧ Fr w w' := by
  subst hn
  have hl := h.len
  obtain ⟨fb, off, rfl, hev⟩ := h.at_ j hj
  have HJ := hev j hj
  rw [hF] at HJ
  obtain ⟨d0, d1, d2, d3, d4, d5, d6, d7⟩ := HJ
  simp only at d0 d1 d2 d3 d4 d5 d6 d7
  have hjn : (j : Int) < es.length := by omega
  clear hev hF h
  go_enter Tryz.func66, Tryz.ntmps66
  go_wp2_with fail
  go_ret
  refine ⟨.slice (some ⟨w.heap.size + 1 + 1 + 1 + 1, 0, none⟩) 0 0, rfl, ?_, ?_⟩
  · exact ownG_litK layT _ [] (by simp) _ rfl _ _ (by simp) (by omega)
  · exact ((((Fr.alloc _ _).trans (Fr.alloc _ _)).trans (Fr.alloc _ _)).trans (Fr.alloc _ _)).trans (Fr.alloc _ _)
end Go.Proofs.YtihdablgnmkjnaaGreatDoor
/-
  The specification's touches, kind by kind (7, 8).
-/
namespace Go.Proofs.YtihdablgnmkjnaaGreatDoor
open Go.RowKit

/-- A touch in a block of its own. -/
def TchK (w : World) (b : Nat) (c : Tch) : Prop := w.heap[b]? = some (.cells #[.int .i64 c.sp, .int .i64 c.ob, .int .i64 c.sl, .bool c.tk, .bool c.gv] 52 (0, 0))
theorem TchK.lt {w : World} {b : Nat} {c : Tch} (h : TchK w b c) : b < w.heap.size := (Array.getElem?_eq_some_iff.1 h).1
theorem TchK.fr {w w' : World} {b : Nat} {c : Tch} (h : TchK w b c) (k : Fr w w') : TchK w' b c := (k.block b h.lt (by simp)).trans h
theorem TchK.free {w : World} {b : Nat} {c : Tch} (h : TchK w b c) (i : Nat) : w.frozen? ⟨b, i, none⟩ = false := frozen_of_row w b i _ _ h
theorem TchK.at {w : World} {b : Nat} {c : Tch} (h : TchK w b c) : w.cell? ⟨b, 0, none⟩ = some (.int .i64 c.sp) ∧ w.cell? ⟨b, 1, none⟩ = some (.int .i64 c.ob) ∧ w.cell? ⟨b, 2, none⟩ = some (.int .i64 c.sl) ∧ w.cell? ⟨b, 3, none⟩ = some (.bool c.tk) ∧ w.cell? ⟨b, 4, none⟩ = some (.bool c.gv) :=
  ⟨cell_of_row w b 0 _ _ _ h, cell_of_row w b 1 _ _ _ h, cell_of_row w b 2 _ _ _ h, cell_of_row w b 3 _ _ _ h, cell_of_row w b 4 _ _ _ h⟩

set_option maxRecDepth 20000 in
set_option maxHeartbeats 1000000 in
theorem l6T_7 (fg fo fw fl fs ff ft : Int) (ao : Option Addr) (n c : Nat) (es : List Ev) (w : World) (hn : es.length = n) (h : ReadsE w ao es) (j : Nat) (hj : j < es.length) (hF : es[j] = ⟨7, fg, fo, fw, fl, fs, ff, ft⟩) (hr : capK es[j].o (es.take j) ≠ 0) :
    Calls Tryz.prog 66 #[.slice ao n c, .int .i64 j] w fun x w' => ∃ v, x = .returned v ∧ OwnG layT w' w.heap.size v [⟨3, fo, slotE (es.take j) es[j], true, true⟩] ∧ Fr w w' := by
  have cS := fun u (f : Fr w u) => l6Slot_any ao n c es u hn (h.fr f) j hj hr
  obtain ⟨Z, hZ⟩ : ∃ Z, Z = slotE (es.take j) es[j] := ⟨_, rfl⟩
  simp only [← hZ] at cS ⊢
  clear hZ hr
  subst hn
  have hl := h.len
  obtain ⟨fb, off, rfl, hev⟩ := h.at_ j hj
  have HJ := hev j hj
  rw [hF] at HJ
  obtain ⟨d0, d1, d2, d3, d4, d5, d6, d7⟩ := HJ
  simp only at d0 d1 d2 d3 d4 d5 d6 d7
  have hjn : (j : Int) < es.length := by omega
  clear hev hF h
  have f1 : Fr w ((((w.alloc (.cells #[.int .i64 7, .int .i64 fg, .int .i64 fo, .int .i64 fw, .int .i64 fl, .int .i64 fs, .int .i64 ff, .int .i64 ft] 31)).alloc (.cells #[.int .i64 0, .int .i64 fo, .int .i64 0, .bool true, .bool false] 52)).alloc (.cells #[.int .i64 0, .int .i64 fo, .int .i64 0, .bool false, .bool true] 52)).alloc (.cells #[.int .i64 3, .int .i64 fo, .int .i64 0, .bool true, .bool true] 52)) := (((Fr.alloc _ _).trans (Fr.alloc _ _)).trans (Fr.alloc _ _)).trans (Fr.alloc _ _)
  have hK : TchK ((((w.alloc (.cells #[.int .i64 7, .int .i64 fg, .int .i64 fo, .int .i64 fw, .int .i64 fl, .int .i64 fs, .int .i64 ff, .int .i64 ft] 31)).alloc (.cells #[.int .i64 0, .int .i64 fo, .int .i64 0, .bool true, .bool false] 52)).alloc (.cells #[.int .i64 0, .int .i64 fo, .int .i64 0, .bool false, .bool true] 52)).alloc (.cells #[.int .i64 3, .int .i64 fo, .int .i64 0, .bool true, .bool true] 52)) (w.heap.size + 1 + 1 + 1) ⟨3, fo, 0, true, true⟩ := by
    have := heap_alloc_new (((w.alloc (.cells #[.int .i64 7, .int .i64 fg, .int .i64 fo, .int .i64 fw, .int .i64 fl, .int .i64 fs, .int .i64 ff, .int .i64 ft] 31)).alloc (.cells #[.int .i64 0, .int .i64 fo, .int .i64 0, .bool true, .bool false] 52)).alloc (.cells #[.int .i64 0, .int .i64 fo, .int .i64 0, .bool false, .bool true] 52)) (.cells #[.int .i64 3, .int .i64 fo, .int .i64 0, .bool true, .bool true] 52)
    simpa [TchK] using this
  go_enter Tryz.func66, Tryz.ntmps66
  go_wp2_with fail
  refine (cS _ f1).mono ?_
  rintro x u2 ⟨rfl, f2⟩
  have hK2 := hK.fr f2
  obtain ⟨t0, t1, t2, t3, t4⟩ := hK2.at
  simp only at t0 t1 t2 t3 t4
  have tf := hK2.free 2
  have F2 := f1.trans f2
  have sz := f2.size
  simp at sz
  go_wp2_with fail
  go_ret
  refine ⟨.slice (some ⟨u2.heap.size, 0, none⟩) 1 1, rfl, ?_, ?_⟩
  · exact ownG_litK layT _ [⟨3, fo, Z, true, true⟩] (by simp) _ rfl _ _ (by simp) (by omega)
  · exact (F2.then (grown_set u2 (w.heap.size + 1 + 1 + 1) 2 (.int .i64 Z)) (fun j hj => by simp only [Option.some.injEq] at hj; omega)).trans (Fr.alloc _ _)

set_option maxRecDepth 20000 in
set_option maxHeartbeats 1000000 in
theorem l6T_8 (fg fo fw fl fs ff ft : Int) (ao : Option Addr) (n c : Nat) (es : List Ev) (w : World) (hn : es.length = n) (h : ReadsE w ao es) (j : Nat) (hj : j < es.length) (hF : es[j] = ⟨8, fg, fo, fw, fl, fs, ff, ft⟩) (hr : capK es[j].o (es.take j) ≠ 0) :
    Calls Tryz.prog 66 #[.slice ao n c, .int .i64 j] w fun x w' => ∃ v, x = .returned v ∧ OwnG layT w' w.heap.size v [⟨3, fo, slotE (es.take j) es[j], true, true⟩] ∧ Fr w w' := by
  have cS := fun u (f : Fr w u) => l6Slot_any ao n c es u hn (h.fr f) j hj hr
  obtain ⟨Z, hZ⟩ : ∃ Z, Z = slotE (es.take j) es[j] := ⟨_, rfl⟩
  simp only [← hZ] at cS ⊢
  clear hZ hr
  subst hn
  have hl := h.len
  obtain ⟨fb, off, rfl, hev⟩ := h.at_ j hj
  have HJ := hev j hj
  rw [hF] at HJ
  obtain ⟨d0, d1, d2, d3, d4, d5, d6, d7⟩ := HJ
  simp only at d0 d1 d2 d3 d4 d5 d6 d7
  have hjn : (j : Int) < es.length := by omega
  clear hev hF h
  have f1 : Fr w ((((w.alloc (.cells #[.int .i64 8, .int .i64 fg, .int .i64 fo, .int .i64 fw, .int .i64 fl, .int .i64 fs, .int .i64 ff, .int .i64 ft] 31)).alloc (.cells #[.int .i64 0, .int .i64 fo, .int .i64 0, .bool true, .bool false] 52)).alloc (.cells #[.int .i64 0, .int .i64 fo, .int .i64 0, .bool false, .bool true] 52)).alloc (.cells #[.int .i64 3, .int .i64 fo, .int .i64 0, .bool true, .bool true] 52)) := (((Fr.alloc _ _).trans (Fr.alloc _ _)).trans (Fr.alloc _ _)).trans (Fr.alloc _ _)
  have hK : TchK ((((w.alloc (.cells #[.int .i64 8, .int .i64 fg, .int .i64 fo, .int .i64 fw, .int .i64 fl, .int .i64 fs, .int .i64 ff, .int .i64 ft] 31)).alloc (.cells #[.int .i64 0, .int .i64 fo, .int .i64 0, .bool true, .bool false] 52)).alloc (.cells #[.int .i64 0, .int .i64 fo, .int .i64 0, .bool false, .bool true] 52)).alloc (.cells #[.int .i64 3, .int .i64 fo, .int .i64 0, .bool true, .bool true] 52)) (w.heap.size + 1 + 1 + 1) ⟨3, fo, 0, true, true⟩ := by
    have := heap_alloc_new (((w.alloc (.cells #[.int .i64 8, .int .i64 fg, .int .i64 fo, .int .i64 fw, .int .i64 fl, .int .i64 fs, .int .i64 ff, .int .i64 ft] 31)).alloc (.cells #[.int .i64 0, .int .i64 fo, .int .i64 0, .bool true, .bool false] 52)).alloc (.cells #[.int .i64 0, .int .i64 fo, .int .i64 0, .bool false, .bool true] 52)) (.cells #[.int .i64 3, .int .i64 fo, .int .i64 0, .bool true, .bool true] 52)
    simpa [TchK] using this
  go_enter Tryz.func66, Tryz.ntmps66
  go_wp2_with fail
  refine (cS _ f1).mono ?_
  rintro x u2 ⟨rfl, f2⟩
  have hK2 := hK.fr f2
  obtain ⟨t0, t1, t2, t3, t4⟩ := hK2.at
  simp only at t0 t1 t2 t3 t4
  have tf := hK2.free 2
  have F2 := f1.trans f2
  have sz := f2.size
  simp at sz
  go_wp2_with fail
  go_ret
  refine ⟨.slice (some ⟨u2.heap.size, 0, none⟩) 1 1, rfl, ?_, ?_⟩
  · exact ownG_litK layT _ [⟨3, fo, Z, true, true⟩] (by simp) _ rfl _ _ (by simp) (by omega)
  · exact (F2.then (grown_set u2 (w.heap.size + 1 + 1 + 1) 2 (.int .i64 Z)) (fun j hj => by simp only [Option.some.injEq] at hj; omega)).trans (Fr.alloc _ _)
end Go.Proofs.YtihdablgnmkjnaaGreatDoor
/-
  The program's touches: what the kinds have in common.
-/
namespace Go.Proofs.YtihdablgnmkjnaaGreatDoor
open Go.RowKit

theorem Tryz.infoT : (Tryz.prog.info? 52).map (fun i => (i.zero, i.size, i.bytes)) = some (some (.agg #[.int .i64 0, .int .i64 0, .int .i64 0, .bool false, .bool false]), 5, 32) := by kernel_rfl
/-- A touch in a block of its own. -/
def TchJ (w : World) (b : Nat) (c : Tch) : Prop := w.heap[b]? = some (.cells #[.int .i64 c.sp, .int .i64 c.ob, .int .i64 c.sl, .bool c.tk, .bool c.gv] 52 (0, 0))
theorem TchJ.lt {w : World} {b : Nat} {c : Tch} (h : TchJ w b c) : b < w.heap.size := (Array.getElem?_eq_some_iff.1 h).1
theorem TchJ.keep {w w' : World} {b : Nat} {c : Tch} {row : Option Nat} (h : TchJ w b c) (k : w.grownBy w' row) (hr : some b ≠ row) : TchJ w' b c := (k.block b h.lt hr).trans h
theorem TchJ.free {w : World} {b : Nat} {c : Tch} (h : TchJ w b c) (i : Nat) : w.frozen? ⟨b, i, none⟩ = false := frozen_of_row w b i _ _ h
theorem TchJ.at {w : World} {b : Nat} {c : Tch} (h : TchJ w b c) : w.cell? ⟨b, 0, none⟩ = some (.int .i64 c.sp) ∧ w.cell? ⟨b, 1, none⟩ = some (.int .i64 c.ob) ∧ w.cell? ⟨b, 2, none⟩ = some (.int .i64 c.sl) ∧ w.cell? ⟨b, 3, none⟩ = some (.bool c.tk) ∧ w.cell? ⟨b, 4, none⟩ = some (.bool c.gv) :=
  ⟨cell_of_row w b 0 _ _ _ h, cell_of_row w b 1 _ _ _ h, cell_of_row w b 2 _ _ _ h, cell_of_row w b 3 _ _ _ h, cell_of_row w b 4 _ _ _ h⟩
theorem litK_reads {α : Type} (L : Lay α) (w : World) (xs : List α) (hl : xs.length ≤ 1000) (o : Obj) (ho : o = .cells (xs.flatMap L.cs).toArray L.ty (0, 0)) (k : Nat) (hk : w.heap.size = k) : ReadsG L (w.alloc o) (some ⟨k, 0, none⟩) xs := by
  obtain ⟨g, c, e, h1, h2⟩ := ownG_litK L w xs hl o ho k 0 hk (Nat.zero_le _)
  simp only [Value.slice.injEq, Option.some.injEq, Addr.mk.injEq, and_true, true_and] at e
  obtain ⟨rfl, -⟩ := e
  exact own_readsG h1 h2
end Go.Proofs.YtihdablgnmkjnaaGreatDoor
/-
  The program's touches, kind by kind (1, 3, 4, 5, 6, 7).
-/
namespace Go.Proofs.YtihdablgnmkjnaaGreatDoor
open Go.RowKit

set_option maxRecDepth 20000 in
set_option maxHeartbeats 2000000 in
theorem tchI_1 (b b2 : Nat) (co cap sent got : Int) (cl : Bool) (gr o wi l sz f t : Int) (w : World) (hb : w.cell? ⟨b, 2, none⟩ = some (.map (some b2)))
    (hL : ∀ u, Fr w u → (Instr.lookup 133 (.map (some b2)) (.int .i64 o) false).run Tryz.prog u = .ok (.agg #[.int .i64 co, .int .i64 cap, .int .i64 sent, .int .i64 got, .bool cl]) u) :
    Calls Tryz.prog 64 #[.pointer (some ⟨b, 0, none⟩), .agg #[.int .i64 1, .int .i64 gr, .int .i64 o, .int .i64 wi, .int .i64 l, .int .i64 sz, .int .i64 f, .int .i64 t]] w fun x w' => ∃ v, x = .returned v ∧ OwnG layT w' w.heap.size v [] ∧ Fr w w' := by
  have fW := Fr.alloc w (.cells #[.int .i64 1, .int .i64 gr, .int .i64 o, .int .i64 wi, .int .i64 l, .int .i64 sz, .int .i64 f, .int .i64 t] 31)
  have kE := EvAt.new w ⟨1, gr, o, wi, l, sz, f, t⟩ 31
  have hb := fW.cell hb
  simp only at kE
  go_enter Tryz.func64, Tryz.ntmps64
  go_wp2_with fail
  obtain ⟨W, hW⟩ : ∃ W, W = w.alloc (.cells #[.int .i64 1, .int .i64 gr, .int .i64 o, .int .i64 wi, .int .i64 l, .int .i64 sz, .int .i64 f, .int .i64 t] 31) := ⟨_, rfl⟩
  rw [← hW] at fW kE hb ⊢
  clear hW
  obtain ⟨c0, c1, c2, c3, c4, c5, c6, c7⟩ := kE
  simp only at c0 c2
  clear c1 c3 c4 c5 c6 c7
  have HL : Hid (∀ u, Fr w u → (Instr.lookup 133 (.map (some b2)) (.int .i64 o) false).run Tryz.prog u = .ok (.agg #[.int .i64 co, .int .i64 cap, .int .i64 sent, .int .i64 got, .bool cl]) u) := hL
  clear hL
  have l1 := HL.out _ (fW.trans (Fr.drew W))
  have l2 := HL.out _ ((fW.trans (Fr.alloc W (.cells #[.int .i64 0, .int .i64 0, .int .i64 0, .int .i64 0, .bool false] 87))).trans (Fr.drew _))
  go_region_held3 (fun u => u.cell? ⟨b, 2, none⟩ = some (.map (some b2)) ∧ u.cell? ⟨w.heap.size, 2, none⟩ = some (.int .i64 o)) (go_keep) (fail)
  all_goals (
    clear l1 l2 HL
    obtain ⟨V, hV⟩ : ∃ V, V = (W.alloc (.cells #[.int .i64 co, .int .i64 cap, .int .i64 sent, .int .i64 got, .bool cl] 87)).drew := ⟨_, rfl⟩
    have fA : Fr W V := by rw [hV]; exact (Fr.alloc _ _).trans (Fr.drew _)
    have fV : Fr w V := fW.trans fA
    have x0 := fA.cell c0
    have x2 := fA.cell c2
    have y1 : V.cell? ⟨W.heap.size, 1, none⟩ = some (.int .i64 cap) := by rw [hV]; simp [go_sem]
    have y2 : V.cell? ⟨W.heap.size, 2, none⟩ = some (.int .i64 sent) := by rw [hV]; simp [go_sem]
    have y3 : V.cell? ⟨W.heap.size, 3, none⟩ = some (.int .i64 got) := by rw [hV]; simp [go_sem]
    rw [← hV]
    have hbV : w.heap.size ≤ V.heap.size := fV.size
    have z1 : w.heap.size < V.heap.size := World.block_lt_of_cell? V _ x0
    have z2 : W.heap.size < V.heap.size := World.block_lt_of_cell? V _ y1
    have n1 : ¬ w.heap.size = V.heap.size := by omega
    have n2 : ¬ w.heap.size = V.heap.size + 1 := by omega
    have n3 : ¬ W.heap.size = V.heap.size := by omega
    have n4 : ¬ W.heap.size = V.heap.size + 1 := by omega
    clear hV fA c0 c2 hb
    go_upto_block 0 with fail
    refine wp_block ?_
    refine wp_nestC [(1, _), (2, _), (3, _), (4, _), (5, _), (6, _), (7, _), (8, _), (9, _), (10, _), (11, _), (12, _), (13, _), (14, _), (15, _), (16, _)] _ ?_
    refine wp_opaque (fun Q0 hQ0 => ?_)
    have HQ0 : Hid _ := hQ0
    clear hQ0
    go_wp2_with fail
    refine HQ0.out _ _ _ (postC_at [(1, _), (2, _), (3, _), (4, _), (5, _), (6, _), (7, _), (8, _), (9, _), (10, _), (11, _), (12, _), (13, _), (14, _), (15, _)] (by rfl) ?_)
    clear HQ0
    refine wp_opaque (fun Q1 hQ1 => ?_)
    have HQ1 : Hid _ := hQ1
    clear hQ1
    go_wp2_with fail
    refine HQ1.out _ _ _ (postC_ret _ ?_)
    clear HQ1
    repeat (first | refine inBlock_ret ?_ | refine then_ret ?_)
    go_ret
    refine ⟨.slice (some ⟨V.heap.size + 1 + 1, 0, none⟩) 0 0, rfl, ?_, ?_⟩
    · exact ownG_litK layT _ [] (by simp) _ rfl _ _ (by simp) (by omega)
    · exact ((fV.trans (Fr.alloc _ _)).trans (Fr.alloc _ _)).trans (Fr.alloc _ _))

set_option maxRecDepth 20000 in
set_option maxHeartbeats 2000000 in
theorem tchI_3 (b b2 : Nat) (co cap sent got : Int) (cl : Bool) (gr o wi l sz f t : Int) (w : World) (hb : w.cell? ⟨b, 2, none⟩ = some (.map (some b2)))
    (hL : ∀ u, Fr w u → (Instr.lookup 133 (.map (some b2)) (.int .i64 o) false).run Tryz.prog u = .ok (.agg #[.int .i64 co, .int .i64 cap, .int .i64 sent, .int .i64 got, .bool cl]) u) :
    Calls Tryz.prog 64 #[.pointer (some ⟨b, 0, none⟩), .agg #[.int .i64 3, .int .i64 gr, .int .i64 o, .int .i64 wi, .int .i64 l, .int .i64 sz, .int .i64 f, .int .i64 t]] w fun x w' => ∃ v, x = .returned v ∧ OwnG layT w' w.heap.size v [⟨1, o, 0, false, true⟩] ∧ Fr w w' := by
  have fW := Fr.alloc w (.cells #[.int .i64 3, .int .i64 gr, .int .i64 o, .int .i64 wi, .int .i64 l, .int .i64 sz, .int .i64 f, .int .i64 t] 31)
  have kE := EvAt.new w ⟨3, gr, o, wi, l, sz, f, t⟩ 31
  have hb := fW.cell hb
  simp only at kE
  go_enter Tryz.func64, Tryz.ntmps64
  go_wp2_with fail
  obtain ⟨W, hW⟩ : ∃ W, W = w.alloc (.cells #[.int .i64 3, .int .i64 gr, .int .i64 o, .int .i64 wi, .int .i64 l, .int .i64 sz, .int .i64 f, .int .i64 t] 31) := ⟨_, rfl⟩
  rw [← hW] at fW kE hb ⊢
  clear hW
  obtain ⟨c0, c1, c2, c3, c4, c5, c6, c7⟩ := kE
  simp only at c0 c2
  clear c1 c3 c4 c5 c6 c7
  have HL : Hid (∀ u, Fr w u → (Instr.lookup 133 (.map (some b2)) (.int .i64 o) false).run Tryz.prog u = .ok (.agg #[.int .i64 co, .int .i64 cap, .int .i64 sent, .int .i64 got, .bool cl]) u) := hL
  clear hL
  have l1 := HL.out _ (fW.trans (Fr.drew W))
  have l2 := HL.out _ ((fW.trans (Fr.alloc W (.cells #[.int .i64 0, .int .i64 0, .int .i64 0, .int .i64 0, .bool false] 87))).trans (Fr.drew _))
  go_region_held3 (fun u => u.cell? ⟨b, 2, none⟩ = some (.map (some b2)) ∧ u.cell? ⟨w.heap.size, 2, none⟩ = some (.int .i64 o)) (go_keep) (fail)
  all_goals (
    clear l1 l2 HL
    obtain ⟨V, hV⟩ : ∃ V, V = (W.alloc (.cells #[.int .i64 co, .int .i64 cap, .int .i64 sent, .int .i64 got, .bool cl] 87)).drew := ⟨_, rfl⟩
    have fA : Fr W V := by rw [hV]; exact (Fr.alloc _ _).trans (Fr.drew _)
    have fV : Fr w V := fW.trans fA
    have x0 := fA.cell c0
    have x2 := fA.cell c2
    have y1 : V.cell? ⟨W.heap.size, 1, none⟩ = some (.int .i64 cap) := by rw [hV]; simp [go_sem]
    have y2 : V.cell? ⟨W.heap.size, 2, none⟩ = some (.int .i64 sent) := by rw [hV]; simp [go_sem]
    have y3 : V.cell? ⟨W.heap.size, 3, none⟩ = some (.int .i64 got) := by rw [hV]; simp [go_sem]
    rw [← hV]
    have hbV : w.heap.size ≤ V.heap.size := fV.size
    have z1 : w.heap.size < V.heap.size := World.block_lt_of_cell? V _ x0
    have z2 : W.heap.size < V.heap.size := World.block_lt_of_cell? V _ y1
    have n1 : ¬ w.heap.size = V.heap.size := by omega
    have n2 : ¬ w.heap.size = V.heap.size + 1 := by omega
    have n3 : ¬ W.heap.size = V.heap.size := by omega
    have n4 : ¬ W.heap.size = V.heap.size + 1 := by omega
    clear hV fA c0 c2 hb
    go_upto_block 0 with fail
    refine wp_block ?_
    refine wp_nestC [(1, _), (2, _), (3, _), (4, _), (5, _), (6, _), (7, _), (8, _), (9, _), (10, _), (11, _), (12, _), (13, _), (14, _), (15, _), (16, _)] _ ?_
    refine wp_opaque (fun Q0 hQ0 => ?_)
    have HQ0 : Hid _ := hQ0
    clear hQ0
    go_wp2_with fail
    refine HQ0.out _ _ _ (postC_at [(1, _), (2, _)] (by rfl) ?_)
    clear HQ0
    refine wp_opaque (fun Q1 hQ1 => ?_)
    have HQ1 : Hid _ := hQ1
    clear hQ1
    go_wp2_with fail
    refine HQ1.out _ _ _ (postC_out _ (by rfl) (inBlock_same ?_))
    clear HQ1
    go_wp2_with (at_builtin; refine appGL layT _ rfl _ _ 49 _ 32 rfl Tryz.underlying49 Tryz.infoT rfl (by decide) w.heap.size (.slice (some ⟨V.heap.size + 1 + 1, 0, none⟩) 1 1) [⟨1, o, 0, false, true⟩] [] rfl (ownG_litK layT _ [⟨1, o, 0, false, true⟩] (by simp) _ rfl _ _ (by simp) (by omega)) ⟨V.heap.size + 1, 0, none⟩ 0 rfl (by simp) (by simp) (by simp; omega) ?_; intro v4 w4 hv4 hg4 hat4)
    go_ret
    refine ⟨v4, rfl, hv4, ?_⟩
    exact (((fV.trans (Fr.alloc _ _)).trans (Fr.alloc _ _)).trans (Fr.alloc _ _)).then hg4 (fun j hj => by simp only [Value.ownBlock, Option.some.injEq] at hj; omega))

set_option maxRecDepth 20000 in
set_option maxHeartbeats 2000000 in
theorem tchI_4 (b b2 : Nat) (co cap sent got : Int) (cl : Bool) (gr o wi l sz f t : Int) (w : World) (hb : w.cell? ⟨b, 2, none⟩ = some (.map (some b2)))
    (hL : ∀ u, Fr w u → (Instr.lookup 133 (.map (some b2)) (.int .i64 o) false).run Tryz.prog u = .ok (.agg #[.int .i64 co, .int .i64 cap, .int .i64 sent, .int .i64 got, .bool cl]) u) :
    Calls Tryz.prog 64 #[.pointer (some ⟨b, 0, none⟩), .agg #[.int .i64 4, .int .i64 gr, .int .i64 o, .int .i64 wi, .int .i64 l, .int .i64 sz, .int .i64 f, .int .i64 t]] w fun x w' => ∃ v, x = .returned v ∧ OwnG layT w' w.heap.size v [⟨1, o, 0, true, false⟩] ∧ Fr w w' := by
  have fW := Fr.alloc w (.cells #[.int .i64 4, .int .i64 gr, .int .i64 o, .int .i64 wi, .int .i64 l, .int .i64 sz, .int .i64 f, .int .i64 t] 31)
  have kE := EvAt.new w ⟨4, gr, o, wi, l, sz, f, t⟩ 31
  have hb := fW.cell hb
  simp only at kE
  go_enter Tryz.func64, Tryz.ntmps64
  go_wp2_with fail
  obtain ⟨W, hW⟩ : ∃ W, W = w.alloc (.cells #[.int .i64 4, .int .i64 gr, .int .i64 o, .int .i64 wi, .int .i64 l, .int .i64 sz, .int .i64 f, .int .i64 t] 31) := ⟨_, rfl⟩
  rw [← hW] at fW kE hb ⊢
  clear hW
  obtain ⟨c0, c1, c2, c3, c4, c5, c6, c7⟩ := kE
  simp only at c0 c2
  clear c1 c3 c4 c5 c6 c7
  have HL : Hid (∀ u, Fr w u → (Instr.lookup 133 (.map (some b2)) (.int .i64 o) false).run Tryz.prog u = .ok (.agg #[.int .i64 co, .int .i64 cap, .int .i64 sent, .int .i64 got, .bool cl]) u) := hL
  clear hL
  have l1 := HL.out _ (fW.trans (Fr.drew W))
  have l2 := HL.out _ ((fW.trans (Fr.alloc W (.cells #[.int .i64 0, .int .i64 0, .int .i64 0, .int .i64 0, .bool false] 87))).trans (Fr.drew _))
  go_region_held3 (fun u => u.cell? ⟨b, 2, none⟩ = some (.map (some b2)) ∧ u.cell? ⟨w.heap.size, 2, none⟩ = some (.int .i64 o)) (go_keep) (fail)
  all_goals (
    clear l1 l2 HL
    obtain ⟨V, hV⟩ : ∃ V, V = (W.alloc (.cells #[.int .i64 co, .int .i64 cap, .int .i64 sent, .int .i64 got, .bool cl] 87)).drew := ⟨_, rfl⟩
    have fA : Fr W V := by rw [hV]; exact (Fr.alloc _ _).trans (Fr.drew _)
    have fV : Fr w V := fW.trans fA
    have x0 := fA.cell c0
    have x2 := fA.cell c2
    have y1 : V.cell? ⟨W.heap.size, 1, none⟩ = some (.int .i64 cap) := by rw [hV]; simp [go_sem]
    have y2 : V.cell? ⟨W.heap.size, 2, none⟩ = some (.int .i64 sent) := by rw [hV]; simp [go_sem]
    have y3 : V.cell? ⟨W.heap.size, 3, none⟩ = some (.int .i64 got) := by rw [hV]; simp [go_sem]
    rw [← hV]
    have hbV : w.heap.size ≤ V.heap.size := fV.size
    have z1 : w.heap.size < V.heap.size := World.block_lt_of_cell? V _ x0
    have z2 : W.heap.size < V.heap.size := World.block_lt_of_cell? V _ y1
    have n1 : ¬ w.heap.size = V.heap.size := by omega
    have n2 : ¬ w.heap.size = V.heap.size + 1 := by omega
    have n3 : ¬ W.heap.size = V.heap.size := by omega
    have n4 : ¬ W.heap.size = V.heap.size + 1 := by omega
    clear hV fA c0 c2 hb
    go_upto_block 0 with fail
    refine wp_block ?_
    refine wp_nestC [(1, _), (2, _), (3, _), (4, _), (5, _), (6, _), (7, _), (8, _), (9, _), (10, _), (11, _), (12, _), (13, _), (14, _), (15, _), (16, _)] _ ?_
    refine wp_opaque (fun Q0 hQ0 => ?_)
    have HQ0 : Hid _ := hQ0
    clear hQ0
    go_wp2_with fail
    refine HQ0.out _ _ _ (postC_at [(1, _)] (by rfl) ?_)
    clear HQ0
    refine wp_opaque (fun Q1 hQ1 => ?_)
    have HQ1 : Hid _ := hQ1
    clear hQ1
    go_wp2_with fail
    refine HQ1.out _ _ _ (postC_out _ (by rfl) (inBlock_same ?_))
    clear HQ1
    go_wp2_with (at_builtin; refine appGL layT _ rfl _ _ 49 _ 32 rfl Tryz.underlying49 Tryz.infoT rfl (by decide) w.heap.size (.slice (some ⟨V.heap.size + 1 + 1, 0, none⟩) 1 1) [⟨1, o, 0, true, false⟩] [] rfl (ownG_litK layT _ [⟨1, o, 0, true, false⟩] (by simp) _ rfl _ _ (by simp) (by omega)) ⟨V.heap.size + 1, 0, none⟩ 0 rfl (by simp) (by simp) (by simp; omega) ?_; intro v4 w4 hv4 hg4 hat4)
    go_ret
    refine ⟨v4, rfl, hv4, ?_⟩
    exact (((fV.trans (Fr.alloc _ _)).trans (Fr.alloc _ _)).trans (Fr.alloc _ _)).then hg4 (fun j hj => by simp only [Value.ownBlock, Option.some.injEq] at hj; omega))

set_option maxRecDepth 20000 in
set_option maxHeartbeats 2000000 in
theorem tchI_5 (b b2 : Nat) (co cap sent got : Int) (cl : Bool) (gr o wi l sz f t : Int) (w : World) (hb : w.cell? ⟨b, 2, none⟩ = some (.map (some b2)))
    (hL : ∀ u, Fr w u → (Instr.lookup 133 (.map (some b2)) (.int .i64 o) false).run Tryz.prog u = .ok (.agg #[.int .i64 co, .int .i64 cap, .int .i64 sent, .int .i64 got, .bool cl]) u) :
    Calls Tryz.prog 64 #[.pointer (some ⟨b, 0, none⟩), .agg #[.int .i64 5, .int .i64 gr, .int .i64 o, .int .i64 wi, .int .i64 l, .int .i64 sz, .int .i64 f, .int .i64 t]] w fun x w' => ∃ v, x = .returned v ∧ OwnG layT w' w.heap.size v [⟨2, o, 0, false, true⟩] ∧ Fr w w' := by
  have fW := Fr.alloc w (.cells #[.int .i64 5, .int .i64 gr, .int .i64 o, .int .i64 wi, .int .i64 l, .int .i64 sz, .int .i64 f, .int .i64 t] 31)
  have kE := EvAt.new w ⟨5, gr, o, wi, l, sz, f, t⟩ 31
  have hb := fW.cell hb
  simp only at kE
  go_enter Tryz.func64, Tryz.ntmps64
  go_wp2_with fail
  obtain ⟨W, hW⟩ : ∃ W, W = w.alloc (.cells #[.int .i64 5, .int .i64 gr, .int .i64 o, .int .i64 wi, .int .i64 l, .int .i64 sz, .int .i64 f, .int .i64 t] 31) := ⟨_, rfl⟩
  rw [← hW] at fW kE hb ⊢
  clear hW
  obtain ⟨c0, c1, c2, c3, c4, c5, c6, c7⟩ := kE
  simp only at c0 c2
  clear c1 c3 c4 c5 c6 c7
  have HL : Hid (∀ u, Fr w u → (Instr.lookup 133 (.map (some b2)) (.int .i64 o) false).run Tryz.prog u = .ok (.agg #[.int .i64 co, .int .i64 cap, .int .i64 sent, .int .i64 got, .bool cl]) u) := hL
  clear hL
  have l1 := HL.out _ (fW.trans (Fr.drew W))
  have l2 := HL.out _ ((fW.trans (Fr.alloc W (.cells #[.int .i64 0, .int .i64 0, .int .i64 0, .int .i64 0, .bool false] 87))).trans (Fr.drew _))
  go_region_held3 (fun u => u.cell? ⟨b, 2, none⟩ = some (.map (some b2)) ∧ u.cell? ⟨w.heap.size, 2, none⟩ = some (.int .i64 o)) (go_keep) (fail)
  all_goals (
    clear l1 l2 HL
    obtain ⟨V, hV⟩ : ∃ V, V = (W.alloc (.cells #[.int .i64 co, .int .i64 cap, .int .i64 sent, .int .i64 got, .bool cl] 87)).drew := ⟨_, rfl⟩
    have fA : Fr W V := by rw [hV]; exact (Fr.alloc _ _).trans (Fr.drew _)
    have fV : Fr w V := fW.trans fA
    have x0 := fA.cell c0
    have x2 := fA.cell c2
    have y1 : V.cell? ⟨W.heap.size, 1, none⟩ = some (.int .i64 cap) := by rw [hV]; simp [go_sem]
    have y2 : V.cell? ⟨W.heap.size, 2, none⟩ = some (.int .i64 sent) := by rw [hV]; simp [go_sem]
    have y3 : V.cell? ⟨W.heap.size, 3, none⟩ = some (.int .i64 got) := by rw [hV]; simp [go_sem]
    rw [← hV]
    have hbV : w.heap.size ≤ V.heap.size := fV.size
    have z1 : w.heap.size < V.heap.size := World.block_lt_of_cell? V _ x0
    have z2 : W.heap.size < V.heap.size := World.block_lt_of_cell? V _ y1
    have n1 : ¬ w.heap.size = V.heap.size := by omega
    have n2 : ¬ w.heap.size = V.heap.size + 1 := by omega
    have n3 : ¬ W.heap.size = V.heap.size := by omega
    have n4 : ¬ W.heap.size = V.heap.size + 1 := by omega
    clear hV fA c0 c2 hb
    go_upto_block 0 with fail
    refine wp_block ?_
    refine wp_nestC [(1, _), (2, _), (3, _), (4, _), (5, _), (6, _), (7, _), (8, _), (9, _), (10, _), (11, _), (12, _), (13, _), (14, _), (15, _), (16, _)] _ ?_
    refine wp_opaque (fun Q0 hQ0 => ?_)
    have HQ0 : Hid _ := hQ0
    clear hQ0
    go_wp2_with fail
    refine HQ0.out _ _ _ (postC_at [(1, _), (2, _), (3, _)] (by rfl) ?_)
    clear HQ0
    refine wp_opaque (fun Q1 hQ1 => ?_)
    have HQ1 : Hid _ := hQ1
    clear hQ1
    go_wp2_with fail
    refine HQ1.out _ _ _ (postC_out _ (by rfl) (inBlock_same ?_))
    clear HQ1
    go_wp2_with (at_builtin; refine appGL layT _ rfl _ _ 49 _ 32 rfl Tryz.underlying49 Tryz.infoT rfl (by decide) w.heap.size (.slice (some ⟨V.heap.size + 1 + 1, 0, none⟩) 1 1) [⟨2, o, 0, false, true⟩] [] rfl (ownG_litK layT _ [⟨2, o, 0, false, true⟩] (by simp) _ rfl _ _ (by simp) (by omega)) ⟨V.heap.size + 1, 0, none⟩ 0 rfl (by simp) (by simp) (by simp; omega) ?_; intro v4 w4 hv4 hg4 hat4)
    go_ret
    refine ⟨v4, rfl, hv4, ?_⟩
    exact (((fV.trans (Fr.alloc _ _)).trans (Fr.alloc _ _)).trans (Fr.alloc _ _)).then hg4 (fun j hj => by simp only [Value.ownBlock, Option.some.injEq] at hj; omega))

set_option maxRecDepth 20000 in
set_option maxHeartbeats 2000000 in
theorem tchI_6 (b b2 : Nat) (co cap sent got : Int) (cl : Bool) (gr o wi l sz f t : Int) (w : World) (hb : w.cell? ⟨b, 2, none⟩ = some (.map (some b2)))
    (hL : ∀ u, Fr w u → (Instr.lookup 133 (.map (some b2)) (.int .i64 o) false).run Tryz.prog u = .ok (.agg #[.int .i64 co, .int .i64 cap, .int .i64 sent, .int .i64 got, .bool cl]) u) :
    Calls Tryz.prog 64 #[.pointer (some ⟨b, 0, none⟩), .agg #[.int .i64 6, .int .i64 gr, .int .i64 o, .int .i64 wi, .int .i64 l, .int .i64 sz, .int .i64 f, .int .i64 t]] w fun x w' => ∃ v, x = .returned v ∧ OwnG layT w' w.heap.size v [] ∧ Fr w w' := by
  have fW := Fr.alloc w (.cells #[.int .i64 6, .int .i64 gr, .int .i64 o, .int .i64 wi, .int .i64 l, .int .i64 sz, .int .i64 f, .int .i64 t] 31)
  have kE := EvAt.new w ⟨6, gr, o, wi, l, sz, f, t⟩ 31
  have hb := fW.cell hb
  simp only at kE
  go_enter Tryz.func64, Tryz.ntmps64
  go_wp2_with fail
  obtain ⟨W, hW⟩ : ∃ W, W = w.alloc (.cells #[.int .i64 6, .int .i64 gr, .int .i64 o, .int .i64 wi, .int .i64 l, .int .i64 sz, .int .i64 f, .int .i64 t] 31) := ⟨_, rfl⟩
  rw [← hW] at fW kE hb ⊢
  clear hW
  obtain ⟨c0, c1, c2, c3, c4, c5, c6, c7⟩ := kE
  simp only at c0 c2
  clear c1 c3 c4 c5 c6 c7
  have HL : Hid (∀ u, Fr w u → (Instr.lookup 133 (.map (some b2)) (.int .i64 o) false).run Tryz.prog u = .ok (.agg #[.int .i64 co, .int .i64 cap, .int .i64 sent, .int .i64 got, .bool cl]) u) := hL
  clear hL
  have l1 := HL.out _ (fW.trans (Fr.drew W))
  have l2 := HL.out _ ((fW.trans (Fr.alloc W (.cells #[.int .i64 0, .int .i64 0, .int .i64 0, .int .i64 0, .bool false] 87))).trans (Fr.drew _))
  go_region_held3 (fun u => u.cell? ⟨b, 2, none⟩ = some (.map (some b2)) ∧ u.cell? ⟨w.heap.size, 2, none⟩ = some (.int .i64 o)) (go_keep) (fail)
  all_goals (
    clear l1 l2 HL
    obtain ⟨V, hV⟩ : ∃ V, V = (W.alloc (.cells #[.int .i64 co, .int .i64 cap, .int .i64 sent, .int .i64 got, .bool cl] 87)).drew := ⟨_, rfl⟩
    have fA : Fr W V := by rw [hV]; exact (Fr.alloc _ _).trans (Fr.drew _)
    have fV : Fr w V := fW.trans fA
    have x0 := fA.cell c0
    have x2 := fA.cell c2
    have y1 : V.cell? ⟨W.heap.size, 1, none⟩ = some (.int .i64 cap) := by rw [hV]; simp [go_sem]
    have y2 : V.cell? ⟨W.heap.size, 2, none⟩ = some (.int .i64 sent) := by rw [hV]; simp [go_sem]
    have y3 : V.cell? ⟨W.heap.size, 3, none⟩ = some (.int .i64 got) := by rw [hV]; simp [go_sem]
    rw [← hV]
    have hbV : w.heap.size ≤ V.heap.size := fV.size
    have z1 : w.heap.size < V.heap.size := World.block_lt_of_cell? V _ x0
    have z2 : W.heap.size < V.heap.size := World.block_lt_of_cell? V _ y1
    have n1 : ¬ w.heap.size = V.heap.size := by omega
    have n2 : ¬ w.heap.size = V.heap.size + 1 := by omega
    have n3 : ¬ W.heap.size = V.heap.size := by omega
    have n4 : ¬ W.heap.size = V.heap.size + 1 := by omega
    clear hV fA c0 c2 hb
    go_upto_block 0 with fail
    refine wp_block ?_
    refine wp_nestC [(1, _), (2, _), (3, _), (4, _), (5, _), (6, _), (7, _), (8, _), (9, _), (10, _), (11, _), (12, _), (13, _), (14, _), (15, _), (16, _)] _ ?_
    refine wp_opaque (fun Q0 hQ0 => ?_)
    have HQ0 : Hid _ := hQ0
    clear hQ0
    go_wp2_with fail
    refine HQ0.out _ _ _ (postC_at [(1, _), (2, _), (3, _), (4, _), (5, _), (6, _), (7, _), (8, _), (9, _), (10, _), (11, _), (12, _), (13, _), (14, _), (15, _)] (by rfl) ?_)
    clear HQ0
    refine wp_opaque (fun Q1 hQ1 => ?_)
    have HQ1 : Hid _ := hQ1
    clear hQ1
    go_wp2_with fail
    refine HQ1.out _ _ _ (postC_ret _ ?_)
    clear HQ1
    repeat (first | refine inBlock_ret ?_ | refine then_ret ?_)
    go_ret
    refine ⟨.slice (some ⟨V.heap.size + 1 + 1, 0, none⟩) 0 0, rfl, ?_, ?_⟩
    · exact ownG_litK layT _ [] (by simp) _ rfl _ _ (by simp) (by omega)
    · exact ((fV.trans (Fr.alloc _ _)).trans (Fr.alloc _ _)).trans (Fr.alloc _ _))

set_option maxRecDepth 20000 in
set_option maxHeartbeats 2000000 in
theorem tchI_7 (b b2 : Nat) (co cap sent got : Int) (cl : Bool) (gr o wi l sz f t : Int) (w : World) (hb : w.cell? ⟨b, 2, none⟩ = some (.map (some b2))) (hc : cap ≠ 0) (hs : 0 ≤ got ∧ 0 ≤ sent ∧ got ≤ 1000000 ∧ sent ≤ 1000000 ∧ 0 ≤ cap ∧ cap ≤ 8)
    (hL : ∀ u, Fr w u → (Instr.lookup 133 (.map (some b2)) (.int .i64 o) false).run Tryz.prog u = .ok (.agg #[.int .i64 co, .int .i64 cap, .int .i64 sent, .int .i64 got, .bool cl]) u) :
    Calls Tryz.prog 64 #[.pointer (some ⟨b, 0, none⟩), .agg #[.int .i64 7, .int .i64 gr, .int .i64 o, .int .i64 wi, .int .i64 l, .int .i64 sz, .int .i64 f, .int .i64 t]] w fun x w' => ∃ v, x = .returned v ∧ OwnG layT w' w.heap.size v [⟨3, o, sent % cap, true, true⟩] ∧ Fr w w' := by
  have fW := Fr.alloc w (.cells #[.int .i64 7, .int .i64 gr, .int .i64 o, .int .i64 wi, .int .i64 l, .int .i64 sz, .int .i64 f, .int .i64 t] 31)
  have kE := EvAt.new w ⟨7, gr, o, wi, l, sz, f, t⟩ 31
  have hb := fW.cell hb
  simp only at kE
  go_enter Tryz.func64, Tryz.ntmps64
  go_wp2_with fail
  obtain ⟨W, hW⟩ : ∃ W, W = w.alloc (.cells #[.int .i64 7, .int .i64 gr, .int .i64 o, .int .i64 wi, .int .i64 l, .int .i64 sz, .int .i64 f, .int .i64 t] 31) := ⟨_, rfl⟩
  rw [← hW] at fW kE hb ⊢
  clear hW
  obtain ⟨c0, c1, c2, c3, c4, c5, c6, c7⟩ := kE
  simp only at c0 c2
  clear c1 c3 c4 c5 c6 c7
  have HL : Hid (∀ u, Fr w u → (Instr.lookup 133 (.map (some b2)) (.int .i64 o) false).run Tryz.prog u = .ok (.agg #[.int .i64 co, .int .i64 cap, .int .i64 sent, .int .i64 got, .bool cl]) u) := hL
  clear hL
  have l1 := HL.out _ (fW.trans (Fr.drew W))
  have l2 := HL.out _ ((fW.trans (Fr.alloc W (.cells #[.int .i64 0, .int .i64 0, .int .i64 0, .int .i64 0, .bool false] 87))).trans (Fr.drew _))
  go_region_held3 (fun u => u.cell? ⟨b, 2, none⟩ = some (.map (some b2)) ∧ u.cell? ⟨w.heap.size, 2, none⟩ = some (.int .i64 o)) (go_keep) (fail)
  all_goals (
    clear l1 l2 HL
    obtain ⟨V, hV⟩ : ∃ V, V = (W.alloc (.cells #[.int .i64 co, .int .i64 cap, .int .i64 sent, .int .i64 got, .bool cl] 87)).drew := ⟨_, rfl⟩
    have fA : Fr W V := by rw [hV]; exact (Fr.alloc _ _).trans (Fr.drew _)
    have fV : Fr w V := fW.trans fA
    have x0 := fA.cell c0
    have x2 := fA.cell c2
    have y1 : V.cell? ⟨W.heap.size, 1, none⟩ = some (.int .i64 cap) := by rw [hV]; simp [go_sem]
    have y2 : V.cell? ⟨W.heap.size, 2, none⟩ = some (.int .i64 sent) := by rw [hV]; simp [go_sem]
    have y3 : V.cell? ⟨W.heap.size, 3, none⟩ = some (.int .i64 got) := by rw [hV]; simp [go_sem]
    rw [← hV]
    have hbV : w.heap.size ≤ V.heap.size := fV.size
    have z1 : w.heap.size < V.heap.size := World.block_lt_of_cell? V _ x0
    have z2 : W.heap.size < V.heap.size := World.block_lt_of_cell? V _ y1
    have n1 : ¬ w.heap.size = V.heap.size := by omega
    have n2 : ¬ w.heap.size = V.heap.size + 1 := by omega
    have n3 : ¬ W.heap.size = V.heap.size := by omega
    have n4 : ¬ W.heap.size = V.heap.size + 1 := by omega
    clear hV fA c0 c2 hb
    obtain ⟨s1, s2, s3, s4, s5, s6⟩ := hs
    have hc1 : ¬ cap = 0 := hc
    go_upto_block 0 with fail
    refine wp_block ?_
    refine wp_nestC [(1, _), (2, _), (3, _), (4, _), (5, _), (6, _), (7, _), (8, _), (9, _), (10, _), (11, _), (12, _), (13, _), (14, _), (15, _), (16, _)] _ ?_
    refine wp_opaque (fun Q0 hQ0 => ?_)
    have HQ0 : Hid _ := hQ0
    clear hQ0
    go_wp2_with fail
    refine HQ0.out _ _ _ (postC_at [(1, _), (2, _), (3, _), (4, _), (5, _)] (by rfl) ?_)
    clear HQ0
    refine wp_opaque (fun Q1 hQ1 => ?_)
    have HQ1 : Hid _ := hQ1
    clear hQ1
    go_wp2_with fail
    refine HQ1.out _ _ _ (postC_out _ (by rfl) (inBlock_same ?_))
    clear HQ1
    go_wp2_with (at_builtin; refine appGL layT _ rfl _ _ 49 _ 32 rfl Tryz.underlying49 Tryz.infoT rfl (by decide) w.heap.size (.slice (some ⟨V.heap.size + 1 + 1, 0, none⟩) 1 1) [⟨3, o, sent % cap, true, true⟩] [] rfl (ownG_litK layT _ [⟨3, o, sent % cap, true, true⟩] (by simp) _ rfl _ _ (by simp) (by omega)) ⟨V.heap.size + 1, 0, none⟩ 0 rfl (by simp) (by simp) (by simp; omega) ?_; intro v4 w4 hv4 hg4 hat4)
    go_ret
    refine ⟨v4, rfl, hv4, ?_⟩
    exact (((fV.trans (Fr.alloc _ _)).trans (Fr.alloc _ _)).trans (Fr.alloc _ _)).then hg4 (fun j hj => by simp only [Value.ownBlock, Option.some.injEq] at hj; omega))
end Go.Proofs.YtihdablgnmkjnaaGreatDoor
