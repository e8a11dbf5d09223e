/-
  Pack AU: TchSa, TchSd, EvsTo, EvsApp.
-/
import Derived.Test.YtcofhmikdkkigaaGreatDoorPrAD
import Derived.Test.YtcofhmikdkkigaaGreatDoorPrAC
import Derived.Test.YtcofhmikdkkigaaGreatDoorPrAA
import Derived.Maps.AppendAt
namespace Go.Proofs.YtcofhmikdkkigaaGreatDoor
open Go.RowKit

set_option maxRecDepth 20000 in
set_option maxHeartbeats 1000000 in
theorem l6T_1 (fg fo fw fl fs ff ft : Int) (ao : Option Addr) (n c : Nat) (es : List Ev) (w : World) (hn : es.length = n) (h : ReadsE w ao es) (j : Nat) (hj : j < es.length) (hF : es[j] = ⟨1, fg, fo, fw, fl, fs, ff, ft⟩) :
    Calls Tryz.prog 181 #[.slice ao n c, .int .i64 j] w fun x w' => ∃ v, x = .returned v ∧ OwnG layT w' w.heap.size v [] ∧ Fr w w' := by
  subst hn
  have hl := h.len
  obtain ⟨fb, off, rfl, hev⟩ := h.at_ j hj
  have HJ := hev j hj
  rw [hF] at HJ
  obtain ⟨d0, d1, d2, d3, d4, d5, d6, d7⟩ := HJ
  simp only at d0 d1 d2 d3 d4 d5 d6 d7
  have hjn : (j : Int) < es.length := by omega
  clear hev hF h
  go_enter Tryz.func181, Tryz.ntmps181
  go_wp2_with fail
  go_ret
  refine ⟨.slice (some ⟨w.heap.size + 1 + 1 + 1 + 1, 0, none⟩) 0 0, rfl, ?_, ?_⟩
  · exact ownG_litK layT _ [] (by simp) _ rfl _ _ (by simp) (by omega)
  · exact ((((Fr.alloc _ _).trans (Fr.alloc _ _)).trans (Fr.alloc _ _)).trans (Fr.alloc _ _)).trans (Fr.alloc _ _)

set_option maxRecDepth 20000 in
set_option maxHeartbeats 1000000 in
theorem l6T_2 (fg fo fw fl fs ff ft : Int) (ao : Option Addr) (n c : Nat) (es : List Ev) (w : World) (hn : es.length = n) (h : ReadsE w ao es) (j : Nat) (hj : j < es.length) (hF : es[j] = ⟨2, fg, fo, fw, fl, fs, ff, ft⟩) :
    Calls Tryz.prog 181 #[.slice ao n c, .int .i64 j] w fun x w' => ∃ v, x = .returned v ∧ OwnG layT w' w.heap.size v [⟨1, fo, 0, true, false⟩, ⟨2, fo, 0, true, false⟩] ∧ Fr w w' := by
  subst hn
  have hl := h.len
  obtain ⟨fb, off, rfl, hev⟩ := h.at_ j hj
  have HJ := hev j hj
  rw [hF] at HJ
  obtain ⟨d0, d1, d2, d3, d4, d5, d6, d7⟩ := HJ
  simp only at d0 d1 d2 d3 d4 d5 d6 d7
  have hjn : (j : Int) < es.length := by omega
  clear hev hF h
  go_enter Tryz.func181, Tryz.ntmps181
  go_wp2_with fail
  go_ret
  refine ⟨.slice (some ⟨w.heap.size + 1 + 1 + 1 + 1 + 1, 0, none⟩) 2 2, rfl, ?_, ?_⟩
  · exact ownG_litK layT _ [⟨1, fo, 0, true, false⟩, ⟨2, fo, 0, true, false⟩] (by simp) _ rfl _ _ (by simp) (by omega)
  · exact (((((Fr.alloc _ _).trans (Fr.alloc _ _)).trans (Fr.alloc _ _)).trans (Fr.alloc _ _)).trans (Fr.alloc _ _)).trans (Fr.alloc _ _)

set_option maxRecDepth 20000 in
set_option maxHeartbeats 1000000 in
theorem l6T_3 (fg fo fw fl fs ff ft : Int) (ao : Option Addr) (n c : Nat) (es : List Ev) (w : World) (hn : es.length = n) (h : ReadsE w ao es) (j : Nat) (hj : j < es.length) (hF : es[j] = ⟨3, fg, fo, fw, fl, fs, ff, ft⟩) :
    Calls Tryz.prog 181 #[.slice ao n c, .int .i64 j] w fun x w' => ∃ v, x = .returned v ∧ OwnG layT w' w.heap.size v [⟨1, fo, 0, false, true⟩] ∧ Fr w w' := by
  subst hn
  have hl := h.len
  obtain ⟨fb, off, rfl, hev⟩ := h.at_ j hj
  have HJ := hev j hj
  rw [hF] at HJ
  obtain ⟨d0, d1, d2, d3, d4, d5, d6, d7⟩ := HJ
  simp only at d0 d1 d2 d3 d4 d5 d6 d7
  have hjn : (j : Int) < es.length := by omega
  clear hev hF h
  go_enter Tryz.func181, Tryz.ntmps181
  go_wp2_with fail
  go_ret
  refine ⟨.slice (some ⟨w.heap.size + 1 + 1 + 1 + 1, 0, none⟩) 1 1, rfl, ?_, ?_⟩
  · exact ownG_litK layT _ [⟨1, fo, 0, false, true⟩] (by simp) _ rfl _ _ (by simp) (by omega)
  · exact ((((Fr.alloc _ _).trans (Fr.alloc _ _)).trans (Fr.alloc _ _)).trans (Fr.alloc _ _)).trans (Fr.alloc _ _)

set_option maxRecDepth 20000 in
set_option maxHeartbeats 1000000 in
theorem l6T_4 (fg fo fw fl fs ff ft : Int) (ao : Option Addr) (n c : Nat) (es : List Ev) (w : World) (hn : es.length = n) (h : ReadsE w ao es) (j : Nat) (hj : j < es.length) (hF : es[j] = ⟨4, fg, fo, fw, fl, fs, ff, ft⟩) :
    Calls Tryz.prog 181 #[.slice ao n c, .int .i64 j] w fun x w' => ∃ v, x = .returned v ∧ OwnG layT w' w.heap.size v [⟨1, fo, 0, true, false⟩] ∧ Fr w w' := by
  subst hn
  have hl := h.len
  obtain ⟨fb, off, rfl, hev⟩ := h.at_ j hj
  have HJ := hev j hj
  rw [hF] at HJ
  obtain ⟨d0, d1, d2, d3, d4, d5, d6, d7⟩ := HJ
  simp only at d0 d1 d2 d3 d4 d5 d6 d7
  have hjn : (j : Int) < es.length := by omega
  clear hev hF h
  go_enter Tryz.func181, Tryz.ntmps181
  go_wp2_with fail
  go_ret
  refine ⟨.slice (some ⟨w.heap.size + 1 + 1 + 1 + 1, 0, none⟩) 1 1, rfl, ?_, ?_⟩
  · exact ownG_litK layT _ [⟨1, fo, 0, true, false⟩] (by simp) _ rfl _ _ (by simp) (by omega)
  · exact ((((Fr.alloc _ _).trans (Fr.alloc _ _)).trans (Fr.alloc _ _)).trans (Fr.alloc _ _)).trans (Fr.alloc _ _)

set_option maxRecDepth 20000 in
set_option maxHeartbeats 1000000 in
theorem l6T_5 (fg fo fw fl fs ff ft : Int) (ao : Option Addr) (n c : Nat) (es : List Ev) (w : World) (hn : es.length = n) (h : ReadsE w ao es) (j : Nat) (hj : j < es.length) (hF : es[j] = ⟨5, fg, fo, fw, fl, fs, ff, ft⟩) :
    Calls Tryz.prog 181 #[.slice ao n c, .int .i64 j] w fun x w' => ∃ v, x = .returned v ∧ OwnG layT w' w.heap.size v [⟨2, fo, 0, false, true⟩] ∧ Fr w w' := by
  subst hn
  have hl := h.len
  obtain ⟨fb, off, rfl, hev⟩ := h.at_ j hj
  have HJ := hev j hj
  rw [hF] at HJ
  obtain ⟨d0, d1, d2, d3, d4, d5, d6, d7⟩ := HJ
  simp only at d0 d1 d2 d3 d4 d5 d6 d7
  have hjn : (j : Int) < es.length := by omega
  clear hev hF h
  go_enter Tryz.func181, Tryz.ntmps181
  go_wp2_with fail
  go_ret
  refine ⟨.slice (some ⟨w.heap.size + 1 + 1 + 1 + 1, 0, none⟩) 1 1, rfl, ?_, ?_⟩
  · exact ownG_litK layT _ [⟨2, fo, 0, false, true⟩] (by simp) _ rfl _ _ (by simp) (by omega)
  · exact ((((Fr.alloc _ _).trans (Fr.alloc _ _)).trans (Fr.alloc _ _)).trans (Fr.alloc _ _)).trans (Fr.alloc _ _)

set_option maxRecDepth 20000 in
set_option maxHeartbeats 1000000 in
theorem l6T_6 (fg fo fw fl fs ff ft : Int) (ao : Option Addr) (n c : Nat) (es : List Ev) (w : World) (hn : es.length = n) (h : ReadsE w ao es) (j : Nat) (hj : j < es.length) (hF : es[j] = ⟨6, fg, fo, fw, fl, fs, ff, ft⟩) :
    Calls Tryz.prog 181 #[.slice ao n c, .int .i64 j] w fun x w' => ∃ v, x = .returned v ∧ OwnG layT w' w.heap.size v [] ∧ Fr w w' := by
  subst hn
  have hl := h.len
  obtain ⟨fb, off, rfl, hev⟩ := h.at_ j hj
  have HJ := hev j hj
  rw [hF] at HJ
  obtain ⟨d0, d1, d2, d3, d4, d5, d6, d7⟩ := HJ
  simp only at d0 d1 d2 d3 d4 d5 d6 d7
  have hjn : (j : Int) < es.length := by omega
  clear hev hF h
  go_enter Tryz.func181, Tryz.ntmps181
  go_wp2_with fail
  go_ret
  refine ⟨.slice (some ⟨w.heap.size + 1 + 1 + 1 + 1, 0, none⟩) 0 0, rfl, ?_, ?_⟩
  · exact ownG_litK layT _ [] (by simp) _ rfl _ _ (by simp) (by omega)
  · exact ((((Fr.alloc _ _).trans (Fr.alloc _ _)).trans (Fr.alloc _ _)).trans (Fr.alloc _ _)).trans (Fr.alloc _ _)
end Go.Proofs.YtcofhmikdkkigaaGreatDoor
namespace Go.Proofs.YtcofhmikdkkigaaGreatDoor
open Go.RowKit

def TchK (w : World) (b : Nat) (c : Tch) : Prop := w.heap[b]? = some (.cells #[.int .i64 c.sp, .int .i64 c.ob, .int .i64 c.sl, .bool c.tk, .bool c.gv] 226 (0, 0))
theorem TchK.lt {w : World} {b : Nat} {c : Tch} (h : TchK w b c) : b < w.heap.size := (Array.getElem?_eq_some_iff.1 h).1
theorem TchK.fr {w w' : World} {b : Nat} {c : Tch} (h : TchK w b c) (k : Fr w w') : TchK w' b c := (k.block b h.lt (by simp)).trans h
theorem TchK.free {w : World} {b : Nat} {c : Tch} (h : TchK w b c) (i : Nat) : w.frozen? ⟨b, i, none⟩ = false := frozen_of_row w b i _ _ h
theorem TchK.at {w : World} {b : Nat} {c : Tch} (h : TchK w b c) : w.cell? ⟨b, 0, none⟩ = some (.int .i64 c.sp) ∧ w.cell? ⟨b, 1, none⟩ = some (.int .i64 c.ob) ∧ w.cell? ⟨b, 2, none⟩ = some (.int .i64 c.sl) ∧ w.cell? ⟨b, 3, none⟩ = some (.bool c.tk) ∧ w.cell? ⟨b, 4, none⟩ = some (.bool c.gv) :=
  ⟨cell_of_row w b 0 _ _ _ h, cell_of_row w b 1 _ _ _ h, cell_of_row w b 2 _ _ _ h, cell_of_row w b 3 _ _ _ h, cell_of_row w b 4 _ _ _ h⟩

set_option maxRecDepth 20000 in
set_option maxHeartbeats 1000000 in
theorem l6T_7 (fg fo fw fl fs ff ft : Int) (ao : Option Addr) (n c : Nat) (es : List Ev) (w : World) (hn : es.length = n) (h : ReadsE w ao es) (j : Nat) (hj : j < es.length) (hF : es[j] = ⟨7, fg, fo, fw, fl, fs, ff, ft⟩) (hr : capK es[j].o (es.take j) ≠ 0) :
    Calls Tryz.prog 181 #[.slice ao n c, .int .i64 j] w fun x w' => ∃ v, x = .returned v ∧ OwnG layT w' w.heap.size v [⟨3, fo, slotE (es.take j) es[j], true, true⟩] ∧ Fr w w' := by
  have cS := fun u (f : Fr w u) => l6Slot_any ao n c es u hn (h.fr f) j hj hr
  obtain ⟨Z, hZ⟩ : ∃ Z, Z = slotE (es.take j) es[j] := ⟨_, rfl⟩
  simp only [← hZ] at cS ⊢
  clear hZ hr
  subst hn
  have hl := h.len
  obtain ⟨fb, off, rfl, hev⟩ := h.at_ j hj
  have HJ := hev j hj
  rw [hF] at HJ
  obtain ⟨d0, d1, d2, d3, d4, d5, d6, d7⟩ := HJ
  simp only at d0 d1 d2 d3 d4 d5 d6 d7
  have hjn : (j : Int) < es.length := by omega
  clear hev hF h
  have f1 : Fr w ((((w.alloc (.cells #[.int .i64 7, .int .i64 fg, .int .i64 fo, .int .i64 fw, .int .i64 fl, .int .i64 fs, .int .i64 ff, .int .i64 ft] 31)).alloc (.cells #[.int .i64 0, .int .i64 fo, .int .i64 0, .bool true, .bool false] 226)).alloc (.cells #[.int .i64 0, .int .i64 fo, .int .i64 0, .bool false, .bool true] 226)).alloc (.cells #[.int .i64 3, .int .i64 fo, .int .i64 0, .bool true, .bool true] 226)) := (((Fr.alloc _ _).trans (Fr.alloc _ _)).trans (Fr.alloc _ _)).trans (Fr.alloc _ _)
  have hK : TchK ((((w.alloc (.cells #[.int .i64 7, .int .i64 fg, .int .i64 fo, .int .i64 fw, .int .i64 fl, .int .i64 fs, .int .i64 ff, .int .i64 ft] 31)).alloc (.cells #[.int .i64 0, .int .i64 fo, .int .i64 0, .bool true, .bool false] 226)).alloc (.cells #[.int .i64 0, .int .i64 fo, .int .i64 0, .bool false, .bool true] 226)).alloc (.cells #[.int .i64 3, .int .i64 fo, .int .i64 0, .bool true, .bool true] 226)) (w.heap.size + 1 + 1 + 1) ⟨3, fo, 0, true, true⟩ := by
    have := heap_alloc_new (((w.alloc (.cells #[.int .i64 7, .int .i64 fg, .int .i64 fo, .int .i64 fw, .int .i64 fl, .int .i64 fs, .int .i64 ff, .int .i64 ft] 31)).alloc (.cells #[.int .i64 0, .int .i64 fo, .int .i64 0, .bool true, .bool false] 226)).alloc (.cells #[.int .i64 0, .int .i64 fo, .int .i64 0, .bool false, .bool true] 226)) (.cells #[.int .i64 3, .int .i64 fo, .int .i64 0, .bool true, .bool true] 226)
    simpa [TchK] using this
  go_enter Tryz.func181, Tryz.ntmps181
  go_wp2_with fail
  refine (cS _ f1).mono ?_
  rintro x u2 ⟨rfl, f2⟩
  have hK2 := hK.fr f2
  obtain ⟨t0, t1, t2, t3, t4⟩ := hK2.at
  simp only at t0 t1 t2 t3 t4
  have tf := hK2.free 2
  have F2 := f1.trans f2
  have sz := f2.size
  simp at sz
  go_wp2_with fail
  go_ret
  refine ⟨.slice (some ⟨u2.heap.size, 0, none⟩) 1 1, rfl, ?_, ?_⟩
  · exact ownG_litK layT _ [⟨3, fo, Z, true, true⟩] (by simp) _ rfl _ _ (by simp) (by omega)
  · exact (F2.then (grown_set u2 (w.heap.size + 1 + 1 + 1) 2 (.int .i64 Z)) (fun j hj => by simp only [Option.some.injEq] at hj; omega)).trans (Fr.alloc _ _)

set_option maxRecDepth 20000 in
set_option maxHeartbeats 1000000 in
theorem l6T_8 (fg fo fw fl fs ff ft : Int) (ao : Option Addr) (n c : Nat) (es : List Ev) (w : World) (hn : es.length = n) (h : ReadsE w ao es) (j : Nat) (hj : j < es.length) (hF : es[j] = ⟨8, fg, fo, fw, fl, fs, ff, ft⟩) (hr : capK es[j].o (es.take j) ≠ 0) :
    Calls Tryz.prog 181 #[.slice ao n c, .int .i64 j] w fun x w' => ∃ v, x = .returned v ∧ OwnG layT w' w.heap.size v [⟨3, fo, slotE (es.take j) es[j], true, true⟩] ∧ Fr w w' := by
  have cS := fun u (f : Fr w u) => l6Slot_any ao n c es u hn (h.fr f) j hj hr
  obtain ⟨Z, hZ⟩ : ∃ Z, Z = slotE (es.take j) es[j] := ⟨_, rfl⟩
  simp only [← hZ] at cS ⊢
  clear hZ hr
  subst hn
  have hl := h.len
  obtain ⟨fb, off, rfl, hev⟩ := h.at_ j hj
  have HJ := hev j hj
  rw [hF] at HJ
  obtain ⟨d0, d1, d2, d3, d4, d5, d6, d7⟩ := HJ
  simp only at d0 d1 d2 d3 d4 d5 d6 d7
  have hjn : (j : Int) < es.length := by omega
  clear hev hF h
  have f1 : Fr w ((((w.alloc (.cells #[.int .i64 8, .int .i64 fg, .int .i64 fo, .int .i64 fw, .int .i64 fl, .int .i64 fs, .int .i64 ff, .int .i64 ft] 31)).alloc (.cells #[.int .i64 0, .int .i64 fo, .int .i64 0, .bool true, .bool false] 226)).alloc (.cells #[.int .i64 0, .int .i64 fo, .int .i64 0, .bool false, .bool true] 226)).alloc (.cells #[.int .i64 3, .int .i64 fo, .int .i64 0, .bool true, .bool true] 226)) := (((Fr.alloc _ _).trans (Fr.alloc _ _)).trans (Fr.alloc _ _)).trans (Fr.alloc _ _)
  have hK : TchK ((((w.alloc (.cells #[.int .i64 8, .int .i64 fg, .int .i64 fo, .int .i64 fw, .int .i64 fl, .int .i64 fs, .int .i64 ff, .int .i64 ft] 31)).alloc (.cells #[.int .i64 0, .int .i64 fo, .int .i64 0, .bool true, .bool false] 226)).alloc (.cells #[.int .i64 0, .int .i64 fo, .int .i64 0, .bool false, .bool true] 226)).alloc (.cells #[.int .i64 3, .int .i64 fo, .int .i64 0, .bool true, .bool true] 226)) (w.heap.size + 1 + 1 + 1) ⟨3, fo, 0, true, true⟩ := by
    have := heap_alloc_new (((w.alloc (.cells #[.int .i64 8, .int .i64 fg, .int .i64 fo, .int .i64 fw, .int .i64 fl, .int .i64 fs, .int .i64 ff, .int .i64 ft] 31)).alloc (.cells #[.int .i64 0, .int .i64 fo, .int .i64 0, .bool true, .bool false] 226)).alloc (.cells #[.int .i64 0, .int .i64 fo, .int .i64 0, .bool false, .bool true] 226)) (.cells #[.int .i64 3, .int .i64 fo, .int .i64 0, .bool true, .bool true] 226)
    simpa [TchK] using this
  go_enter Tryz.func181, Tryz.ntmps181
  go_wp2_with fail
  refine (cS _ f1).mono ?_
  rintro x u2 ⟨rfl, f2⟩
  have hK2 := hK.fr f2
  obtain ⟨t0, t1, t2, t3, t4⟩ := hK2.at
  simp only at t0 t1 t2 t3 t4
  have tf := hK2.free 2
  have F2 := f1.trans f2
  have sz := f2.size
  simp at sz
  go_wp2_with fail
  go_ret
  refine ⟨.slice (some ⟨u2.heap.size, 0, none⟩) 1 1, rfl, ?_, ?_⟩
  · exact ownG_litK layT _ [⟨3, fo, Z, true, true⟩] (by simp) _ rfl _ _ (by simp) (by omega)
  · exact (F2.then (grown_set u2 (w.heap.size + 1 + 1 + 1) 2 (.int .i64 Z)) (fun j hj => by simp only [Option.some.injEq] at hj; omega)).trans (Fr.alloc _ _)
end Go.Proofs.YtcofhmikdkkigaaGreatDoor
namespace Go.Proofs.YtcofhmikdkkigaaGreatDoor
open Go.RowKit

theorem Tryz.info31 : (Tryz.prog.info? 31).map (fun i => (i.zero, i.size, i.bytes)) = some (some (.agg #[.int .i64 0, .int .i64 0, .int .i64 0, .int .i64 0, .int .i64 0, .int .i64 0, .int .i64 0, .int .i64 0]), 8, 64) := by kernel_rfl

theorem sz_any (ao : Option Addr) (n cap : Nat) (w : World) (hn : n ≤ 9223372036854775807) :
    Calls Tryz.prog 31 #[.slice ao n cap, .int .i64 1048576] w fun e w' => e = .returned (.int .i64 (if n ≤ 1048576 then 1048576 - (n : Int) else -1)) ∧ w' = w := by
  by_cases h : n ≤ 1048576
  · rw [if_pos h]
    go_enter Tryz.func31, Tryz.ntmps31
    go_wp2
    go_ret
    exact ⟨rfl, rfl⟩
  · rw [if_neg h]
    go_enter Tryz.func31, Tryz.ntmps31
    go_wp2
    go_ret
    exact ⟨rfl, rfl⟩

theorem set8 (A B : List Value) (m0 m1 m2 m3 m4 m5 m6 m7 a0 a1 a2 a3 a4 a5 a6 a7 : Value) (n : Nat) (hn : A.length = n) :
    ((((((((A ++ m0 :: m1 :: m2 :: m3 :: m4 :: m5 :: m6 :: m7 :: B).set n a0).set (n + 1) a1).set (n + 2) a2).set (n + 3) a3).set (n + 4) a4).set (n + 5) a5).set (n + 6) a6).set (n + 7) a7
      = A ++ a0 :: a1 :: a2 :: a3 :: a4 :: a5 :: a6 :: a7 :: B := by
  subst hn
  simp
theorem drop8 (L : List Value) (n : Nat) (h : n + 8 ≤ L.length) : ∃ m0 m1 m2 m3 m4 m5 m6 m7, L.drop n = m0 :: m1 :: m2 :: m3 :: m4 :: m5 :: m6 :: m7 :: L.drop (n + 8) := by
  refine ⟨L[n], L[n + 1], L[n + 2], L[n + 3], L[n + 4], L[n + 5], L[n + 6], L[n + 7], ?_⟩
  rw [List.drop_eq_getElem_cons (by omega : n < L.length), List.drop_eq_getElem_cons (by omega : n + 1 < L.length), List.drop_eq_getElem_cons (by omega : n + 1 + 1 < L.length), List.drop_eq_getElem_cons (by omega : n + 1 + 1 + 1 < L.length),
    List.drop_eq_getElem_cons (by omega : n + 1 + 1 + 1 + 1 < L.length), List.drop_eq_getElem_cons (by omega : n + 1 + 1 + 1 + 1 + 1 < L.length), List.drop_eq_getElem_cons (by omega : n + 1 + 1 + 1 + 1 + 1 + 1 < L.length), List.drop_eq_getElem_cons (by omega : n + 1 + 1 + 1 + 1 + 1 + 1 + 1 < L.length)]
theorem grown_tr {a b c : World} {row : Option Nat} (h : a.grownBy b row) (k : b.grownBy c row) : a.grownBy c row :=
  ⟨k.os.trans h.os, k.tape.trans h.tape, k.output.trans h.output, Nat.le_trans h.size k.size, fun i hi hne => (k.block i (Nat.lt_of_lt_of_le hi h.size) hne).trans (h.block i hi hne)⟩
theorem own8 {w : World} {base g n cap : Nat} {e : TypeId} {xs : List Value} (h : w.ownsRow base e 8 (.slice (some ⟨g, 0, none⟩) n cap) n xs) (j : Nat) (a0 a1 a2 a3 a4 a5 a6 a7 : Value) :
    ((((((((w.setCell ⟨g, j, none⟩ a0).setCell ⟨g, j + 1, none⟩ a1).setCell ⟨g, j + 2, none⟩ a2).setCell ⟨g, j + 3, none⟩ a3).setCell ⟨g, j + 4, none⟩ a4).setCell ⟨g, j + 5, none⟩ a5).setCell ⟨g, j + 6, none⟩ a6).setCell ⟨g, j + 7, none⟩ a7).ownsRow base e 8 (.slice (some ⟨g, 0, none⟩) n cap) n
      ((((((((xs.set j a0).set (j + 1) a1).set (j + 2) a2).set (j + 3) a3).set (j + 4) a4).set (j + 5) a5).set (j + 6) a6).set (j + 7) a7) ∧
    w.grownBy ((((((((w.setCell ⟨g, j, none⟩ a0).setCell ⟨g, j + 1, none⟩ a1).setCell ⟨g, j + 2, none⟩ a2).setCell ⟨g, j + 3, none⟩ a3).setCell ⟨g, j + 4, none⟩ a4).setCell ⟨g, j + 5, none⟩ a5).setCell ⟨g, j + 6, none⟩ a6).setCell ⟨g, j + 7, none⟩ a7) (some g) := by
  have h0 := h.stored j a0
  have h1 := h0.1.stored (j + 1) a1
  have h2 := h1.1.stored (j + 2) a2
  have h3 := h2.1.stored (j + 3) a3
  have h4 := h3.1.stored (j + 4) a4
  have h5 := h4.1.stored (j + 5) a5
  have h6 := h5.1.stored (j + 6) a6
  have h7 := h6.1.stored (j + 7) a7
  exact ⟨h7.1, grown_tr (grown_tr (grown_tr (grown_tr (grown_tr (grown_tr (grown_tr h0.2 h1.2) h2.2) h3.2) h4.2) h5.2) h6.2) h7.2⟩
theorem laid_step (es : List Ev) (M : List Value) (k : Nat) (hk : k < es.length) (hM : M.length = es.length * 8) (e : Ev) :
    (((((((((es.take k).flatMap evCells ++ M.drop (k * 8)).set (k * 8) (.int .i64 e.k)).set (k * 8 + 1) (.int .i64 e.g)).set (k * 8 + 2) (.int .i64 e.o)).set (k * 8 + 3) (.int .i64 e.w)).set (k * 8 + 4) (.int .i64 e.l)).set (k * 8 + 5) (.int .i64 e.s)).set (k * 8 + 6) (.int .i64 e.f)).set (k * 8 + 7) (.int .i64 e.t)
      = (es.take k ++ [e]).flatMap evCells ++ M.drop ((k + 1) * 8) := by
  obtain ⟨m0, m1, m2, m3, m4, m5, m6, m7, hd⟩ := drop8 M (k * 8) (by omega)
  have hl : ((es.take k).flatMap evCells).length = k * 8 := by rw [cells_len, List.length_take]; congr 1; omega
  rw [hd, set8 _ _ _ _ _ _ _ _ _ _ _ _ _ _ _ _ _ _ _ hl, show (k + 1) * 8 = k * 8 + 8 by omega, List.flatMap_append]
  simp [evCells]

set_option maxHeartbeats 1000000 in
theorem toEs_any (ao : Option Addr) (n cap : Nat) (es : List Ev) (w : World) (hn : es.length = n) (h : ReadsE w ao es) :
    Calls Tryz.prog 33 #[.slice ao n cap] w fun e w' => ∃ v, e = .returned v ∧ OwnE w' w.heap.size v es ∧ Fr w w' := by
  subst hn
  have hl := h.len
  obtain ⟨i0, hi, hz0, hz1, hz2⟩ := info_parts Tryz.info31
  go_enter Tryz.func33, Tryz.ntmps33
  go_wp2_with (at_make; refine wpList_make_full _ rfl _ _ 42 rfl w.heap.size 31 i0 (.agg #[.int .i64 0, .int .i64 0, .int .i64 0, .int .i64 0, .int .i64 0, .int .i64 0, .int .i64 0, .int .i64 0]) 8 Tryz.underlying42 hi hz0 hz1 .i64 .i64 _ _ es.length rfl rfl rfl rfl (by rw [hz2]; omega) (by unfold maxLen; omega) (Nat.le_refl _) ?_; intro w1 hown hgrow)
  obtain ⟨M, hM⟩ : ∃ M, M = (madeCells (Value.agg #[.int .i64 0, .int .i64 0, .int .i64 0, .int .i64 0, .int .i64 0, .int .i64 0, .int .i64 0, .int .i64 0]).cells (es.length * 8)).toList := ⟨_, rfl⟩
  rw [← hM] at hown
  clear hM
  have hMl := hown.1
  clear hi hz0 hz1 hz2
  go_loopw [4] (fun i wr => ∃ k : Nat, k ≤ es.length ∧ i = .int .i64 k ∧ wr.ownsRow w.heap.size 31 8 (.slice (some ⟨w.heap.size, 0, none⟩) es.length es.length) es.length ((es.take k).flatMap evCells ++ M.drop (k * 8)) ∧ Fr w wr) (fun i _ => es.length - (intOf i).toNat)
  case atStart => exact ⟨0, Nat.zero_le _, rfl, by simpa using hown, hgrow⟩
  case round =>
    obtain ⟨k, hk, rfl, ho, hf⟩ := hrel
    clear hown hgrow
    by_cases hlt : k < es.length
    · obtain ⟨b, off, rfl, hc⟩ := (h.fr hf).at_ k hlt
      obtain ⟨c0, c1, c2, c3, c4, c5, c6, c7⟩ := hc k hlt
      have HE : Hid (es.take k ++ [es[k]] = es.take (k + 1)) := (List.take_succ_eq_append_getElem hlt).symm
      obtain ⟨e, he⟩ : ∃ e, e = es[k] := ⟨_, rfl⟩
      rw [← he] at c0 c1 c2 c3 c4 c5 c6 c7 HE
      clear hc he
      have cT := fun w => toEvent_any e w
      go_wp2_with fail
      refine (cT _).mono ?_
      rintro e w5 ⟨rfl, f5⟩
      have ho := ho.kept f5 (by simp [Value.ownBlock])
      have hll : ((es.take k).flatMap evCells ++ M.drop (k * 8)).length = es.length * 8 := ho.1
      have hat : ∀ i, i < 8 → ∃ u, w5.cell? ⟨w.heap.size, k * 8 + i, none⟩ = some u := fun i hi => by
        rw [ho.cellAt (k * 8 + i) (by omega)]
        exact ⟨_, List.getElem?_eq_getElem (by omega)⟩
      obtain ⟨q0, d0⟩ := hat 0 (by omega)
      obtain ⟨q1, d1⟩ := hat 1 (by omega)
      obtain ⟨q2, d2⟩ := hat 2 (by omega)
      obtain ⟨q3, d3⟩ := hat 3 (by omega)
      obtain ⟨q4, d4⟩ := hat 4 (by omega)
      obtain ⟨q5, d5⟩ := hat 5 (by omega)
      obtain ⟨q6, d6⟩ := hat 6 (by omega)
      obtain ⟨q7, d7⟩ := hat 7 (by omega)
      rw [Nat.add_zero] at d0
      have z0 := ho.frozenAt (k * 8)
      have z1 := ho.frozenAt (k * 8 + 1)
      have z2 := ho.frozenAt (k * 8 + 2)
      have z3 := ho.frozenAt (k * 8 + 3)
      have z4 := ho.frozenAt (k * 8 + 4)
      have z5 := ho.frozenAt (k * 8 + 5)
      have z6 := ho.frozenAt (k * 8 + 6)
      have z7 := ho.frozenAt (k * 8 + 7)
      have hst := own8 ho (k * 8) (.int .i64 e.k) (.int .i64 e.g) (.int .i64 e.o) (.int .i64 e.w) (.int .i64 e.l) (.int .i64 e.s) (.int .i64 e.f) (.int .i64 e.t)
      rw [laid_step es M k hlt hMl e, HE.out] at hst
      have hsz := hf.size
      clear hat hll ho
      go_wp2_with fail
      go_roundw
      case rel => exact ⟨k + 1, by omega, by go_num, hst.1, (hf.trans f5).then hst.2 (fun j hj => by simp only [Option.some.injEq] at hj; omega)⟩
      case measure => simp [intOf]; omega
    · have ek : k = es.length := by omega
      have hd : M.drop (k * 8) = [] := List.drop_eq_nil_of_le (by rw [hMl, ek]; omega)
      rw [hd, List.append_nil, List.take_of_length_le (by omega)] at ho
      clear ek hd
      go_wp2_with fail
      go_ret
      exact ⟨_, rfl, ⟨w.heap.size, es.length, rfl, ho, hl⟩, hf⟩
end Go.Proofs.YtcofhmikdkkigaaGreatDoor
namespace Go.Proofs.YtcofhmikdkkigaaGreatDoor
open Go.RowKit

theorem ownE_new (w : World) : OwnE (w.alloc (.cells #[] 31)) w.heap.size (.slice (some ⟨w.heap.size, 0, none⟩) 0 0) [] :=
  ⟨w.heap.size, 0, rfl, World.ownsRow_made w #[] 0 (Nat.le_refl _) (by unfold maxLen; omega) rfl, by simp⟩

theorem appE (w : World) {ops : Array Oper} {rest : List Oper} {o : Oper} {a : Act} {Q : Exit → Act → World → Prop} (hgd : o.guard = none) (s x : Operand)
    (ho : o.op = .call { callee := .builtin .append, args := #[s, x], argTypes := #[42, 42] })
    (base : Nat) (v : Value) (es : List Ev) (e : Ev) (hs : a.eval s = v) (hown : OwnE w base v es)
    (b : Nat) (c : Nat) (hx : a.eval x = .slice (some ⟨b, 0, none⟩) 1 c) (hnew : EvC w b 0 e)
    (hlen : es.length ≤ 16777215) (hbase : base ≤ w.heap.size)
    (h : ∀ v' w', OwnE w' base v' (es ++ [e]) → w.grownBy w' v.ownBlock → (v'.ownBlock = v.ownBlock ∨ v'.ownBlock = some w.heap.size) → wpList Tryz.prog ops Q rest (a.put o.dst v') w') : wpList Tryz.prog ops Q (o :: rest) a w := by
  obtain ⟨i0, hi, hz0, hz1, hz2⟩ := info_parts Tryz.info31
  obtain ⟨g, cap, rfl, ho', hl⟩ := hown
  refine wpList_append_own_at w hgd s x 42 ho base 31 i0 _ 8 64 Tryz.underlying42 hi hz0 hz1 hz2 rfl (by decide) _ _ _ hs ho' ⟨b, 0, none⟩ 1 c (evCells e) hx (by simp [evCells]) ?_ ?_ (by unfold maxLen; omega) (by omega) hbase ?_
  · intro j u hu
    rw [Addr.add_lit]
    obtain ⟨c0, c1, c2, c3, c4, c5, c6, c7⟩ := hnew
    match j, hu with
    | 0, hu => simp [evCells] at hu; subst hu; exact c0
    | 1, hu => simp [evCells] at hu; subst hu; exact c1
    | 2, hu => simp [evCells] at hu; subst hu; exact c2
    | 3, hu => simp [evCells] at hu; subst hu; exact c3
    | 4, hu => simp [evCells] at hu; subst hu; exact c4
    | 5, hu => simp [evCells] at hu; subst hu; exact c5
    | 6, hu => simp [evCells] at hu; subst hu; exact c6
    | 7, hu => simp [evCells] at hu; subst hu; exact c7
    | n + 8, hu => simp [evCells] at hu
  · intro u hu
    simp only [evCells, List.mem_cons, List.not_mem_nil, or_false] at hu
    rcases hu with rfl | rfl | rfl | rfl | rfl | rfl | rfl | rfl <;> rfl
  · intro v' w' hv hg hnz hat
    refine h v' w' ?_ hg hat
    rcases hv.2 with ⟨e', _⟩ | ⟨g', cap', cur, e', r⟩
    · have := (hnz.1 e').1
      simp at this
    · subst e'
      exact ⟨g', cap', by simp, by simpa [List.flatMap_append] using hv, by simp; omega⟩
end Go.Proofs.YtcofhmikdkkigaaGreatDoor
