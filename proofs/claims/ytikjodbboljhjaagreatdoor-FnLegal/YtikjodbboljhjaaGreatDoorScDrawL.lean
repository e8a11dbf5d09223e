/-
  The drawing of traces that may go wrong: l5DrawAny, DrawLegalLen.
-/
import Derived.Test.YtikjodbboljhjaaGreatDoorScDraw
import Derived.Test.YtikjodbboljhjaaGreatDoorEvsMark
import Derived.Test.YtikjodbboljhjaaGreatDoorEvDraw2
namespace Go.Proofs.YtikjodbboljhjaaGreatDoor
open Go.RowKit

theorem cells_drop : ∀ (es : List Ev) (k : Nat), (es.flatMap evCells).drop (k * 8) = (es.drop k).flatMap evCells
  | _, 0 => by simp
  | [], k + 1 => by simp
  | e :: es, k + 1 => by
    rw [List.flatMap_cons, List.drop_succ_cons, ← cells_drop es k, List.drop_append, List.drop_of_length_le (by simp [evCells]; omega)]
    rw [show (evCells e).length = 8 from rfl, show (k + 1) * 8 - 8 = k * 8 by omega]
    simp
/-- One event put in another's place. -/
theorem OwnE.put {w : World} {base g n cap : Nat} {es : List Ev} (h : w.ownsRow base 31 8 (.slice (some ⟨g, 0, none⟩) n cap) n (es.flatMap evCells)) (hl : es.length ≤ 16777216) (hn : n = es.length) (k : Nat) (hk : k < es.length) (e : Ev) :
    OwnE ((((((((w.setCell ⟨g, k * 8, none⟩ (.int .i64 e.k)).setCell ⟨g, k * 8 + 1, none⟩ (.int .i64 e.g)).setCell ⟨g, k * 8 + 2, none⟩ (.int .i64 e.o)).setCell ⟨g, k * 8 + 3, none⟩ (.int .i64 e.w)).setCell ⟨g, k * 8 + 4, none⟩ (.int .i64 e.l)).setCell ⟨g, k * 8 + 5, none⟩ (.int .i64 e.s)).setCell ⟨g, k * 8 + 6, none⟩ (.int .i64 e.f)).setCell ⟨g, k * 8 + 7, none⟩ (.int .i64 e.t)) base (.slice (some ⟨g, 0, none⟩) n cap) (es.take k ++ [e] ++ es.drop (k + 1)) ∧
    w.grownBy ((((((((w.setCell ⟨g, k * 8, none⟩ (.int .i64 e.k)).setCell ⟨g, k * 8 + 1, none⟩ (.int .i64 e.g)).setCell ⟨g, k * 8 + 2, none⟩ (.int .i64 e.o)).setCell ⟨g, k * 8 + 3, none⟩ (.int .i64 e.w)).setCell ⟨g, k * 8 + 4, none⟩ (.int .i64 e.l)).setCell ⟨g, k * 8 + 5, none⟩ (.int .i64 e.s)).setCell ⟨g, k * 8 + 6, none⟩ (.int .i64 e.f)).setCell ⟨g, k * 8 + 7, none⟩ (.int .i64 e.t)) (some g) := by
  have e0 : es.flatMap evCells = (es.take k).flatMap evCells ++ (es.flatMap evCells).drop (k * 8) := by
    rw [cells_drop, ← List.flatMap_append, List.take_append_drop]
  have hst := own8 h (k * 8) (.int .i64 e.k) (.int .i64 e.g) (.int .i64 e.o) (.int .i64 e.w) (.int .i64 e.l) (.int .i64 e.s) (.int .i64 e.f) (.int .i64 e.t)
  have e1 := marked_step (es.take k) (es.flatMap evCells) k es.length (by simp; omega) hk (cells_len es) e
  rw [← e0, cells_drop, ← List.flatMap_append] at e1
  rw [e1] at hst
  have hlen : (es.take k ++ [e] ++ es.drop (k + 1)).length = es.length := by simp; omega
  refine ⟨⟨g, cap, by rw [hlen, hn], ?_, by rw [hlen]; exact hl⟩, hst.2⟩
  rw [hlen, ← hn]
  exact hst.1

set_option maxRecDepth 20000 in
set_option maxHeartbeats 4000000 in
theorem l5DrawAny_any (g : Nat) (w : World) (hc : Cur w g) :
    Calls Tryz.prog 62 #[.pointer (some ⟨g, 0, none⟩)] w fun x w' => ∃ v : Value, x = .returned v ∧ ∃ es : List Ev, OwnE w' w.heap.size v es ∧ es.length ≤ 301 ∧ w.grownBy w' (some g) := by
  have hg := hc.lt
  go_enter Tryz.func62, Tryz.ntmps62
  go_wp2_with fail
  refine (l5Draw_any _ _ hc).mono ?_
  rintro e w2 ⟨v2, rfl, es, o2, l2, c2, g2⟩
  go_wp2_with fail
  refine (l1Once_any _ _ _ c2).mono ?_
  rintro e w3 ⟨b, rfl, c3, g3⟩
  have o3 := o2.keep g3 (fun q => by have := o2.blk _ q; omega)
  have G3 := grown_trans g2 g3
  clear o2 c2 g2 g3 hc
  cases b
  · obtain ⟨ox, lx, cx, Gx⟩ : OwnE w3 w.heap.size v2 es ∧ es.length ≤ 58 ∧ Cur w3 g ∧ w.grownBy w3 (some g) := ⟨o3, l2, c3, G3⟩
    clear o3 l2 c3 G3
    obtain ⟨xs, hxs⟩ : ∃ xs, xs = es := ⟨_, rfl⟩
    rw [← hxs] at ox lx
    clear hxs es
    go_wp2_with fail
    refine (l1Once_any _ _ _ cx).mono ?_
    rintro e w6 ⟨b6, rfl, c6, g6⟩
    have o6 := ox.keep g6 (fun q => by have := ox.blk _ q; omega)
    have G6 := grown_trans Gx g6
    clear ox cx Gx g6
    cases b6
    · go_wp2_with fail
      go_ret
      exact ⟨_, rfl, xs, o6, by omega, G6⟩
    · clear o6 lx xs
      have s6 := G6.size
      go_wp2_with fail
      refine (l1Below_any _ _ _ (c6.fr (Fr.alloc _ _))).mono ?_
      rintro e w7 ⟨x, rfl, x0, x1, x2, c7, g7⟩
      have x3 : x < 2 := x1 (by omega)
      have o7 := ((ownE_new w6).lower (base' := w.heap.size) s6).keep g7 (by simp [Value.ownBlock]; omega)
      have G7 := grown_trans (grown_trans G6 (Fr.alloc w6 (.cells #[] 31)).wide) g7
      clear x1 x2 g7 c6 G6
      go_wp2_with fail
      go_loopw [3, 5] (fun u q wr => ∃ (nn : Int) (es : List Ev), q = .int .i64 nn ∧ nn ≤ 301 ∧ es.length + nn.toNat ≤ 301 ∧ OwnE wr w.heap.size u es ∧ w.grownBy wr (some g)) (fun _ q _ => (intOf q).toNat)
      case atStart => exact ⟨300 + x, [], by go_num, by omega, by simp; omega, o7, G7⟩
      case round =>
        clear o7 G7
        obtain ⟨nn, es, rfl, hnn, hel, o8, G8⟩ := hrel
        have s8 := G8.size
        by_cases hpos : 0 < nn
        · go_wp2_with (at_builtin; refine appE _ rfl _ _ rfl w.heap.size u3 es ⟨17, 0, 0, 0, 0, 0, 0, 0⟩ rfl (o8.fr (Fr.alloc _ _)) _ _ rfl (evC_new wr ⟨17, 0, 0, 0, 0, 0, 0, 0⟩) (by omega) (by simp; omega) ?_; intro v9 w9 hv9 hg9 hat9)
          have k9 := grown_trans (Fr.alloc wr (.cells #[.int .i64 17, .int .i64 0, .int .i64 0, .int .i64 0, .int .i64 0, .int .i64 0, .int .i64 0, .int .i64 0] 31)).wide hg9
          go_roundw
          case rel => exact ⟨nn - 1, _, by go_num, by omega, by simp; omega, hv9, grown_then G8 k9 (fun j hj => .inl (o8.blk j hj))⟩
          case measure => simp [intOf]; omega
        · have hpos' : nn ≤ 0 := by omega
          go_wp2_with fail
          go_ret
          exact ⟨_, rfl, es, o8, by omega, G8⟩
  by_cases he : es = []
  · subst he
    obtain ⟨gv, cap, rfl, ov, hl⟩ := o3
    obtain ⟨ox, lx, cx, Gx⟩ : OwnE w3 w.heap.size (.slice (some ⟨gv, 0, none⟩) 0 cap) [] ∧ ([] : List Ev).length ≤ 58 ∧ Cur w3 g ∧ w.grownBy w3 (some g) := ⟨⟨gv, cap, rfl, ov, hl⟩, l2, c3, G3⟩
    clear ov l2 c3 G3 hl
    obtain ⟨xs, hxs⟩ : ∃ xs : List Ev, xs = [] := ⟨_, rfl⟩
    rw [← hxs] at ox lx
    clear hxs
    simp only [List.length_nil]
    go_wp2_with fail
    refine (l1Once_any _ _ _ cx).mono ?_
    rintro e w6 ⟨b6, rfl, c6, g6⟩
    have o6 := ox.keep g6 (fun q => by have := ox.blk _ q; omega)
    have G6 := grown_trans Gx g6
    clear ox cx Gx g6
    cases b6
    · go_wp2_with fail
      go_ret
      exact ⟨_, rfl, xs, o6, by omega, G6⟩
    · clear o6 lx xs
      have s6 := G6.size
      go_wp2_with fail
      refine (l1Below_any _ _ _ (c6.fr (Fr.alloc _ _))).mono ?_
      rintro e w7 ⟨x, rfl, x0, x1, x2, c7, g7⟩
      have x3 : x < 2 := x1 (by omega)
      have o7 := ((ownE_new w6).lower (base' := w.heap.size) s6).keep g7 (by simp [Value.ownBlock]; omega)
      have G7 := grown_trans (grown_trans G6 (Fr.alloc w6 (.cells #[] 31)).wide) g7
      clear x1 x2 g7 c6 G6
      go_wp2_with fail
      go_loopw [3, 5] (fun u q wr => ∃ (nn : Int) (es : List Ev), q = .int .i64 nn ∧ nn ≤ 301 ∧ es.length + nn.toNat ≤ 301 ∧ OwnE wr w.heap.size u es ∧ w.grownBy wr (some g)) (fun _ q _ => (intOf q).toNat)
      case atStart => exact ⟨300 + x, [], by go_num, by omega, by simp; omega, o7, G7⟩
      case round =>
        clear o7 G7
        obtain ⟨nn, es, rfl, hnn, hel, o8, G8⟩ := hrel
        have s8 := G8.size
        by_cases hpos : 0 < nn
        · go_wp2_with (at_builtin; refine appE _ rfl _ _ rfl w.heap.size u3 es ⟨17, 0, 0, 0, 0, 0, 0, 0⟩ rfl (o8.fr (Fr.alloc _ _)) _ _ rfl (evC_new wr ⟨17, 0, 0, 0, 0, 0, 0, 0⟩) (by omega) (by simp; omega) ?_; intro v9 w9 hv9 hg9 hat9)
          have k9 := grown_trans (Fr.alloc wr (.cells #[.int .i64 17, .int .i64 0, .int .i64 0, .int .i64 0, .int .i64 0, .int .i64 0, .int .i64 0, .int .i64 0] 31)).wide hg9
          go_roundw
          case rel => exact ⟨nn - 1, _, by go_num, by omega, by simp; omega, hv9, grown_then G8 k9 (fun j hj => .inl (o8.blk j hj))⟩
          case measure => simp [intOf]; omega
        · have hpos' : nn ≤ 0 := by omega
          go_wp2_with fail
          go_ret
          exact ⟨_, rfl, es, o8, by omega, G8⟩
  · have hpos : 0 < es.length := List.length_pos_iff.2 he
    have hposI : (0 : Int) < es.length := by omega
    clear he
    obtain ⟨gv, cap, rfl, -, -⟩ := id o3
    go_wp2_with fail
    refine (l1Below_any _ _ _ c3).mono ?_
    rintro e w4 ⟨ki, rfl, k0, k1, -, c4, g4⟩
    have k1 := k1 (by omega)
    have o4 := o3.keep g4 (fun q => by have := o3.blk _ q; omega)
    have G4 := grown_trans G3 g4
    clear o3 c3 G3 g4
    go_wp2_with fail
    refine (l2DrawAny_any _ _ c4).mono ?_
    rintro e w5 ⟨⟨k, gr, o, wi, l, sz, f, t⟩, rfl, -, c5, g5⟩
    have o5 := o4.keep g5 (fun q => by have := o4.blk _ q; omega)
    have G5 := grown_trans G4 g5
    clear o4 c4 G4 g5
    obtain ⟨gv', cap', ee, ov, hl⟩ := o5
    cases ee
    have hgv := ov.lt gv rfl
    obtain ⟨kn, rfl⟩ : ∃ kn : Nat, ki = kn := ⟨ki.toNat, by omega⟩
    have hkn : kn < es.length := by omega
    have hat : ∀ i, i < 8 → ∃ u, w5.cell? ⟨gv, kn * 8 + i, none⟩ = some u := fun i hi => by
      rw [ov.cellAt (kn * 8 + i) (by omega)]
      exact ⟨_, List.getElem?_eq_getElem (by rw [cells_len]; omega)⟩
    obtain ⟨p0, d0⟩ := hat 0 (by omega)
    obtain ⟨p1, d1⟩ := hat 1 (by omega)
    obtain ⟨p2, d2⟩ := hat 2 (by omega)
    obtain ⟨p3, d3⟩ := hat 3 (by omega)
    obtain ⟨p4, d4⟩ := hat 4 (by omega)
    obtain ⟨p5, d5⟩ := hat 5 (by omega)
    obtain ⟨p6, d6⟩ := hat 6 (by omega)
    obtain ⟨p7, d7⟩ := hat 7 (by omega)
    rw [Nat.add_zero] at d0
    have z0 := ov.frozenAt (kn * 8)
    have z1 := ov.frozenAt (kn * 8 + 1)
    have z2 := ov.frozenAt (kn * 8 + 2)
    have z3 := ov.frozenAt (kn * 8 + 3)
    have z4 := ov.frozenAt (kn * 8 + 4)
    have z5 := ov.frozenAt (kn * 8 + 5)
    have z6 := ov.frozenAt (kn * 8 + 6)
    have z7 := ov.frozenAt (kn * 8 + 7)
    obtain ⟨ox, k8⟩ := OwnE.put ov hl rfl kn hkn ⟨k, gr, o, wi, l, sz, f, t⟩
    simp only at ox k8
    have Gx := grown_then G5 k8 (fun j hj => by simp only [Option.some.injEq] at hj; exact .inl (by omega))
    have cx := c5.other k8 (fun j hj => by simp only [Option.some.injEq] at hj; omega)
    have lx : (es.take kn ++ [(⟨k, gr, o, wi, l, sz, f, t⟩ : Ev)] ++ es.drop (kn + 1)).length ≤ 58 := by simp; omega
    obtain ⟨xs, hxs⟩ : ∃ xs, xs = es.take kn ++ [(⟨k, gr, o, wi, l, sz, f, t⟩ : Ev)] ++ es.drop (kn + 1) := ⟨_, rfl⟩
    rw [← hxs] at ox lx
    clear hxs hat k8 c5 G5 ov
    go_upto_region 5 with fail
    clear p0 p1 p2 p3 p4 p5 p6 p7 d0 d1 d2 d3 d4 d5 d6 d7 z0 z1 z2 z3 z4 z5 z6 z7
    obtain ⟨wx, hwx⟩ : ∃ wx, wx = ((((((((w5.setCell ⟨gv, kn * 8, none⟩ (.int .i64 k)).setCell ⟨gv, kn * 8 + 1, none⟩ (.int .i64 gr)).setCell ⟨gv, kn * 8 + 2, none⟩ (.int .i64 o)).setCell ⟨gv, kn * 8 + 3, none⟩ (.int .i64 wi)).setCell ⟨gv, kn * 8 + 4, none⟩ (.int .i64 l)).setCell ⟨gv, kn * 8 + 5, none⟩ (.int .i64 sz)).setCell ⟨gv, kn * 8 + 6, none⟩ (.int .i64 f)).setCell ⟨gv, kn * 8 + 7, none⟩ (.int .i64 t)) := ⟨_, rfl⟩
    rw [← hwx] at ox cx Gx ⊢
    clear hwx
    go_wp2_with fail
    refine (l1Once_any _ _ _ cx).mono ?_
    rintro e w6 ⟨b6, rfl, c6, g6⟩
    have o6 := ox.keep g6 (fun q => by have := ox.blk _ q; omega)
    have G6 := grown_trans Gx g6
    clear ox cx Gx g6
    cases b6
    · go_wp2_with fail
      go_ret
      exact ⟨_, rfl, xs, o6, by omega, G6⟩
    · clear o6 lx xs
      have s6 := G6.size
      go_wp2_with fail
      refine (l1Below_any _ _ _ (c6.fr (Fr.alloc _ _))).mono ?_
      rintro e w7 ⟨x, rfl, x0, x1, x2, c7, g7⟩
      have x3 : x < 2 := x1 (by omega)
      have o7 := ((ownE_new w6).lower (base' := w.heap.size) s6).keep g7 (by simp [Value.ownBlock]; omega)
      have G7 := grown_trans (grown_trans G6 (Fr.alloc w6 (.cells #[] 31)).wide) g7
      clear x1 x2 g7 c6 G6
      go_wp2_with fail
      go_loopw [3, 5] (fun u q wr => ∃ (nn : Int) (es : List Ev), q = .int .i64 nn ∧ nn ≤ 301 ∧ es.length + nn.toNat ≤ 301 ∧ OwnE wr w.heap.size u es ∧ w.grownBy wr (some g)) (fun _ q _ => (intOf q).toNat)
      case atStart => exact ⟨300 + x, [], by go_num, by omega, by simp; omega, o7, G7⟩
      case round =>
        clear o7 G7
        obtain ⟨nn, es, rfl, hnn, hel, o8, G8⟩ := hrel
        have s8 := G8.size
        by_cases hpos : 0 < nn
        · go_wp2_with (at_builtin; refine appE _ rfl _ _ rfl w.heap.size u3 es ⟨17, 0, 0, 0, 0, 0, 0, 0⟩ rfl (o8.fr (Fr.alloc _ _)) _ _ rfl (evC_new wr ⟨17, 0, 0, 0, 0, 0, 0, 0⟩) (by omega) (by simp; omega) ?_; intro v9 w9 hv9 hg9 hat9)
          have k9 := grown_trans (Fr.alloc wr (.cells #[.int .i64 17, .int .i64 0, .int .i64 0, .int .i64 0, .int .i64 0, .int .i64 0, .int .i64 0, .int .i64 0] 31)).wide hg9
          go_roundw
          case rel => exact ⟨nn - 1, _, by go_num, by omega, by simp; omega, hv9, grown_then G8 k9 (fun j hj => .inl (o8.blk j hj))⟩
          case measure => simp [intOf]; omega
        · have hpos' : nn ≤ 0 := by omega
          go_wp2_with fail
          go_ret
          exact ⟨_, rfl, es, o8, by omega, G8⟩

set_option maxHeartbeats 1000000 in
theorem drawLegal_any (ao : Option Addr) (n cap : Nat) (w : World) (h : ByteRow w ao n) (hn : n ≤ 4294967296) :
    Calls Tryz.prog 19 #[.slice ao n cap] w fun x w' => ∃ v : Value, x = .returned v ∧ ∃ es : List Ev, OwnE w' w.heap.size v es ∧ es.length ≤ 301 ∧ Fr w w' := by
  go_enter Tryz.func19, Tryz.ntmps19
  go_wp2_with fail
  refine (l1New_any _ _ _ _ h hn).mono ?_
  rintro e w1 ⟨rfl, c1, f1⟩
  go_wp2_with fail
  refine (l5DrawAny_any _ _ c1).mono ?_
  rintro e w2 ⟨v2, rfl, es, o2, l2, g2⟩
  go_wp2_with fail
  go_ret
  exact ⟨_, rfl, es, o2.lower (by have := f1.size; omega), l2, f1.then g2 (fun j hj => by simp only [Option.some.injEq] at hj; omega)⟩
/-- A first part of a slice of events. -/
theorem ReadsE.take {w : World} {ao : Option Addr} {es : List Ev} (h : ReadsE w ao es) (k : Nat) : ReadsE w ao (es.take k) := by
  refine ⟨by have := h.len; simp; omega, fun i hi => ?_⟩
  obtain ⟨b, off, e, hc⟩ := h.at_ i (by simp at hi; omega)
  refine ⟨b, off, e, fun j hj => ?_⟩
  rw [List.getElem_take]
  exact hc j (by simp at hj; omega)
end Go.Proofs.YtikjodbboljhjaaGreatDoor
