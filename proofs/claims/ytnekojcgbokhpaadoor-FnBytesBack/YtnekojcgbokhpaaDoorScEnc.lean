/-
  The drawing of lists to be encoded: DrawEncoded.
-/
import Derived.Test.YtnekojcgbokhpaaDoorScDraw
namespace Go.Proofs.YtnekojcgbokhpaaDoor
open Go.RowKit

set_option maxRecDepth 20000 in
set_option maxHeartbeats 4000000 in
theorem drawEncoded_any (ao : Option Addr) (n cap : Nat) (w : World) (h : ByteRow w ao n) (hn : n ≤ 4294967296) :
    Calls Tryd.prog 7 #[.slice ao n cap] w fun x w' => ∃ v : Value, x = .returned v ∧ ∃ es : List Ev, OwnE w' w.heap.size v es ∧ es.length ≤ 301 ∧ Fr w w' := by
  go_enter Tryd.func7, Tryd.ntmps7
  go_wp2_with fail
  refine (l1New_any _ _ _ _ h hn).mono ?_
  rintro e w1 ⟨rfl, c1, f1⟩
  have hg := c1.lt
  obtain ⟨g, hgg⟩ : ∃ g, g = w.heap.size := ⟨_, rfl⟩
  rw [← hgg] at c1 hg ⊢
  have HG : Hid (g = w.heap.size) := hgg
  clear hgg
  go_wp2_with fail
  refine (l5Draw_any _ _ c1).mono ?_
  rintro e w2 ⟨v2, rfl, es, o2, l2, c2, g2⟩
  go_wp2_with fail
  refine (l1Once_any _ _ _ c2).mono ?_
  rintro e w3 ⟨b, rfl, c3, g3⟩
  have o3 := o2.keep g3 (fun q => by have := o2.blk _ q; omega)
  have G3 := grown_trans g2 g3
  clear o2 c2 g2 g3 c1
  have HX : Hid (∀ (wc : World) (u : Value) (xs : List Ev), OwnE wc w1.heap.size u xs → w1.grownBy wc (some g) → OwnE wc w.heap.size u xs ∧ Fr w wc) := by
    intro wc u xs hu hk
    refine ⟨hu.lower (by have := f1.size; omega), f1.then hk ?_⟩
    intro j hj
    simp only [Option.some.injEq] at hj
    have := HG.out
    omega
  go_upto_if 11 with fail
  go_cut [4] (fun s4 wc => ∃ xs : List Ev, OwnE wc w1.heap.size s4 xs ∧ xs.length ≤ 59 ∧ Cur wc g ∧ w1.grownBy wc (some g))
  case first =>
    cases b
    · go_wp2_with fail
      go_meet
      case rel => exact ⟨es, o3, by omega, c3, G3⟩
    · go_wp2_with fail
      refine (l2DrawAny_any _ _ c3).mono ?_
      rintro e w4 ⟨⟨k, gr, o, wi, l, sz, f, t⟩, rfl, -, c4, g4⟩
      have o4 := o3.keep g4 (fun q => by have := o3.blk _ q; omega)
      have G4 := grown_trans G3 g4
      have s4 := G4.size
      clear o3 G3 c3 g4
      go_wp2_with (at_builtin; refine appE _ rfl _ _ rfl w1.heap.size v2 es ⟨k, gr, o, wi, l, sz, f, t⟩ rfl (o4.fr (Fr.alloc _ _)) _ _ rfl (evC_new w4 ⟨k, gr, o, wi, l, sz, f, t⟩) (by omega) (by simp; omega) ?_; intro v5 w5 hv5 hg5 hat5)
      go_meet
      case rel =>
        have k5 := grown_trans (Fr.alloc w4 (.cells #[.int .i64 k, .int .i64 gr, .int .i64 o, .int .i64 wi, .int .i64 l, .int .i64 sz, .int .i64 f, .int .i64 t] 49)).wide hg5
        exact ⟨_, hv5, by simp; omega, c4.other k5 (fun j hj => by have := o4.blk j hj; omega), grown_then G4 k5 (fun j hj => .inl (o4.blk j hj))⟩
  case rest =>
    obtain ⟨xs, ox, lx, cx, Gx⟩ := hcut
    clear o3 c3 G3 l2 es h
    go_wp2_with fail
    refine (l1Once_any _ _ _ cx).mono ?_
    rintro e w6 ⟨b6, rfl, c6, g6⟩
    have o6 := ox.keep g6 (fun q => by have := ox.blk _ q; omega)
    have G6 := grown_trans Gx g6
    clear ox cx Gx g6
    cases b6
    · go_wp2_with fail
      go_ret
      exact ⟨_, rfl, xs, (HX.out _ _ _ o6 G6).1, by omega, (HX.out _ _ _ o6 G6).2⟩
    · clear o6 lx xs
      have s6 := G6.size
      go_wp2_with fail
      refine (l1Below_any _ _ _ (c6.fr (Fr.alloc _ _))).mono ?_
      rintro e w7 ⟨x, rfl, x0, x1, x2, c7, g7⟩
      have x3 : x < 2 := x1 (by omega)
      have o7 := ((ownE_new w6).lower (base' := w1.heap.size) s6).keep g7 (by simp [Value.ownBlock]; omega)
      have G7 := grown_trans (grown_trans G6 (Fr.alloc w6 (.cells #[] 49)).wide) g7
      clear x1 x2 g7 c6 G6
      go_wp2_with fail
      go_loopw [4, 5] (fun u q wr => ∃ (nn : Int) (es : List Ev), q = .int .i64 nn ∧ nn ≤ 301 ∧ es.length + nn.toNat ≤ 301 ∧ OwnE wr w1.heap.size u es ∧ w1.grownBy wr (some g)) (fun _ q _ => (intOf q).toNat)
      case atStart => exact ⟨300 + x, [], by go_num, by omega, by simp; omega, o7, G7⟩
      case round =>
        clear o7 G7
        obtain ⟨nn, es, rfl, hnn, hel, o8, G8⟩ := hrel
        have s8 := G8.size
        by_cases hpos : 0 < nn
        · go_wp2_with (at_builtin; refine appE _ rfl _ _ rfl w1.heap.size u4 es ⟨17, 0, 0, 0, 0, 0, 0, 0⟩ rfl (o8.fr (Fr.alloc _ _)) _ _ rfl (evC_new wr ⟨17, 0, 0, 0, 0, 0, 0, 0⟩) (by omega) (by simp; omega) ?_; intro v9 w9 hv9 hg9 hat9)
          have k9 := grown_trans (Fr.alloc wr (.cells #[.int .i64 17, .int .i64 0, .int .i64 0, .int .i64 0, .int .i64 0, .int .i64 0, .int .i64 0, .int .i64 0] 49)).wide hg9
          go_roundw
          case rel => exact ⟨nn - 1, _, by go_num, by omega, by simp; omega, hv9, grown_then G8 k9 (fun j hj => .inl (o8.blk j hj))⟩
          case measure => simp [intOf]; omega
        · have hpos' : nn ≤ 0 := by omega
          go_wp2_with fail
          go_ret
          exact ⟨_, rfl, es, (HX.out _ _ _ o8 G8).1, by omega, (HX.out _ _ _ o8 G8).2⟩
end Go.Proofs.YtnekojcgbokhpaaDoor
