/-
  The program's Encoded.
-/
import Derived.Test.YtnekojcgbokhpaaDoorEnc
import Derived.Lib.SlBytesConst
namespace Go.Proofs.YtnekojcgbokhpaaDoor
open Go.RowKit

/-- The three bytes of a constant: one place behind them is marked. -/
def HdM (w : World) (g : Nat) : Prop := w.heap[g]? = some (.cells #[.int .u8 82, .int .u8 50, .int .u8 49] 5 (3, 4))
theorem HdM.lt {w : World} {g : Nat} (h : HdM w g) : g < w.heap.size := (Array.getElem?_eq_some_iff.1 h).1
theorem HdM.keep {w w' : World} {g : Nat} {row : Option Nat} (h : HdM w g) (k : w.grownBy w' row) (hr : row ≠ some g) : HdM w' g := (k.block g h.lt (fun q => hr q.symm)).trans h
theorem HdM.fr {w w' : World} {g : Nat} (h : HdM w g) (k : Fr w w') : HdM w' g := h.keep k (by simp)
theorem HdM.reads {w : World} {g : Nat} (h : HdM w g) : ReadsB w (some ⟨g, 0, none⟩) [82, 50, 49] := by
  refine ⟨by simp, head_u8, fun i _ => ⟨g, 0, rfl, fun j hj => ?_⟩⟩
  rw [cell_of_row _ _ _ _ _ _ h]
  simp at hj
  rcases (by omega : j = 0 ∨ j = 1 ∨ j = 2) with rfl | rfl | rfl <;> rfl

/-- What Encoded answers: a slice of its own; of no events the constant's. -/
def EncR (es : List Ev) (w w' : World) (v : Value) : Prop :=
  OwnBS w' w.heap.size v (encA es) ∨ (es = [] ∧ ∃ g, v = .slice (some ⟨g, 0, none⟩) 3 3 ∧ w.heap.size ≤ g ∧ HdM w' g)

set_option maxHeartbeats 2000000 in
theorem implEnc_any (ao : Option Addr) (n cap : Nat) (es : List Ev) (w : World) (hn : es.length = n) (h : ReadsE w ao es) (hs : Shapes w) :
    Calls Tryd.prog 8 #[.slice ao n cap] w fun e w' => ∃ v, e = .returned (.tuple #[v, .bool (encB es)]) ∧ EncR es w w' v ∧ Fr w w' := by
  subst hn
  have hl := h.len
  have hg := hs.lt
  by_cases h3 : es.length ≤ 300
  · have HO : Hid (encB es = okL es) := by
      show _ = _
      rw [encB, okL]; simp [h3]
    have kc := fun (w : World) (C : Array Value) (n c : Nat) => Lib.run_convert_bytes_const (P := Tryd.prog) w 22 5 C n c Tryd.underlying22 Tryd.underlying5
    go_enter Tryd.func8, Tryd.ntmps8
    go_wp2_with fail
    clear kc
    go_loopw [4, 15] (fun u i wr => ∃ k : Nat, k ≤ es.length ∧ i = .int .i64 k ∧ ((k = 0 ∧ u = .slice (some ⟨w.heap.size, 0, none⟩) 3 3 ∧ HdM wr w.heap.size) ∨ (0 < k ∧ OwnBS wr w.heap.size u ([82, 50, 49] ++ (es.take k).flatMap evL))) ∧ Hid (okL (es.take k) = true) ∧ Fr w wr) (fun _ i _ => es.length - (intOf i).toNat)
    case atStart => exact ⟨0, Nat.zero_le _, rfl, .inl ⟨rfl, rfl, heap_alloc_new w _⟩, rfl, Fr.alloc _ _⟩
    case round =>
      obtain ⟨k, hk, rfl, ho, HK, hf⟩ := hrel
      have hs0 := hf.size
      by_cases hlt : k < es.length
      · obtain ⟨b, off, rfl, hc⟩ := (h.fr hf).at_ k hlt
        obtain ⟨c0, c1, c2, c3, c4, c5, c6, c7⟩ := hc k hlt
        have HS : Hid (([82, 50, 49] ++ (es.take k).flatMap evL) ++ evL es[k] = [82, 50, 49] ++ (es.take (k + 1)).flatMap evL) := enc_step es k hlt
        have HT : Hid (evOk es[k] = true → okL (es.take (k + 1)) = true) := okL_take es k hlt HK.out
        have HF : Hid (evOk es[k] = false → okL es = false) := okL_not es k hlt
        have hl1 := evs_len (es.take k)
        have hl2 : (es.take k).length ≤ 300 := by simp; omega
        obtain ⟨e, he⟩ : ∃ e, e = es[k] := ⟨_, rfl⟩
        rw [← he] at c0 c1 c2 c3 c4 c5 c6 c7 HS HT HF
        clear hc he
        have fE := Fr.alloc wr (.cells #[.int .i64 e.k, .int .i64 e.g, .int .i64 e.o, .int .i64 e.w, .int .i64 e.l, .int .i64 e.s, .int .i64 e.f, .int .i64 e.t] 49)
        have hB := EvB.new wr e
        have cO := implOk_any e _ (hs.fr (hf.trans fE))
        cases hx : evOk e
        · rw [hx] at cO
          have HE : Hid (encB es = false) := by
            show _ = _
            rw [HO.out, HF.out hx]
          clear hx hB
          go_wp2_with fail
          refine cO.mono ?_
          rintro x w5 ⟨rfl, f5⟩
          go_wp2_with fail
          go_ret2
          have f6 := (hf.trans fE).trans f5
          refine ⟨.slice (some ⟨w5.heap.size, 0, none⟩) 0 0, ?_, ?_, f6.trans (Fr.alloc w5 _)⟩
          · rw [HE.out]; rfl
          · refine .inl ?_
            rw [encA, HE.out]
            exact (ownB_new w5).lower f6.size
        · rw [hx] at cO
          have HT2 : Hid (okL (es.take (k + 1)) = true) := HT.out hx
          have cW : ∀ w5, Fr wr w5 → Calls Tryd.prog 27 #[u4, .agg #[.int .i64 e.k, .int .i64 e.g, .int .i64 e.o, .int .i64 e.w, .int .i64 e.l, .int .i64 e.s, .int .i64 e.f, .int .i64 e.t]] w5 fun x w' => ∃ v', x = .returned v' ∧ OwnBS w' w.heap.size v' ([82, 50, 49] ++ (es.take (k + 1)).flatMap evL) ∧ FrB w.heap.size w5 w' := by
            intro w5 f5
            rw [← HS.out]
            have hsz := f5.size
            rcases ho with ⟨rfl, rfl, hd⟩ | ⟨hk0, ho⟩
            · have := withEvent_full e w.heap.size w.heap.size [82, 50, 49] w5 hx (hd.fr f5).reads (by simp) (by simp) (by omega) hg (hs.fr (hf.trans f5))
              simpa using this
            · exact withEvent_any e u4 w.heap.size _ w5 hx (ho.fr f5) (by rw [List.length_append]; have : ([82, 50, 49] : List Int).length = 3 := rfl; omega) (by omega) hg (hs.fr (hf.trans f5))
          clear hx ho HS HT HF
          go_wp2_with fail
          refine cO.mono ?_
          rintro x w5 ⟨rfl, f5⟩
          have f6 := fE.trans f5
          have hB5 := (hB.keep f5 (by simp)).at
          obtain ⟨d0, d1, d2, d3, d4, d5, d6, d7⟩ := hB5
          go_wp2_with fail
          refine (cW w5 f6).mono ?_
          rintro x w6 ⟨v6, rfl, o6, fb6⟩
          go_wp2_with fail
          go_roundw
          case rel => exact ⟨k + 1, by omega, by go_num, .inr ⟨by omega, o6⟩, HT2, (hf.trans f6).thenB fb6 (Nat.le_refl _)⟩
          case measure => simp [intOf]; omega
      · have HE : Hid (encB es = true) := by
          show _ = _
          rw [HO.out]
          have := HK.out
          rwa [List.take_of_length_le (by omega)] at this
        have HR : Hid (EncR es w wr u4) := by
          rcases ho with ⟨rfl, rfl, hd⟩ | ⟨hk0, ho⟩
          · exact .inr ⟨List.eq_nil_of_length_eq_zero (by omega), w.heap.size, rfl, Nat.le_refl _, hd⟩
          · rw [List.take_of_length_le (by omega)] at ho
            refine .inl ?_
            rw [encA, HE.out]
            exact ho
        clear ho
        go_wp2_with fail
        go_ret2
        refine ⟨u4, ?_, HR.out, hf⟩
        rw [HE.out]; rfl
  · have HE : Hid (encB es = false) := by
      show _ = _
      rw [encB]; simp [h3]
    go_enter Tryd.func8, Tryd.ntmps8
    go_wp2_with fail
    go_ret2
    refine ⟨.slice (some ⟨w.heap.size, 0, none⟩) 0 0, ?_, ?_, Fr.alloc w _⟩
    · rw [HE.out]; rfl
    · refine .inl ?_
      rw [encA, HE.out]
      exact ownB_new w
end Go.Proofs.YtnekojcgbokhpaaDoor
