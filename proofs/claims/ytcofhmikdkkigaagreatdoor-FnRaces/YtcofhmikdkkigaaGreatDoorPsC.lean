/-
  Texts in one.
-/
import Derived.Test.YtcofhmikdkkigaaGreatDoorPrBI
import Derived.Test.YtcofhmikdkkigaaGreatDoorPrBG
import Derived.Test.YtcofhmikdkkigaaGreatDoorPrBB
import Derived.Test.YtcofhmikdkkigaaGreatDoorPrAD
import Derived.Test.YtcofhmikdkkigaaGreatDoorPsA
import Derived.Maps.AppendAt
import Derived.Test.YtcofhmikdkkigaaGreatDoorPrBJ
import Derived.Test.YtcofhmikdkkigaaGreatDoorPrBH
import Derived.Test.YtcofhmikdkkigaaGreatDoorPrBC
namespace Go.Proofs.YtcofhmikdkkigaaGreatDoor
open Go.RowKit

theorem op_appGL {α : Type} (L : Lay α) {o : Oper} {a : Act} {w : World} {K : Act → World → Prop} {Q : Exit → Act → World → Prop} (s x : Operand) (T : TypeId) (z : Value) (bytes : Nat)
    (ho : o.op = .call { callee := .builtin .append, args := #[s, x], argTypes := #[T, T] })
    (hT : Tryz.prog.underlying T = some (.slice L.ty)) (hI : (Tryz.prog.info? L.ty).map (fun i => (i.zero, i.size, i.bytes)) = some (some z, L.sz, bytes)) (hzs : z.cells.size = L.sz) (hby : bytes ≤ 1000)
    (base : Nat) (v : Value) (xs ys : List α) (hs : a.eval s = v) (hown : OwnG L w base v xs)
    (ad : Addr) (c : Nat) (hx : a.eval x = .slice (some ad) ys.length c) (hnew : ∀ j u, (ys.flatMap L.cs)[j]? = some u → w.cell? (ad.add j) = some u)
    (hlen : xs.length + ys.length ≤ 16777216) (hbase : base ≤ w.heap.size)
    (h : ∀ v' w', OwnG L w' base v' (xs ++ ys) → w.grownBy w' v.ownBlock → (v'.ownBlock = v.ownBlock ∨ v'.ownBlock = some w.heap.size) → K (a.put o.dst v') w') : o.wp Tryz.prog a w K Q := by
  obtain ⟨i0, hi, hz0, hz1, hz2⟩ := info_parts hI
  obtain ⟨g, cap, rfl, ho', hl⟩ := hown
  have hb : (xs.length + ys.length) * bytes ≤ 140737488355328 := by
    have := Nat.mul_le_mul hlen hby
    omega
  obtain ⟨v', w', hr, hv, hg, hnz, hat⟩ := run_append_own_at (P := Tryz.prog) w base T o.type L.ty i0 z L.sz bytes hT hi hz0 hz1 hz2 hzs L.pos _ _ _ ho' ad ys.length c (ys.flatMap L.cs) (flatG_len L ys) hnew (flatG_one L ys) (by unfold maxLen; omega) hb hbase
  have hK : OwnG L w' base v' (xs ++ ys) := by
    rcases hv.2 with ⟨e', _⟩ | ⟨g', cap', cur, e', r⟩
    · have := (hnz.1 e').1
      simp at this
    · subst e'
      exact ⟨g', cap', by simp, by simpa [List.flatMap_append] using hv, by simp; omega⟩
  have hF := h v' w' hK hg hat
  unfold Oper.wp execOp
  simp only [ho, resolve, invoke, builtin, Sem.run_bind, Sem.run_pure, Result.andThen_ok, List.map_toArray, List.map_cons, List.map_nil, hs, hx, hr]
  exact hF
theorem RkW.keep {w w' : World} {g n : Nat} {ed bf : Nat → Nat} {row : Option Nat} (h : RkW w g n ed bf) (k : w.grownBy w' row) (hr : row ≠ some g) : RkW w' g n ed bf := by
  refine ⟨?_, fun q hq z hz => k.cell (h.ed q hq z hz) (fun e => hr e.symm), fun q hq z hz => k.cell (h.bf q hq z hz) (fun e => hr e.symm)⟩
  obtain ⟨cur, hc⟩ := h.row
  exact ⟨cur, (k.block g (Array.getElem?_eq_some_iff.1 hc).1 (fun e => hr e.symm)).trans hc⟩
theorem ownG_some {α : Type} {L : Lay α} {w : World} {base : Nat} {v : Value} {xs : List α} (h : OwnG L w base v xs) : ∃ g cap, v = .slice (some ⟨g, 0, none⟩) xs.length cap := by
  obtain ⟨g, cap, e, -⟩ := h
  exact ⟨g, cap, e⟩
theorem ownG_readsG {α : Type} {L : Lay α} {w : World} {base g cap : Nat} {xs : List α} (h : OwnG L w base (.slice (some ⟨g, 0, none⟩) xs.length cap) xs) : ReadsG L w (some ⟨g, 0, none⟩) xs := by
  obtain ⟨g', cap', e, ho, hl⟩ := h
  cases e
  exact own_readsG ho hl
theorem pairsJ_len (es : List Ev) (lk : List Bool) (near : Bool) (j : Nat) : (pairsJ es lk near j).length ≤ j := pairsP_len es lk near j j

def dstP (i : Nat) : Nat := i + 17
def consP (i : Nat) : Nat := [8, 7, 7, 4, 7, 6, 7, 8].getD i 0

def mkPrace (gb off n c L k : Nat) (w0 R g1 c1 : Nat) (M N : Nat) (pv u25 u26 : Value) (X : Nat → Value) : Act :=
  { tmps := #[.slice (some ⟨gb, off, none⟩) n c, .func (.func 75) #[] #[], undef, undef, .slice none 0 0, pv, .int .i64 (k : Int), .pointer (some ⟨R, 0, none⟩), .slice (some ⟨w0, 0, none⟩) 0 0, .slice (some ⟨gb, off, none⟩) n c, .slice (some ⟨g1, 0, none⟩) L c1, .int .i64 (L : Int), .int .i64 (k : Int), .bool true, .int .i64 (k : Int), .pointer (some ⟨g1, k * 10, none⟩), .agg #[.int .u64 (wd M 0), .int .u64 (wd M 1), .int .u64 (wd M 2), .int .u64 (wd M 3), .int .u64 (wd M 4), .int .u64 (wd N 0), .int .u64 (wd N 1), .int .u64 (wd N 2), .int .u64 (wd N 3), .int .u64 (wd N 4)], X 17, X 18, X 19, X 20, X 21, X 22, X 23, X 24, u25, u26, undef], defers := [] }
def RPrace (gb off n c k : Nat) (R N : Nat) (pv : Value) (SV : World → Value → World → Prop) (wz : World) (B : Nat) (ps : List (Int × Int)) : Nat → Value → World → Prop
  | 0, v, _ => v = pv
  | 1, v, _ => v = .slice (some ⟨gb, off, none⟩) n c
  | 2, v, _ => v = .int .i64 (k : Int)
  | 3, v, _ => v = .pointer (some ⟨R, 5, none⟩)
  | 4, v, _ => v = .agg #[.int .u64 (wd (N) 0), .int .u64 (wd (N) 1), .int .u64 (wd (N) 2), .int .u64 (wd (N) 3), .int .u64 (wd (N) 4)]
  | 5, v, _ => v = .func (.func 75) #[] #[]
  | 6, v, u => SV wz v u
  | 7, v, u => OwnG layPr u B v ps
  | _, _, _ => True
theorem RPrace_fr {gb off n c k R N : Nat} {pv : Value} {SV : World → Value → World → Prop} {wz : World} {B : Nat} {ps : List (Int × Int)} (hSV : ∀ W v u u', SV W v u → Fr u u' → SV W v u') {q : Nat} {x : Value} {u u' : World} (h : RPrace gb off n c k R N pv SV wz B ps q x u) (f : Fr u u') : RPrace gb off n c k R N pv SV wz B ps q x u' := by
  rcases q with _ | _ | _ | _ | _ | _ | _ | _ | q
  · exact h
  · exact h
  · exact h
  · exact h
  · exact h
  · exact h
  · exact hSV _ _ _ _ h f
  · exact OwnG.fr h f
  · trivial

theorem RPrace_past {gb off n c k R N : Nat} {pv : Value} {SV : World → Value → World → Prop} {wz : World} {B : Nat} {ps : List (Int × Int)} {q : Nat} {x : Value} {u u' : World} (h1 : q < 8) (h2 : q ≠ 7) (h3 : consP q ≠ 7) (h : RPrace gb off n c k R N pv SV wz B ps q x u) : RPrace gb off n c k R N pv SV wz B ps q x u' := by
  rcases q with _ | _ | _ | _ | _ | _ | _ | _ | q
  · exact h
  · exact absurd rfl h3
  · exact absurd rfl h3
  · exact h
  · exact absurd rfl h3
  · exact h
  · exact absurd rfl h3
  · exact absurd rfl h2
  · omega

set_option maxRecDepth 20000 in
set_option maxHeartbeats 8000000 in
theorem pairsIn_race (gb off n c L : Nat) (es : List Ev) (w : World) (SV : World → Value → World → Prop) (hSV : ∀ W v u u', SV W v u → Fr u u' → SV W v u')
    (cR : ∀ W, Fr w W → Calls Tryz.prog 130 #[.slice (some ⟨gb, off, none⟩) n c] W fun x w' => ∃ g cap, x = .returned (.slice (some ⟨g, 0, none⟩) L cap) ∧ RkW w' g L (edN es) (befN (eE es)) ∧ W.heap.size ≤ g ∧ Fr W w') (hL : L ≤ 300)
    (cN : ∀ W u, Fr w W → Fr W u → Calls Tryz.prog 75 #[] u fun x w' => ∃ v, x = .returned v ∧ SV W v w' ∧ Fr u w')
    (cI : ∀ (j : Nat), j < L → ∀ W v u, Fr w W → Fr W u → SV W v u → Calls Tryz.prog 131 #[.slice (some ⟨gb, off, none⟩) n c, .int .i64 (j : Int), .agg #[.int .u64 (wd (befN (eE es) j) 0), .int .u64 (wd (befN (eE es) j) 1), .int .u64 (wd (befN (eE es) j) 2), .int .u64 (wd (befN (eE es) j) 3), .int .u64 (wd (befN (eE es) j) 4)], v] u fun x w' => ∃ y, x = .returned y ∧ OwnG layPr w' W.heap.size y (pairsJ es [] false j) ∧ Fr W w') :
    Calls Tryz.prog 74 #[.slice (some ⟨gb, off, none⟩) n c, .func (.func 75) #[] #[]] w fun x w' => ∃ v, x = .returned v ∧ OwnG layPr w' w.heap.size v (pairsL es [] false L) ∧ Fr w w' := by
  have f0 := Fr.alloc w (.cells #[] 51)
  have ov := ownG_new layPr w w.heap.size (Nat.le_refl _)
  have ov : OwnG layPr (w.alloc (.cells #[] 51)) w.heap.size (.slice (some ⟨w.heap.size, 0, none⟩) 0 0) [] := ov
  have cR := cR _ f0
  have hz0 : (w.alloc (.cells #[] 51)).heap.size = w.heap.size + 1 := by simp
  go_enter Tryz.func74, Tryz.ntmps74
  go_wp2_with fail
  refine cR.mono ?_
  rintro x u1 ⟨g1, c1, rfl, K1, hg1, f1⟩
  have F1 := f0.trans f1
  replace ov := ov.fr f1
  have hgz := K1.row.lt
  have HK : Hid (∀ u, Fr u1 u → RkW u g1 L (edN es) (befN (eE es))) := fun u f => K1.fr f
  rw [hz0] at hg1
  clear cR K1 hz0
  go_wp2_with fail
  go_loopw [5, 12] (fun v i wr => ∃ k : Nat, k ≤ L ∧ i = .int .i64 k ∧ OwnG layPr wr w.heap.size v (pairsL es [] false k) ∧ Fr w wr ∧ RkW wr g1 L (edN es) (befN (eE es)) ∧ (∀ b, v.ownBlock = some b → b ≠ g1)) (fun _ i _ => L - (intOf i).toNat)
  case atStart => exact ⟨0, Nat.zero_le _, rfl, ov, F1, HK.out _ (Fr.refl _), fun b hb => by simp only [Value.ownBlock, Option.some.injEq] at hb; omega⟩
  case round =>
    clear ov F1
    obtain ⟨k, hk, rfl, oV, hF, hK, hvg⟩ := hrel
    by_cases hlt : k < L
    · have hki : (k : Int) < (L : Int) := by omega
      have cIk := cI k hlt
      have a0 : wr.cell? ⟨g1, k * 10, none⟩ = some (.int .u64 (wd (edN es k) 0)) := hK.ed k hlt 0 (by omega)
      have a1 : wr.cell? ⟨g1, k * 10 + 1, none⟩ = some (.int .u64 (wd (edN es k) 1)) := hK.ed k hlt 1 (by omega)
      have a2 : wr.cell? ⟨g1, k * 10 + 2, none⟩ = some (.int .u64 (wd (edN es k) 2)) := hK.ed k hlt 2 (by omega)
      have a3 : wr.cell? ⟨g1, k * 10 + 3, none⟩ = some (.int .u64 (wd (edN es k) 3)) := hK.ed k hlt 3 (by omega)
      have a4 : wr.cell? ⟨g1, k * 10 + 4, none⟩ = some (.int .u64 (wd (edN es k) 4)) := hK.ed k hlt 4 (by omega)
      have b0 : wr.cell? ⟨g1, k * 10 + 5, none⟩ = some (.int .u64 (wd (befN (eE es) k) 0)) := hK.bf k hlt 0 (by omega)
      have b1 : wr.cell? ⟨g1, k * 10 + 6, none⟩ = some (.int .u64 (wd (befN (eE es) k) 1)) := hK.bf k hlt 1 (by omega)
      have b2 : wr.cell? ⟨g1, k * 10 + 7, none⟩ = some (.int .u64 (wd (befN (eE es) k) 2)) := hK.bf k hlt 2 (by omega)
      have b3 : wr.cell? ⟨g1, k * 10 + 8, none⟩ = some (.int .u64 (wd (befN (eE es) k) 3)) := hK.bf k hlt 3 (by omega)
      have b4 : wr.cell? ⟨g1, k * 10 + 9, none⟩ = some (.int .u64 (wd (befN (eE es) k) 4)) := hK.bf k hlt 4 (by omega)
      obtain ⟨N, hN⟩ : ∃ N, N = befN (eE es) k := ⟨_, rfl⟩
      obtain ⟨M, hM⟩ : ∃ M, M = edN es k := ⟨_, rfl⟩
      rw [← hN] at b0 b1 b2 b3 b4 cIk
      rw [← hM] at a0 a1 a2 a3 a4
      clear hN hM
      have hPL : pairsL es [] false (k + 1) = pairsL es [] false k ++ pairsJ es [] false k := rfl
      have hPJ := pairsJ_len es [] false k
      have hPk := pairsL_len es [] false k (by omega)
      obtain ⟨ps, hps⟩ : ∃ ps, ps = pairsJ es [] false k := ⟨_, rfl⟩
      obtain ⟨pl, hpl⟩ : ∃ pl, pl = pairsL es [] false k := ⟨_, rfl⟩
      rw [← hps, ← hpl] at hPL
      have HPL : Hid (pairsL es [] false (k + 1) = pl ++ ps) := hPL
      rw [← hps] at cIk hPJ
      rw [← hpl] at oV hPk
      clear hPL hps hpl
      go_wp2_with fail
      have kR := heap_alloc_new wr (.cells #[.int .u64 (wd M 0), .int .u64 (wd M 1), .int .u64 (wd M 2), .int .u64 (wd M 3), .int .u64 (wd M 4), .int .u64 (wd N 0), .int .u64 (wd N 1), .int .u64 (wd N 2), .int .u64 (wd N 3), .int .u64 (wd N 4)] 112)
      have fR := Fr.alloc wr (.cells #[.int .u64 (wd M 0), .int .u64 (wd M 1), .int .u64 (wd M 2), .int .u64 (wd M 3), .int .u64 (wd M 4), .int .u64 (wd N 0), .int .u64 (wd N 1), .int .u64 (wd N 2), .int .u64 (wd N 3), .int .u64 (wd N 4)] 112)
      obtain ⟨wz, hwz⟩ : ∃ wz, wz = wr.alloc (.cells #[.int .u64 (wd M 0), .int .u64 (wd M 1), .int .u64 (wd M 2), .int .u64 (wd M 3), .int .u64 (wd M 4), .int .u64 (wd N 0), .int .u64 (wd N 1), .int .u64 (wd N 2), .int .u64 (wd N 3), .int .u64 (wd N 4)] 112) := ⟨_, rfl⟩
      rw [← hwz] at kR fR ⊢
      clear hwz
      obtain ⟨R, hR⟩ : ∃ R, R = wr.heap.size := ⟨_, rfl⟩
      rw [← hR] at kR ⊢
      have HR : Hid (R = wr.heap.size) := hR
      clear hR a0 a1 a2 a3 a4 b0 b1 b2 b3 b4
      have HB : Hid (∀ u, Fr wz u → u.cell? ⟨R, 5, none⟩ = some (.int .u64 (wd N 0)) ∧ u.cell? ⟨R, 6, none⟩ = some (.int .u64 (wd N 1)) ∧ u.cell? ⟨R, 7, none⟩ = some (.int .u64 (wd N 2)) ∧ u.cell? ⟨R, 8, none⟩ = some (.int .u64 (wd N 3)) ∧ u.cell? ⟨R, 9, none⟩ = some (.int .u64 (wd N 4))) := fun u f => ⟨f.cell (by rw [cell_of_row _ _ _ _ _ _ kR]; rfl), f.cell (by rw [cell_of_row _ _ _ _ _ _ kR]; rfl), f.cell (by rw [cell_of_row _ _ _ _ _ _ kR]; rfl), f.cell (by rw [cell_of_row _ _ _ _ _ _ kR]; rfl), f.cell (by rw [cell_of_row _ _ _ _ _ _ kR]; rfl)⟩
      have FZ := hF.trans fR
      have cN' := fun u (f : Fr wz u) => cN wz u FZ f
      have cI' := fun u v (f : Fr wz u) s => cIk wz v u FZ f s
      have HO : Hid (∀ u, Fr wz u → OwnG layPr u w.heap.size u5 pl) := fun u f => (oV.fr fR).fr f
      have HKk : Hid (∀ u, Fr wz u → RkW u g1 L (edN es) (befN (eE es))) := fun u f => (hK.fr fR).fr f
      have hzw := FZ.size
      clear kR oV hK
      refine wp_region_late 8 dstP consP (mkPrace gb off n c L k w.heap.size R g1 c1 M N u5 u25 u26) (RPrace gb off n c k R N u5 SV wz wz.heap.size ps) (by kernel_rfl) (by kernel_rfl) (by kernel_rfl) (by kernel_rfl) (by kernel_rfl) (dst_of (by kernel_rfl)) (by kernel_rfl) (fun i => [u17, u18, u19, u20, u21, u22, u23, u24].getD (i - 17) undef) rfl ?_ ?_
      · intro i o X u hi ho FW hX
        obtain ⟨b0, b1, b2, b3, b4⟩ := HB.out u FW
        rcases i with _ | _ | _ | _ | _ | _ | _ | _ | i
        · simp only [List.getElem?_toArray, List.getElem?_cons_zero, Option.some.injEq] at ho
          subst ho
          refine ⟨by simp [Region.wanted], ?_⟩
          simp only [mkPrace]
          go_simp
          refine ⟨u5, by simp [upd, dstP], ?_⟩
          rfl
        · simp only [List.getElem?_toArray, List.getElem?_cons_succ, List.getElem?_cons_zero, Option.some.injEq] at ho
          subst ho
          refine ⟨by simp [Region.wanted], ?_⟩
          simp only [mkPrace]
          go_simp
          refine ⟨.slice (some ⟨gb, off, none⟩) n c, by simp [upd, dstP], ?_⟩
          rfl
        · simp only [List.getElem?_toArray, List.getElem?_cons_succ, List.getElem?_cons_zero, Option.some.injEq] at ho
          subst ho
          refine ⟨by simp [Region.wanted], ?_⟩
          simp only [mkPrace]
          go_simp
          refine ⟨.int .i64 (k : Int), by simp [upd, dstP], ?_⟩
          rfl
        · simp only [List.getElem?_toArray, List.getElem?_cons_succ, List.getElem?_cons_zero, Option.some.injEq] at ho
          subst ho
          refine ⟨by simp [Region.wanted], ?_⟩
          simp only [mkPrace]
          go_simp
          refine ⟨.pointer (some ⟨R, 5, none⟩), by simp [upd, dstP], ?_⟩
          rfl
        · simp only [List.getElem?_toArray, List.getElem?_cons_succ, List.getElem?_cons_zero, Option.some.injEq] at ho
          subst ho
          refine ⟨by simp [Region.wanted], ?_⟩
          simp only [mkPrace]
          have e3 : X 20 = _ := hX 3 (by omega) rfl
          go_simp
          refine ⟨.agg #[.int .u64 (wd (N) 0), .int .u64 (wd (N) 1), .int .u64 (wd (N) 2), .int .u64 (wd (N) 3), .int .u64 (wd (N) 4)], by simp [upd, dstP, e3], ?_⟩
          rfl
        · simp only [List.getElem?_toArray, List.getElem?_cons_succ, List.getElem?_cons_zero, Option.some.injEq] at ho
          subst ho
          refine ⟨by simp [Region.wanted], ?_⟩
          simp only [mkPrace]
          go_simp
          refine ⟨.func (.func 75) #[] #[], by simp [upd, dstP], ?_⟩
          rfl
        · simp only [List.getElem?_toArray, List.getElem?_cons_succ, List.getElem?_cons_zero, Option.some.injEq] at ho
          subst ho
          refine ⟨by simp [Region.wanted], ?_⟩
          simp only [mkPrace]
          have e5 : X 22 = _ := hX 5 (by omega) rfl
          have q := cN' u FW
          go_simp
          refine q.mono ?_
          rintro x u' ⟨v, rfl, s', f'⟩
          exact ⟨v, by simp [upd, dstP, e5], FW.trans f', s', fun q x h1 h2 h3 h4 => RPrace_fr hSV h4 f'⟩
        · simp only [List.getElem?_toArray, List.getElem?_cons_succ, List.getElem?_cons_zero, Option.some.injEq] at ho
          subst ho
          refine ⟨by simp [Region.wanted], ?_⟩
          simp only [mkPrace]
          have e1 : X 18 = _ := hX 1 (by omega) rfl
          have e2 : X 19 = _ := hX 2 (by omega) rfl
          have e4 : X 21 = _ := hX 4 (by omega) rfl
          have e6 : SV wz (X 23) u := hX 6 (by omega) rfl
          have q := cI' u (X 23) FW e6
          go_simp
          refine q.mono ?_
          rintro x u' ⟨v, rfl, s', f'⟩
          refine ⟨v, by simp [upd, dstP, e1, e2, e4], f', s', fun q x h1 h2 h3 h4 => ?_⟩
          exact RPrace_past h1 h2 h3 h4
        · omega
      · intro o o2 X u ho ho2 FW hX
        simp only [List.getElem?_toArray, List.getElem?_cons_succ, List.getElem?_cons_zero, Option.some.injEq] at ho ho2
        subst ho ho2
        refine ⟨by simp [Region.wanted], ?_⟩
        have e0 : X 17 = u5 := hX 0 (by omega) rfl
        have e7 : OwnG layPr u wz.heap.size (X 24) ps := hX 7 (by omega) rfl
        obtain ⟨g7, c7, e7e⟩ := ownG_some e7
        have o5 := HO.out u FW
        obtain ⟨g5, c5, e5⟩ := ownG_some o5
        have hzu := FW.size
        have hlt7 : wz.heap.size ≤ g7 := ownG_blk e7 g7 (by rw [e7e]; rfl)
        refine op_appGL layPr (.tmp 17) (.tmp 24) 46 (.agg #[.int .i64 0, .int .i64 0]) 16 rfl Tryz.underlying46 infoPr rfl (by omega) w.heap.size u5 pl ps e0 o5 ⟨g7, 0, none⟩ c7 e7e (news_of_reads (by rw [e7e] at e7; exact ownG_readsG e7)) (by omega) (by omega) ?_
        intro v' u' o' gr at'
        refine ⟨by simp [Region.wanted], ?_⟩
        simp only [mkPrace, Act.put]
        have HO' : Hid (OwnG layPr u' w.heap.size v' (pl ++ ps)) := o'
        have hF' : Fr w u' := (FZ.trans FW).then gr (by rw [e5]; intro j hj; cases hj; exact ownG_blk o5 g5 (by rw [e5]; rfl))
        have hvg5 : ∀ b, u5.ownBlock = some b → b ≠ g1 := hvg
        have HK' : Hid (RkW u' g1 L (edN es) (befN (eE es))) := (HKk.out u FW).keep gr (by intro e; exact hvg5 g1 e rfl)
        have HV' : Hid (∀ b, v'.ownBlock = some b → b ≠ g1) := fun b hb => by
          rcases at' with e | e
          · rw [e] at hb; exact hvg b hb
          · rw [e] at hb
            have h1 := (HKk.out u FW).row.lt
            simp only [Option.some.injEq] at hb
            omega
        clear o' gr at' e7 e7e e0 hX o5 e5 hvg hvg5 hlt7
        go_simp
        go_wp2_with fail
        go_roundw
        case rel => exact ⟨k + 1, by omega, by go_num, by rw [HPL.out]; exact HO'.out, hF', HK'.out, HV'.out⟩
        case measure => simp [intOf]; omega
    · obtain rfl : k = L := by omega
      go_wp2_with fail
      go_ret
      exact ⟨_, rfl, oV, hF⟩

def mkPshort (gb off n c L k : Nat) (lb w0 R g1 c1 : Nat) (M N : Nat) (pv u25 u26 : Value) (X : Nat → Value) : Act :=
  { tmps := #[.slice (some ⟨gb, off, none⟩) n c, .func (.func 76) #[] #[.pointer (some ⟨lb, 0, none⟩)], undef, undef, .slice none 0 0, pv, .int .i64 (k : Int), .pointer (some ⟨R, 0, none⟩), .slice (some ⟨w0, 0, none⟩) 0 0, .slice (some ⟨gb, off, none⟩) n c, .slice (some ⟨g1, 0, none⟩) L c1, .int .i64 (L : Int), .int .i64 (k : Int), .bool true, .int .i64 (k : Int), .pointer (some ⟨g1, k * 10, none⟩), .agg #[.int .u64 (wd M 0), .int .u64 (wd M 1), .int .u64 (wd M 2), .int .u64 (wd M 3), .int .u64 (wd M 4), .int .u64 (wd N 0), .int .u64 (wd N 1), .int .u64 (wd N 2), .int .u64 (wd N 3), .int .u64 (wd N 4)], X 17, X 18, X 19, X 20, X 21, X 22, X 23, X 24, u25, u26, undef], defers := [] }
def RPshort (gb off n c k : Nat) (lb R N : Nat) (pv : Value) (SV : World → Value → World → Prop) (wz : World) (B : Nat) (ps : List (Int × Int)) : Nat → Value → World → Prop
  | 0, v, _ => v = pv
  | 1, v, _ => v = .slice (some ⟨gb, off, none⟩) n c
  | 2, v, _ => v = .int .i64 (k : Int)
  | 3, v, _ => v = .pointer (some ⟨R, 5, none⟩)
  | 4, v, _ => v = .agg #[.int .u64 (wd (N) 0), .int .u64 (wd (N) 1), .int .u64 (wd (N) 2), .int .u64 (wd (N) 3), .int .u64 (wd (N) 4)]
  | 5, v, _ => v = .func (.func 76) #[] #[.pointer (some ⟨lb, 0, none⟩)]
  | 6, v, u => SV wz v u
  | 7, v, u => OwnG layPr u B v ps
  | _, _, _ => True
theorem RPshort_fr {gb off n c k lb R N : Nat} {pv : Value} {SV : World → Value → World → Prop} {wz : World} {B : Nat} {ps : List (Int × Int)} (hSV : ∀ W v u u', SV W v u → Fr u u' → SV W v u') {q : Nat} {x : Value} {u u' : World} (h : RPshort gb off n c k lb R N pv SV wz B ps q x u) (f : Fr u u') : RPshort gb off n c k lb R N pv SV wz B ps q x u' := by
  rcases q with _ | _ | _ | _ | _ | _ | _ | _ | q
  · exact h
  · exact h
  · exact h
  · exact h
  · exact h
  · exact h
  · exact hSV _ _ _ _ h f
  · exact OwnG.fr h f
  · trivial

theorem RPshort_past {gb off n c k lb R N : Nat} {pv : Value} {SV : World → Value → World → Prop} {wz : World} {B : Nat} {ps : List (Int × Int)} {q : Nat} {x : Value} {u u' : World} (h1 : q < 8) (h2 : q ≠ 7) (h3 : consP q ≠ 7) (h : RPshort gb off n c k lb R N pv SV wz B ps q x u) : RPshort gb off n c k lb R N pv SV wz B ps q x u' := by
  rcases q with _ | _ | _ | _ | _ | _ | _ | _ | q
  · exact h
  · exact absurd rfl h3
  · exact absurd rfl h3
  · exact h
  · exact absurd rfl h3
  · exact h
  · exact absurd rfl h3
  · exact absurd rfl h2
  · omega

set_option maxRecDepth 20000 in
set_option maxHeartbeats 8000000 in
theorem pairsIn_short (gb off n c L : Nat) (es : List Ev) (lk : List Bool) (lb : Nat) (w : World) (SV : World → Value → World → Prop) (hSV : ∀ W v u u', SV W v u → Fr u u' → SV W v u')
    (cR : ∀ W, Fr w W → Calls Tryz.prog 130 #[.slice (some ⟨gb, off, none⟩) n c] W fun x w' => ∃ g cap, x = .returned (.slice (some ⟨g, 0, none⟩) L cap) ∧ RkW w' g L (edN es) (befN (eE es)) ∧ W.heap.size ≤ g ∧ Fr W w') (hL : L ≤ 300)
    (cN : ∀ W u, Fr w W → Fr W u → Calls Tryz.prog 76 #[.pointer (some ⟨lb, 0, none⟩)] u fun x w' => ∃ v, x = .returned v ∧ SV W v w' ∧ Fr u w')
    (cI : ∀ (j : Nat), j < L → ∀ W v u, Fr w W → Fr W u → SV W v u → Calls Tryz.prog 131 #[.slice (some ⟨gb, off, none⟩) n c, .int .i64 (j : Int), .agg #[.int .u64 (wd (befN (eE es) j) 0), .int .u64 (wd (befN (eE es) j) 1), .int .u64 (wd (befN (eE es) j) 2), .int .u64 (wd (befN (eE es) j) 3), .int .u64 (wd (befN (eE es) j) 4)], v] u fun x w' => ∃ y, x = .returned y ∧ OwnG layPr w' W.heap.size y (pairsJ es lk true j) ∧ Fr W w') :
    Calls Tryz.prog 74 #[.slice (some ⟨gb, off, none⟩) n c, .func (.func 76) #[] #[.pointer (some ⟨lb, 0, none⟩)]] w fun x w' => ∃ v, x = .returned v ∧ OwnG layPr w' w.heap.size v (pairsL es lk true L) ∧ Fr w w' := by
  have f0 := Fr.alloc w (.cells #[] 51)
  have ov := ownG_new layPr w w.heap.size (Nat.le_refl _)
  have ov : OwnG layPr (w.alloc (.cells #[] 51)) w.heap.size (.slice (some ⟨w.heap.size, 0, none⟩) 0 0) [] := ov
  have cR := cR _ f0
  have hz0 : (w.alloc (.cells #[] 51)).heap.size = w.heap.size + 1 := by simp
  go_enter Tryz.func74, Tryz.ntmps74
  go_wp2_with fail
  refine cR.mono ?_
  rintro x u1 ⟨g1, c1, rfl, K1, hg1, f1⟩
  have F1 := f0.trans f1
  replace ov := ov.fr f1
  have hgz := K1.row.lt
  have HK : Hid (∀ u, Fr u1 u → RkW u g1 L (edN es) (befN (eE es))) := fun u f => K1.fr f
  rw [hz0] at hg1
  clear cR K1 hz0
  go_wp2_with fail
  go_loopw [5, 12] (fun v i wr => ∃ k : Nat, k ≤ L ∧ i = .int .i64 k ∧ OwnG layPr wr w.heap.size v (pairsL es lk true k) ∧ Fr w wr ∧ RkW wr g1 L (edN es) (befN (eE es)) ∧ (∀ b, v.ownBlock = some b → b ≠ g1)) (fun _ i _ => L - (intOf i).toNat)
  case atStart => exact ⟨0, Nat.zero_le _, rfl, ov, F1, HK.out _ (Fr.refl _), fun b hb => by simp only [Value.ownBlock, Option.some.injEq] at hb; omega⟩
  case round =>
    clear ov F1
    obtain ⟨k, hk, rfl, oV, hF, hK, hvg⟩ := hrel
    by_cases hlt : k < L
    · have hki : (k : Int) < (L : Int) := by omega
      have cIk := cI k hlt
      have a0 : wr.cell? ⟨g1, k * 10, none⟩ = some (.int .u64 (wd (edN es k) 0)) := hK.ed k hlt 0 (by omega)
      have a1 : wr.cell? ⟨g1, k * 10 + 1, none⟩ = some (.int .u64 (wd (edN es k) 1)) := hK.ed k hlt 1 (by omega)
      have a2 : wr.cell? ⟨g1, k * 10 + 2, none⟩ = some (.int .u64 (wd (edN es k) 2)) := hK.ed k hlt 2 (by omega)
      have a3 : wr.cell? ⟨g1, k * 10 + 3, none⟩ = some (.int .u64 (wd (edN es k) 3)) := hK.ed k hlt 3 (by omega)
      have a4 : wr.cell? ⟨g1, k * 10 + 4, none⟩ = some (.int .u64 (wd (edN es k) 4)) := hK.ed k hlt 4 (by omega)
      have b0 : wr.cell? ⟨g1, k * 10 + 5, none⟩ = some (.int .u64 (wd (befN (eE es) k) 0)) := hK.bf k hlt 0 (by omega)
      have b1 : wr.cell? ⟨g1, k * 10 + 6, none⟩ = some (.int .u64 (wd (befN (eE es) k) 1)) := hK.bf k hlt 1 (by omega)
      have b2 : wr.cell? ⟨g1, k * 10 + 7, none⟩ = some (.int .u64 (wd (befN (eE es) k) 2)) := hK.bf k hlt 2 (by omega)
      have b3 : wr.cell? ⟨g1, k * 10 + 8, none⟩ = some (.int .u64 (wd (befN (eE es) k) 3)) := hK.bf k hlt 3 (by omega)
      have b4 : wr.cell? ⟨g1, k * 10 + 9, none⟩ = some (.int .u64 (wd (befN (eE es) k) 4)) := hK.bf k hlt 4 (by omega)
      obtain ⟨N, hN⟩ : ∃ N, N = befN (eE es) k := ⟨_, rfl⟩
      obtain ⟨M, hM⟩ : ∃ M, M = edN es k := ⟨_, rfl⟩
      rw [← hN] at b0 b1 b2 b3 b4 cIk
      rw [← hM] at a0 a1 a2 a3 a4
      clear hN hM
      have hPL : pairsL es lk true (k + 1) = pairsL es lk true k ++ pairsJ es lk true k := rfl
      have hPJ := pairsJ_len es lk true k
      have hPk := pairsL_len es lk true k (by omega)
      obtain ⟨ps, hps⟩ : ∃ ps, ps = pairsJ es lk true k := ⟨_, rfl⟩
      obtain ⟨pl, hpl⟩ : ∃ pl, pl = pairsL es lk true k := ⟨_, rfl⟩
      rw [← hps, ← hpl] at hPL
      have HPL : Hid (pairsL es lk true (k + 1) = pl ++ ps) := hPL
      rw [← hps] at cIk hPJ
      rw [← hpl] at oV hPk
      clear hPL hps hpl
      go_wp2_with fail
      have kR := heap_alloc_new wr (.cells #[.int .u64 (wd M 0), .int .u64 (wd M 1), .int .u64 (wd M 2), .int .u64 (wd M 3), .int .u64 (wd M 4), .int .u64 (wd N 0), .int .u64 (wd N 1), .int .u64 (wd N 2), .int .u64 (wd N 3), .int .u64 (wd N 4)] 112)
      have fR := Fr.alloc wr (.cells #[.int .u64 (wd M 0), .int .u64 (wd M 1), .int .u64 (wd M 2), .int .u64 (wd M 3), .int .u64 (wd M 4), .int .u64 (wd N 0), .int .u64 (wd N 1), .int .u64 (wd N 2), .int .u64 (wd N 3), .int .u64 (wd N 4)] 112)
      obtain ⟨wz, hwz⟩ : ∃ wz, wz = wr.alloc (.cells #[.int .u64 (wd M 0), .int .u64 (wd M 1), .int .u64 (wd M 2), .int .u64 (wd M 3), .int .u64 (wd M 4), .int .u64 (wd N 0), .int .u64 (wd N 1), .int .u64 (wd N 2), .int .u64 (wd N 3), .int .u64 (wd N 4)] 112) := ⟨_, rfl⟩
      rw [← hwz] at kR fR ⊢
      clear hwz
      obtain ⟨R, hR⟩ : ∃ R, R = wr.heap.size := ⟨_, rfl⟩
      rw [← hR] at kR ⊢
      have HR : Hid (R = wr.heap.size) := hR
      clear hR a0 a1 a2 a3 a4 b0 b1 b2 b3 b4
      have HB : Hid (∀ u, Fr wz u → u.cell? ⟨R, 5, none⟩ = some (.int .u64 (wd N 0)) ∧ u.cell? ⟨R, 6, none⟩ = some (.int .u64 (wd N 1)) ∧ u.cell? ⟨R, 7, none⟩ = some (.int .u64 (wd N 2)) ∧ u.cell? ⟨R, 8, none⟩ = some (.int .u64 (wd N 3)) ∧ u.cell? ⟨R, 9, none⟩ = some (.int .u64 (wd N 4))) := fun u f => ⟨f.cell (by rw [cell_of_row _ _ _ _ _ _ kR]; rfl), f.cell (by rw [cell_of_row _ _ _ _ _ _ kR]; rfl), f.cell (by rw [cell_of_row _ _ _ _ _ _ kR]; rfl), f.cell (by rw [cell_of_row _ _ _ _ _ _ kR]; rfl), f.cell (by rw [cell_of_row _ _ _ _ _ _ kR]; rfl)⟩
      have FZ := hF.trans fR
      have cN' := fun u (f : Fr wz u) => cN wz u FZ f
      have cI' := fun u v (f : Fr wz u) s => cIk wz v u FZ f s
      have HO : Hid (∀ u, Fr wz u → OwnG layPr u w.heap.size u5 pl) := fun u f => (oV.fr fR).fr f
      have HKk : Hid (∀ u, Fr wz u → RkW u g1 L (edN es) (befN (eE es))) := fun u f => (hK.fr fR).fr f
      have hzw := FZ.size
      clear kR oV hK
      refine wp_region_late 8 dstP consP (mkPshort gb off n c L k lb w.heap.size R g1 c1 M N u5 u25 u26) (RPshort gb off n c k lb R N u5 SV wz wz.heap.size ps) (by kernel_rfl) (by kernel_rfl) (by kernel_rfl) (by kernel_rfl) (by kernel_rfl) (dst_of (by kernel_rfl)) (by kernel_rfl) (fun i => [u17, u18, u19, u20, u21, u22, u23, u24].getD (i - 17) undef) rfl ?_ ?_
      · intro i o X u hi ho FW hX
        obtain ⟨b0, b1, b2, b3, b4⟩ := HB.out u FW
        rcases i with _ | _ | _ | _ | _ | _ | _ | _ | i
        · simp only [List.getElem?_toArray, List.getElem?_cons_zero, Option.some.injEq] at ho
          subst ho
          refine ⟨by simp [Region.wanted], ?_⟩
          simp only [mkPshort]
          go_simp
          refine ⟨u5, by simp [upd, dstP], ?_⟩
          rfl
        · simp only [List.getElem?_toArray, List.getElem?_cons_succ, List.getElem?_cons_zero, Option.some.injEq] at ho
          subst ho
          refine ⟨by simp [Region.wanted], ?_⟩
          simp only [mkPshort]
          go_simp
          refine ⟨.slice (some ⟨gb, off, none⟩) n c, by simp [upd, dstP], ?_⟩
          rfl
        · simp only [List.getElem?_toArray, List.getElem?_cons_succ, List.getElem?_cons_zero, Option.some.injEq] at ho
          subst ho
          refine ⟨by simp [Region.wanted], ?_⟩
          simp only [mkPshort]
          go_simp
          refine ⟨.int .i64 (k : Int), by simp [upd, dstP], ?_⟩
          rfl
        · simp only [List.getElem?_toArray, List.getElem?_cons_succ, List.getElem?_cons_zero, Option.some.injEq] at ho
          subst ho
          refine ⟨by simp [Region.wanted], ?_⟩
          simp only [mkPshort]
          go_simp
          refine ⟨.pointer (some ⟨R, 5, none⟩), by simp [upd, dstP], ?_⟩
          rfl
        · simp only [List.getElem?_toArray, List.getElem?_cons_succ, List.getElem?_cons_zero, Option.some.injEq] at ho
          subst ho
          refine ⟨by simp [Region.wanted], ?_⟩
          simp only [mkPshort]
          have e3 : X 20 = _ := hX 3 (by omega) rfl
          go_simp
          refine ⟨.agg #[.int .u64 (wd (N) 0), .int .u64 (wd (N) 1), .int .u64 (wd (N) 2), .int .u64 (wd (N) 3), .int .u64 (wd (N) 4)], by simp [upd, dstP, e3], ?_⟩
          rfl
        · simp only [List.getElem?_toArray, List.getElem?_cons_succ, List.getElem?_cons_zero, Option.some.injEq] at ho
          subst ho
          refine ⟨by simp [Region.wanted], ?_⟩
          simp only [mkPshort]
          go_simp
          refine ⟨.func (.func 76) #[] #[.pointer (some ⟨lb, 0, none⟩)], by simp [upd, dstP], ?_⟩
          rfl
        · simp only [List.getElem?_toArray, List.getElem?_cons_succ, List.getElem?_cons_zero, Option.some.injEq] at ho
          subst ho
          refine ⟨by simp [Region.wanted], ?_⟩
          simp only [mkPshort]
          have e5 : X 22 = _ := hX 5 (by omega) rfl
          have q := cN' u FW
          go_simp
          refine q.mono ?_
          rintro x u' ⟨v, rfl, s', f'⟩
          exact ⟨v, by simp [upd, dstP, e5], FW.trans f', s', fun q x h1 h2 h3 h4 => RPshort_fr hSV h4 f'⟩
        · simp only [List.getElem?_toArray, List.getElem?_cons_succ, List.getElem?_cons_zero, Option.some.injEq] at ho
          subst ho
          refine ⟨by simp [Region.wanted], ?_⟩
          simp only [mkPshort]
          have e1 : X 18 = _ := hX 1 (by omega) rfl
          have e2 : X 19 = _ := hX 2 (by omega) rfl
          have e4 : X 21 = _ := hX 4 (by omega) rfl
          have e6 : SV wz (X 23) u := hX 6 (by omega) rfl
          have q := cI' u (X 23) FW e6
          go_simp
          refine q.mono ?_
          rintro x u' ⟨v, rfl, s', f'⟩
          refine ⟨v, by simp [upd, dstP, e1, e2, e4], f', s', fun q x h1 h2 h3 h4 => ?_⟩
          exact RPshort_past h1 h2 h3 h4
        · omega
      · intro o o2 X u ho ho2 FW hX
        simp only [List.getElem?_toArray, List.getElem?_cons_succ, List.getElem?_cons_zero, Option.some.injEq] at ho ho2
        subst ho ho2
        refine ⟨by simp [Region.wanted], ?_⟩
        have e0 : X 17 = u5 := hX 0 (by omega) rfl
        have e7 : OwnG layPr u wz.heap.size (X 24) ps := hX 7 (by omega) rfl
        obtain ⟨g7, c7, e7e⟩ := ownG_some e7
        have o5 := HO.out u FW
        obtain ⟨g5, c5, e5⟩ := ownG_some o5
        have hzu := FW.size
        have hlt7 : wz.heap.size ≤ g7 := ownG_blk e7 g7 (by rw [e7e]; rfl)
        refine op_appGL layPr (.tmp 17) (.tmp 24) 46 (.agg #[.int .i64 0, .int .i64 0]) 16 rfl Tryz.underlying46 infoPr rfl (by omega) w.heap.size u5 pl ps e0 o5 ⟨g7, 0, none⟩ c7 e7e (news_of_reads (by rw [e7e] at e7; exact ownG_readsG e7)) (by omega) (by omega) ?_
        intro v' u' o' gr at'
        refine ⟨by simp [Region.wanted], ?_⟩
        simp only [mkPshort, Act.put]
        have HO' : Hid (OwnG layPr u' w.heap.size v' (pl ++ ps)) := o'
        have hF' : Fr w u' := (FZ.trans FW).then gr (by rw [e5]; intro j hj; cases hj; exact ownG_blk o5 g5 (by rw [e5]; rfl))
        have hvg5 : ∀ b, u5.ownBlock = some b → b ≠ g1 := hvg
        have HK' : Hid (RkW u' g1 L (edN es) (befN (eE es))) := (HKk.out u FW).keep gr (by intro e; exact hvg5 g1 e rfl)
        have HV' : Hid (∀ b, v'.ownBlock = some b → b ≠ g1) := fun b hb => by
          rcases at' with e | e
          · rw [e] at hb; exact hvg b hb
          · rw [e] at hb
            have h1 := (HKk.out u FW).row.lt
            simp only [Option.some.injEq] at hb
            omega
        clear o' gr at' e7 e7e e0 hX o5 e5 hvg hvg5 hlt7
        go_simp
        go_wp2_with fail
        go_roundw
        case rel => exact ⟨k + 1, by omega, by go_num, by rw [HPL.out]; exact HO'.out, hF', HK'.out, HV'.out⟩
        case measure => simp [intOf]; omega
    · obtain rfl : k = L := by omega
      go_wp2_with fail
      go_ret
      exact ⟨_, rfl, oV, hF⟩
end Go.Proofs.YtcofhmikdkkigaaGreatDoor

namespace Go.Proofs.YtcofhmikdkkigaaGreatDoor
open Go.RowKit

theorem fr_ofS {wb rb : Nat} {w w' : World} (h : FrS (SvS false wb rb) w w') : Fr w w' := ⟨h.os, h.tape, h.output, h.size, fun k hk _ => h.block k hk (fun q => by cases q.1)⟩
theorem fr_behind {S : Nat → Prop} {W u w' : World} (f : Fr W u) (h : FrS S u w') (hS : ∀ b, S b → W.heap.size ≤ b) : Fr W w' :=
  ⟨h.os.trans f.os, h.tape.trans f.tape, h.output.trans f.output, Nat.le_trans f.size h.size, fun k hk _ => (h.block k (Nat.lt_of_lt_of_le hk f.size) (fun q => by have := hS k q; omega)).trans (f.block k hk (by simp))⟩

theorem ranks_cR (gb off n c : Nat) (es : List Ev) (w : World) (hn : es.length = n) (h : ReadsE w (some ⟨gb, off, none⟩) es) (hs : Shapes w) (hab : gb < w.heap.size) :
    ∀ W, Fr w W → Calls Tryz.prog 130 #[.slice (some ⟨gb, off, none⟩) n c] W fun x w' => ∃ g cap, x = .returned (.slice (some ⟨g, 0, none⟩) (lpL es).length cap) ∧ RkW w' g (lpL es).length (edN es) (befN (eE es)) ∧ W.heap.size ≤ g ∧ Fr W w' := by
  intro W fW
  by_cases hl : es.length ≤ 300
  · rw [lp_len hl]
    exact ranksOf_any _ n c es W hn (h.fr fW) (hs.fr fW) (fun k hk => by simp only [blk, Option.map_some, Option.some.injEq] at hk; have := fW.size; omega) hl
  · rw [lp_none hl]
    exact ranksOf_core _ es 0 W (by omega) (edgesOf_big _ n c es W hn hl)
theorem into_race' (gb off n c : Nat) (es : List Ev) (w : World) (hn : es.length = n) (hnc : n ≤ c) (h : ReadsE w (some ⟨gb, off, none⟩) es) (hs : Shapes w) (j : Nat) (hj : j < (lpL es).length) :
    Calls Tryz.prog 131 #[.slice (some ⟨gb, off, none⟩) n c, .int .i64 (j : Int), .agg #[.int .u64 (wd (befN (eE es) j) 0), .int .u64 (wd (befN (eE es) j) 1), .int .u64 (wd (befN (eE es) j) 2), .int .u64 (wd (befN (eE es) j) 3), .int .u64 (wd (befN (eE es) j) 4)], .func (.func 132) #[] #[]] w fun x w' => ∃ v, x = .returned v ∧ OwnG layPr w' w.heap.size v (pairsJ es [] false j) ∧ Fr w w' := by
  have h300 := lpL_300 es
  have hle : (lpL es).length ≤ es.length := by unfold lpL; rw [List.length_take]; omega
  have hlen := h.len
  refine (into_race false rfl 0 0 0 none 0 0 gb off n c j es [] w hn hnc (by omega) (by omega) (by omega) (fun u f => h.fr (fr_ofS f)) (fun u f => hs.fr (fr_ofS f)) (fun q => by cases q) rfl (by omega) (fun q => by cases q) (fun q => by cases q) (fun i hi _ => leg_gor (by omega)) (fun B g cap ps u hu => rev_any B g cap ps u hu)).mono ?_
  rintro x w' ⟨v, rfl, o, f, -⟩
  exact ⟨v, rfl, o, fr_ofS f⟩

set_option maxHeartbeats 1000000 in
theorem implRaces_any (gb off n c : Nat) (es : List Ev) (w : World) (hn : es.length = n) (hnc : n ≤ c) (h : ReadsE w (some ⟨gb, off, none⟩) es) (hs : Shapes w) (hab : gb < w.heap.size) :
    Calls Tryz.prog 22 #[.slice (some ⟨gb, off, none⟩) n c] w fun x w' => ∃ v, x = .returned v ∧ OwnG layPr w' w.heap.size v (pairsL (lpL es) [] false (lpL es).length) ∧ Fr w w' := by
  rw [pairsL_lp (Nat.le_refl _)]
  have cP := pairsIn_race gb off n c (lpL es).length es w (fun _ v _ => v = .func (.func 132) #[] #[]) (fun _ _ _ _ q _ => q) (ranks_cR gb off n c es w hn h hs hab) (lpL_300 es)
    (fun W u fW fu => (raceSieve_any u).mono fun x w' ⟨e, e2⟩ => ⟨_, e, rfl, by rw [e2]; exact Fr.refl _⟩)
    (fun j hj W v u fW fu hv => by
      subst hv
      refine (into_race' gb off n c es u hn hnc (h.fr (fW.trans fu)) (hs.fr (fW.trans fu)) j hj).mono ?_
      rintro x w' ⟨y, rfl, o, f⟩
      exact ⟨y, rfl, o.lower fu.size, fu.trans f⟩)
  obtain ⟨N, hN⟩ : ∃ N, N = (lpL es).length := ⟨_, rfl⟩
  obtain ⟨ps, hps⟩ : ∃ ps, ps = pairsL es [] false (lpL es).length := ⟨_, rfl⟩
  rw [← hps] at cP ⊢
  clear hps
  go_enter Tryz.func22, Tryz.ntmps22
  go_wp2_with fail
  refine cP.mono ?_
  rintro x u1 ⟨v, rfl, o1, f1⟩
  go_wp2_with fail
  go_ret
  exact ⟨v, rfl, o1, f1⟩

def SvV (lo : Option Addr) (m lc : Nat) (W : World) (v : Value) (u : World) : Prop :=
  ∃ tb wb rb, v = .func (.func 133) #[] #[.pointer (some ⟨tb, 0, none⟩), .pointer (some ⟨wb, 0, none⟩), .pointer (some ⟨rb, 0, none⟩)] ∧ Sv8 tb wb rb lo m lc 0 (fun _ => 0) u ∧ (W.heap.size ≤ tb ∧ tb < u.heap.size) ∧ (W.heap.size ≤ wb ∧ wb < u.heap.size) ∧ (W.heap.size ≤ rb ∧ rb < u.heap.size)
theorem SvV.fr {lo : Option Addr} {m lc : Nat} {W : World} {v : Value} {u u' : World} (h : SvV lo m lc W v u) (f : Fr u u') : SvV lo m lc W v u' := by
  obtain ⟨tb, wb, rb, e, s, h1, h2, h3⟩ := h
  have := f.size
  exact ⟨tb, wb, rb, e, s.fr f, ⟨h1.1, by omega⟩, ⟨h2.1, by omega⟩, ⟨h3.1, by omega⟩⟩
theorem into_short' (gb off n c : Nat) (lo : Option Addr) (m lc : Nat) (es : List Ev) (lk : List Bool) (W : World) (hn : es.length = n) (hnc : n ≤ c) (h : ReadsE W (some ⟨gb, off, none⟩) es) (hs : Shapes W) (hm : lk.length = m) (hL : ReadsG layBo W lo lk) (hm2 : m ≤ 16777216)
    (j : Nat) (hj : j < (lpL es).length) (v : Value) (u : World) (fu : Fr W u) (hv : SvV lo m lc W v u) :
    Calls Tryz.prog 131 #[.slice (some ⟨gb, off, none⟩) n c, .int .i64 (j : Int), .agg #[.int .u64 (wd (befN (eE es) j) 0), .int .u64 (wd (befN (eE es) j) 1), .int .u64 (wd (befN (eE es) j) 2), .int .u64 (wd (befN (eE es) j) 3), .int .u64 (wd (befN (eE es) j) 4)], v] u fun x w' => ∃ y, x = .returned y ∧ OwnG layPr w' W.heap.size y (pairsJ es lk true j) ∧ Fr W w' := by
  have h300 := lpL_300 es
  have hle : (lpL es).length ≤ es.length := by unfold lpL; rw [List.length_take]; omega
  have hlen := h.len
  obtain ⟨tb, wb, rb, rfl, S8, b1, b2, b3⟩ := hv
  have hSS : ∀ b, SvS true wb rb b → W.heap.size ≤ b := fun b q => by rcases q.2 with e | e <;> omega
  have hX := fun u' (f : FrS (SvS true wb rb) u u') => fr_behind fu f hSS
  refine (into_short true rfl tb wb rb lo m lc gb off n c j es lk u hn hnc (by omega) (by omega) (by omega) (fun u' f => h.fr (hX u' f)) (fun u' f => hs.fr (hX u' f)) (fun _ u' f => hL.fr (hX u' f)) hm hm2 (fun _ => S8) (fun _ => ⟨b1.2, b2.2, b3.2⟩) (fun i hi _ => leg_gor (by omega)) (fun B g cap ps u hu => rev_any B g cap ps u hu)).mono ?_
  rintro x w' ⟨y, rfl, o, f, -⟩
  exact ⟨y, rfl, o.lower fu.size, fr_behind fu f hSS⟩

set_option maxHeartbeats 1000000 in
theorem shortIn1_any (lb : Nat) (lo : Option Addr) (m lc : Nat) (W u : World) (hb : u.cell? ⟨lb, 0, none⟩ = some (.slice lo m lc)) (fu : Fr W u) :
    Calls Tryz.prog 76 #[.pointer (some ⟨lb, 0, none⟩)] u fun x w' => ∃ v, x = .returned v ∧ SvV lo m lc W v w' ∧ Fr u w' := by
  have cS := shortSieve_any lo m lc u
  have hz := fu.size
  go_enter Tryz.func76, Tryz.ntmps76
  go_wp2_with fail
  refine cS.mono ?_
  rintro x u1 ⟨tb, wb, rb, rfl, S8, a1, a2, a3, a4, a5, a6, f1⟩
  go_wp2_with fail
  go_ret
  exact ⟨_, rfl, ⟨tb, wb, rb, rfl, S8, ⟨by omega, a2⟩, ⟨by omega, a4⟩, ⟨by omega, a6⟩⟩, f1⟩

set_option maxHeartbeats 1000000 in
theorem implShort_any (gb off n c : Nat) (lo : Option Addr) (m lc : Nat) (es : List Ev) (lk : List Bool) (w : World) (hn : es.length = n) (hnc : n ≤ c) (h : ReadsE w (some ⟨gb, off, none⟩) es) (hs : Shapes w) (hab : gb < w.heap.size) (hm : lk.length = m) (hL : ReadsG layBo w lo lk) (hm2 : m ≤ 16777216) :
    Calls Tryz.prog 23 #[.slice (some ⟨gb, off, none⟩) n c, .slice lo m lc] w fun x w' => ∃ v, x = .returned v ∧ OwnG layPr w' w.heap.size v (pairsL (lpL es) lk true (lpL es).length) ∧ Fr w w' := by
  rw [pairsL_lp (Nat.le_refl _)]
  have f0 := Fr.alloc w (.cells #[.slice lo m lc] 44)
  have k0 := heap_alloc_new w (.cells #[.slice lo m lc] 44)
  have hz0 : w.heap.size ≤ (w.alloc (.cells #[.slice lo m lc] 44)).heap.size := f0.size
  have cP := pairsIn_short gb off n c (lpL es).length es lk w.heap.size (w.alloc (.cells #[.slice lo m lc] 44)) (SvV lo m lc) (fun _ _ _ _ q f => q.fr f) (ranks_cR gb off n c es _ hn (h.fr f0) (hs.fr f0) (by omega)) (lpL_300 es)
    (fun W u fW fu => shortIn1_any w.heap.size lo m lc W u ((fW.trans fu).cell (by rw [cell_of_row _ _ _ _ _ _ k0]; rfl)) fu)
    (fun j hj W v u fW fu hv => into_short' gb off n c lo m lc es lk W hn hnc (h.fr (f0.trans fW)) (hs.fr (f0.trans fW)) hm (hL.fr (f0.trans fW)) hm2 j hj v u fu hv)
  obtain ⟨N, hN⟩ : ∃ N, N = (lpL es).length := ⟨_, rfl⟩
  obtain ⟨ps, hps⟩ : ∃ ps, ps = pairsL es lk true (lpL es).length := ⟨_, rfl⟩
  rw [← hps] at cP ⊢
  clear hps k0
  have hmf : ∀ (fn : Fn) (first cap : Array Value) (w : World), (Instr.makeFunc fn first cap).run Tryz.prog w = .ok (.func fn first cap) w := fun _ _ _ _ => rfl
  go_enter Tryz.func23, Tryz.ntmps23
  go_wp2_with fail
  refine cP.mono ?_
  rintro x u1 ⟨v, rfl, o1, f1⟩
  go_wp2_with fail
  go_ret
  exact ⟨v, rfl, o1.lower hz0, f0.trans f1⟩
end Go.Proofs.YtcofhmikdkkigaaGreatDoor
