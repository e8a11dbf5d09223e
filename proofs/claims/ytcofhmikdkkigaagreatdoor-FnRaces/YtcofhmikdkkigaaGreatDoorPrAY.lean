/-
  Pack AY: Pset2, Past.
-/
import Derived.Test.YtcofhmikdkkigaaGreatDoorPrAP
import Derived.Test.YtcofhmikdkkigaaGreatDoorPrAE
import Derived.Test.YtcofhmikdkkigaaGreatDoorPrAQ
import Derived.Test.YtcofhmikdkkigaaGreatDoorPrAV
import Derived.Test.YtcofhmikdkkigaaGreatDoorPrAN
import Derived.Test.YtcofhmikdkkigaaGreatDoorPrAD
import Derived.Deep.RegionHeld3
namespace Go.Proofs.YtcofhmikdkkigaaGreatDoor
open Go.RowKit

theorem ixk (f : Nat → Nat) (k : Nat) (hk : k < 5) (w : World) : (Instr.index 110 (.agg #[.int .u64 (f 0), .int .u64 (f 1), .int .u64 (f 2), .int .u64 (f 3), .int .u64 (f 4)]) (.int .i64 k)).run Tryz.prog w = .ok (.int .u64 (f k)) w := by
  rcases k with _ | _ | _ | _ | _ | k
  · exact ix0 f w
  · exact ix1 f w
  · exact ix2 f w
  · exact ix3 f w
  · exact ix4 f w
  · omega
theorem Tab.fr {w w' : World} (h : Tab w) (k : Fr w w') : Tab w' := fun j hj => k.cell (h j hj)
def upTo (f : Nat → Nat) : Nat → List Int
  | 0 => []
  | k + 1 => upTo f k ++ (bitsL 64 (f k)).map fun i : Nat => (k : Int) * 64 + i
theorem upTo_len (f : Nat → Nat) : ∀ k, (upTo f k).length ≤ 64 * k
  | 0 => by simp [upTo]
  | k + 1 => by
    have ih := upTo_len f k
    have : (bitsL 64 (f k)).length ≤ 64 := by
      unfold bitsL
      have := List.length_filter_le (fun i => (f k).testBit i) (List.range 64)
      simpa using this
    simp only [upTo, List.length_append, List.length_map]
    omega
def rsL (N : Nat) : List Int := (bitsL 320 N).map fun i : Nat => (i : Int)
theorem rsL_upTo (N : Nat) : upTo (wd N) 5 = rsL N := by
  unfold rsL
  rw [bitsL_sum]
  simp only [upTo, List.map_append, List.map_map, List.nil_append]
  congr 1
  congr 1
  congr 1
  congr 1
  apply List.map_congr_left
  intro a _
  simp

set_option maxRecDepth 20000 in
set_option maxHeartbeats 2000000 in
theorem rising_core (f : Nat → Nat) (hf : ∀ k, f k < 18446744073709551616) (w : World) (hT : Tab w) :
    Calls Tryz.prog 86 #[.agg #[.int .u64 (f 0), .int .u64 (f 1), .int .u64 (f 2), .int .u64 (f 3), .int .u64 (f 4)]] w fun e w' => ∃ v, e = .returned v ∧ OwnS w' w.heap.size v (upTo f 5) ∧ Fr w w' := by
  have f0 := Fr.alloc w (.cells #[.int .u64 (f 0), .int .u64 (f 1), .int .u64 (f 2), .int .u64 (f 3), .int .u64 (f 4)] 110)
  go_enter Tryz.func86, Tryz.ntmps86
  go_wp2_with fail
  obtain ⟨W, hW⟩ : ∃ W, W = w.alloc (.cells #[.int .u64 (f 0), .int .u64 (f 1), .int .u64 (f 2), .int .u64 (f 3), .int .u64 (f 4)] 110) := ⟨_, rfl⟩
  have sW := f0.size
  have hsz0 : w.heap.size + 1 = W.heap.size := by rw [hW]; simp
  have hsz : Hid (w.heap.size + 1 = W.heap.size) := hsz0
  clear hsz0
  rw [← hW] at f0 sW ⊢
  clear hW
  have hT := hT.fr f0
  go_loopw [3, 8] (fun v i wr => ∃ k : Nat, k ≤ 5 ∧ i = .int .i64 k ∧ OwnS wr W.heap.size v (upTo f k) ∧ Fr W wr) (fun _ i _ => 5 - (intOf i).toNat)
  case atStart => exact ⟨0, by omega, rfl, by rw [hsz.out]; exact own_empty W _ (Nat.le_refl _), Fr.alloc W _⟩
  case round =>
    obtain ⟨k, hk, rfl, ho, hF⟩ := hrel
    by_cases hlt : k < 5
    · have i0 := fun u => ixk f k hlt u
      have hkb : decide ((k : Int) < 5) = true := by simp; omega
      have hfk := hf k
      have HU : Hid (upTo f (k + 1) = upTo f k ++ (bitsL 64 (f k)).map fun i : Nat => (k : Int) * 64 + i) := rfl
      have hul := upTo_len f (k + 1)
      go_wp2_with fail
      go_loopw [3, 5] (fun v x wq => ∃ (n : Nat) (ys : List Int), x = .int .u64 n ∧ n < 18446744073709551616 ∧ OwnS wq W.heap.size v ys ∧ upTo f (k + 1) = ys ++ (bitsL 64 n).map (fun i : Nat => (k : Int) * 64 + i) ∧ Fr W wq) (fun _ x _ => (intOf x).toNat)
      case atStart => exact ⟨f k, upTo f k, rfl, hfk, ho, HU.out, hF⟩
      case round =>
        obtain ⟨n, ys, rfl, hn, ho2, hys, hF2⟩ := hrel
        by_cases h0 : n = 0
        · subst h0
          have hz : (((0 : Nat) : Int) != 0) = false := rfl
          have hys2 : upTo f (k + 1) = ys := by simpa [bitsL_zero] using hys
          clear hys i0
          go_wp2_with fail
          go_roundw
          case rel => exact ⟨k + 1, by omega, by go_num, by rw [hys2]; exact ho2, hF2⟩
          case measure => simp [intOf]; omega
        · obtain ⟨b1, b2, b3⟩ := bits_low n h0 hn
          have hz : ((n : Int) != 0) = true := by simp; omega
          have hA : bits .and .u64 (n : Int) ((n : Int) - 1) = ((n &&& (n - 1) : Nat) : Int) := by
            have q := and_nat n (n - 1) hn (by omega)
            rwa [show ((n - 1 : Nat) : Int) = (n : Int) - 1 by omega] at q
          have cZ := fun u (fu : Fr W u) => tz_any n hn h0 u (hT.fr fu)
          obtain ⟨t, ht⟩ : ∃ t, t = Lib.ctz 64 n := ⟨_, rfl⟩
          simp only [← ht] at cZ b1 b2
          obtain ⟨n2, hn2⟩ : ∃ t, t = n &&& (n - 1) := ⟨_, rfl⟩
          rw [← hn2] at b1 b3 hA
          have HN : Hid (upTo f (k + 1) = (ys ++ [(k : Int) * 64 + t]) ++ (bitsL 64 n2).map (fun i : Nat => (k : Int) * 64 + i)) := by
            rw [hys, b1]
            simp
            exact trivial
          have hyl : ys.length ≤ 320 := by
            have := congrArg List.length hys
            rw [List.length_append] at this
            omega
          have hm := fun u => reads_one u ((k : Int) * 64 + t) ⟨by omega, by omega⟩
          have h1n : (1 : Int) ≤ n := by omega
          have sF := hF2.size
          clear hys b1 ht hn2 i0 h0
          go_wp2_with fail
          refine (cZ _ hF2).mono ?_
          rintro e u1 ⟨rfl, rfl⟩
          clear cZ
          go_wp2_with (at_builtin; refine appI _ rfl _ _ rfl W.heap.size _ _ [(k : Int) * 64 + t] rfl (ho2.fr (Fr.alloc _ _)) _ _ _ rfl rfl (by simp) (hm _) (by simp; omega) (by simp; omega) ?_; intro v1 w4 hv1 hg1)
          go_roundw
          case rel => exact ⟨n2, _, rfl, by omega, hv1, HN.out, (hF2.trans (Fr.alloc _ _)).then hg1 ho2.blk⟩
          case measure => simp [intOf]; omega
    · have e : k = 5 := by omega
      subst e
      go_wp2_with fail
      go_ret
      exact ⟨_, rfl, ho.lower sW, f0.trans hF⟩
theorem rising_any (N : Nat) (w : World) (hT : Tab w) :
    Calls Tryz.prog 86 #[.agg #[.int .u64 (wd (N) 0), .int .u64 (wd (N) 1), .int .u64 (wd (N) 2), .int .u64 (wd (N) 3), .int .u64 (wd (N) 4)]] w fun e w' => ∃ v, e = .returned v ∧ OwnS w' w.heap.size v (rsL N) ∧ Fr w w' := by
  rw [← rsL_upTo]
  exact rising_core (wd N) (wd_lt N) w hT

theorem row5 {u : World} {b : Nat} {T : TypeId} {c0 c1 c2 c3 c4 : Value} (h : u.heap[b]? = some (.cells #[c0, c1, c2, c3, c4] T (0, 0))) (v0 v1 v2 v3 v4 : Value) :
    (((((u.setCell ⟨b, 0, none⟩ v0).setCell ⟨b, 1, none⟩ v1).setCell ⟨b, 2, none⟩ v2).setCell ⟨b, 3, none⟩ v3).setCell ⟨b, 4, none⟩ v4).heap[b]? = some (.cells #[v0, v1, v2, v3, v4] T (0, 0)) := by
  have e0 := heap_setCell_same u b 0 _ _ v0 h
  have e1 := heap_setCell_same _ b 1 _ _ v1 e0
  have e2 := heap_setCell_same _ b 2 _ _ v2 e1
  have e3 := heap_setCell_same _ b 3 _ _ v3 e2
  exact heap_setCell_same _ b 4 _ _ v4 e3
set_option maxHeartbeats 1000000 in
theorem only_any (i : Nat) (hi : i < 320) (w : World) :
    Calls Tryz.prog 207 #[.int .i64 i] w fun e w' => e = .returned (.agg #[.int .u64 (wd (2 ^ i) 0), .int .u64 (wd (2 ^ i) 1), .int .u64 (wd (2 ^ i) 2), .int .u64 (wd (2 ^ i) 3), .int .u64 (wd (2 ^ i) 4)]) ∧ Fr w w' := by
  have f1 := Fr.alloc w (.cells #[.int .u64 0, .int .u64 0, .int .u64 0, .int .u64 0, .int .u64 0] 110)
  have f2 := Fr.alloc (w.alloc (.cells #[.int .u64 0, .int .u64 0, .int .u64 0, .int .u64 0, .int .u64 0] 110)) (.cells #[.int .u64 0, .int .u64 0, .int .u64 0, .int .u64 0, .int .u64 0] 110)
  have r2 : RowAt ((w.alloc (.cells #[.int .u64 0, .int .u64 0, .int .u64 0, .int .u64 0, .int .u64 0] 110)).alloc (.cells #[.int .u64 0, .int .u64 0, .int .u64 0, .int .u64 0, .int .u64 0] 110)) (w.heap.size + 1) 110 := by
    have := heap_alloc_new (w.alloc (.cells #[.int .u64 0, .int .u64 0, .int .u64 0, .int .u64 0, .int .u64 0] 110)) (.cells #[.int .u64 0, .int .u64 0, .int .u64 0, .int .u64 0, .int .u64 0] 110)
    rw [World.size_alloc] at this
    exact ⟨_, this⟩
  have p2 : PsC ((w.alloc (.cells #[.int .u64 0, .int .u64 0, .int .u64 0, .int .u64 0, .int .u64 0] 110)).alloc (.cells #[.int .u64 0, .int .u64 0, .int .u64 0, .int .u64 0, .int .u64 0] 110)) (w.heap.size + 1) 0 0 := by
    have := heap_alloc_new (w.alloc (.cells #[.int .u64 0, .int .u64 0, .int .u64 0, .int .u64 0, .int .u64 0] 110)) (.cells #[.int .u64 0, .int .u64 0, .int .u64 0, .int .u64 0, .int .u64 0] 110)
    rw [World.size_alloc] at this
    intro k hk
    rw [cell_of_row _ _ _ _ _ _ this, wd_zero]
    rcases k with _ | _ | _ | _ | _ | k <;> first | rfl | omega
  have r1 : RowAt ((w.alloc (.cells #[.int .u64 0, .int .u64 0, .int .u64 0, .int .u64 0, .int .u64 0] 110)).alloc (.cells #[.int .u64 0, .int .u64 0, .int .u64 0, .int .u64 0, .int .u64 0] 110)) w.heap.size 110 := RowAt.fr ⟨_, heap_alloc_new w _⟩ f2
  have c1 : ∀ k, k < 5 → ((w.alloc (.cells #[.int .u64 0, .int .u64 0, .int .u64 0, .int .u64 0, .int .u64 0] 110)).alloc (.cells #[.int .u64 0, .int .u64 0, .int .u64 0, .int .u64 0, .int .u64 0] 110)).cell? ⟨w.heap.size, k, none⟩ = some (.int .u64 0) := by
    intro k hk
    refine f2.cell ?_
    rw [cell_of_row _ _ _ _ _ _ (heap_alloc_new w _)]
    rcases k with _ | _ | _ | _ | _ | k <;> first | rfl | omega
  have cA := add_any (w.heap.size + 1) 0 0 i 110 _ hi p2 r2
  go_enter Tryz.func207, Tryz.ntmps207
  go_wp2_with fail
  refine cA.mono ?_
  rintro x u1 ⟨rfl, p3, w3⟩
  rw [Nat.zero_or] at p3
  have F3 : Fr w u1 := (f1.trans f2).then w3.by_ (fun j hj => by cases hj; omega)
  have z1 := fun k hk => w3.by_.cell (c1 k hk) (by simp)
  obtain ⟨q0, q1, q2, q3, q4⟩ := And.intro (p3 0 (by omega)) (And.intro (p3 1 (by omega)) (And.intro (p3 2 (by omega)) (And.intro (p3 3 (by omega)) (p3 4 (by omega)))))
  obtain ⟨y0, y1, y2, y3, y4⟩ := And.intro (z1 0 (by omega)) (And.intro (z1 1 (by omega)) (And.intro (z1 2 (by omega)) (And.intro (z1 3 (by omega)) (z1 4 (by omega)))))
  simp only [Nat.zero_add] at q0 q1 q2 q3 q4
  have r5 : u1.heap[w.heap.size]? = some (.cells #[.int .u64 0, .int .u64 0, .int .u64 0, .int .u64 0, .int .u64 0] 110 (0, 0)) := by
    have hc := heap_alloc_new w (.cells #[.int .u64 0, .int .u64 0, .int .u64 0, .int .u64 0, .int .u64 0] 110)
    have hl := (Array.getElem?_eq_some_iff.1 hc).1
    have hc2 := (f2.block _ hl (by simp)).trans hc
    exact (w3.by_.block _ (Array.getElem?_eq_some_iff.1 hc2).1 (by simp)).trans hc2
  have rr : RowAt u1 w.heap.size 110 := ⟨_, r5⟩
  have v0 := rr.free 0
  have v1 := rr.free 1
  have v2 := rr.free 2
  have v3 := rr.free 3
  have v4 := rr.free 4
  obtain ⟨x0, hx0⟩ : ∃ x, x = wd (2 ^ i) 0 := ⟨_, rfl⟩
  obtain ⟨x1, hx1⟩ : ∃ x, x = wd (2 ^ i) 1 := ⟨_, rfl⟩
  obtain ⟨x2, hx2⟩ : ∃ x, x = wd (2 ^ i) 2 := ⟨_, rfl⟩
  obtain ⟨x3, hx3⟩ : ∃ x, x = wd (2 ^ i) 3 := ⟨_, rfl⟩
  obtain ⟨x4, hx4⟩ : ∃ x, x = wd (2 ^ i) 4 := ⟨_, rfl⟩
  simp only [← hx0, ← hx1, ← hx2, ← hx3, ← hx4] at q0 q1 q2 q3 q4 ⊢
  have R := row5 r5 (.int .u64 x0) (.int .u64 x1) (.int .u64 x2) (.int .u64 x3) (.int .u64 x4)
  have F4 := F3.then (put5 u1 w.heap.size (.int .u64 x0) (.int .u64 x1) (.int .u64 x2) (.int .u64 x3) (.int .u64 x4)) (fun j hj => by cases hj; omega)
  have HV : Hid (psV (2 ^ i) = .agg #[.int .u64 x0, .int .u64 x1, .int .u64 x2, .int .u64 x3, .int .u64 x4]) := by rw [hx0, hx1, hx2, hx3, hx4]; exact rfl
  have RH : Hid _ := R
  have FH : Hid _ := F4
  clear p3 w3 z1 rr r1 c1 cA p2 r2 f1 f2 r5 R F4 hx0 hx1 hx2 hx3 hx4
  go_wp2_with fail
  have R := RH.out
  have d0 := cell_of_row _ _ 0 _ _ _ R
  have d1 := cell_of_row _ _ 1 _ _ _ R
  have d2 := cell_of_row _ _ 2 _ _ _ R
  have d3 := cell_of_row _ _ 3 _ _ _ R
  have d4 := cell_of_row _ _ 4 _ _ _ R
  refine bodyPost_ret (v := .agg #[.int .u64 x0, .int .u64 x1, .int .u64 x2, .int .u64 x3, .int .u64 x4]) (by simp [results, Tryz.results207, go_sem, d0, d1, d2, d3, d4]) rfl ⟨congrArg Ending.returned HV.out.symm, FH.out⟩
end Go.Proofs.YtcofhmikdkkigaaGreatDoor
namespace Go.Proofs.YtcofhmikdkkigaaGreatDoor
open Go.RowKit

set_option maxHeartbeats 1000000 in
theorem thing_any (c : Tch) (w : World) :
    Calls Tryz.prog 206 #[.agg #[.int .i64 c.sp, .int .i64 c.ob, .int .i64 c.sl, .bool c.tk, .bool c.gv]] w fun e w' => e = .returned (.agg #[.int .i64 c.sp, .int .i64 c.ob, .int .i64 c.sl, .bool false, .bool false]) ∧ Fr w w' := by
  obtain ⟨sp, ob, sl, tk, gv⟩ := c
  simp only
  obtain ⟨U, hU⟩ : ∃ U, U = (w.alloc (.cells #[.int .i64 sp, .int .i64 ob, .int .i64 sl, .bool tk, .bool gv] 226)).alloc (.cells #[.int .i64 sp, .int .i64 ob, .int .i64 sl, .bool false, .bool false] 226) := ⟨_, rfl⟩
  have F : Fr w U := by rw [hU]; exact (Fr.alloc w _).trans (Fr.alloc _ _)
  have R : U.heap[w.heap.size + 1]? = some (.cells #[.int .i64 sp, .int .i64 ob, .int .i64 sl, .bool false, .bool false] 226 (0, 0)) := by
    have := heap_alloc_new (w.alloc (.cells #[.int .i64 sp, .int .i64 ob, .int .i64 sl, .bool tk, .bool gv] 226)) (.cells #[.int .i64 sp, .int .i64 ob, .int .i64 sl, .bool false, .bool false] 226)
    rw [World.size_alloc] at this
    rw [hU]
    exact this
  have d0 := cell_of_row _ _ 0 _ _ _ R
  have d1 := cell_of_row _ _ 1 _ _ _ R
  have d2 := cell_of_row _ _ 2 _ _ _ R
  have d3 := cell_of_row _ _ 3 _ _ _ R
  have d4 := cell_of_row _ _ 4 _ _ _ R
  clear R
  go_enter Tryz.func206, Tryz.ntmps206
  go_wp2_with fail
  rw [← hU]
  clear hU
  refine bodyPost_ret (v := .agg #[.int .i64 sp, .int .i64 ob, .int .i64 sl, .bool false, .bool false]) (by simp [results, Tryz.results206, go_sem, d0, d1, d2, d3, d4]) rfl ⟨rfl, F⟩

structure PastW (lo : Nat × Nat) (w : World) (p gm b b1 b2 b3 b4 nb nm : Nat) (m : Scn) (st la : Nat → Nat) (G : Int → Int → Int → Nat) : Prop where
  bd : BoardW lo w b b1 b2 b3 b4 nb m
  pt : w.cell? ⟨p, 0, none⟩ = some (.pointer (some ⟨b, 0, none⟩))
  mp : w.cell? ⟨p, 161, none⟩ = some (.map (some gm))
  st : ∀ g, g < 16 → PsC w p (1 + g * 5) (st g)
  la : ∀ g, g < 16 → PsC w p (81 + g * 5) (la g)
  row : RowAt w p 220
  mt : MapT w gm nm G
  ne : b < gm ∧ gm < p ∧ p < lo.2 ∧ lo.1 = 0
theorem PastW.fr {lo : Nat × Nat} {w w' : World} {p gm b b1 b2 b3 b4 nb nm : Nat} {m : Scn} {st la : Nat → Nat} {G : Int → Int → Int → Nat} (h : PastW lo w p gm b b1 b2 b3 b4 nb nm m st la G) (k : Fr w w') : PastW lo w' p gm b b1 b2 b3 b4 nb nm m st la G :=
  ⟨h.bd.fr k, k.cell h.pt, k.cell h.mp, fun g hg => (h.st g hg).fr k, fun g hg => (h.la g hg).fr k, h.row.fr k, h.mt.fr k, h.ne⟩

def goE (st la : Nat → Nat) (gs : List Int) : Nat := gs.foldl (fun N g => N ||| st g.toNat ||| la g.toNat) 0
def thE (G : Int → Int → Int → Nat) (N : Nat) (ts : List Tch) : Nat := ts.foldl (fun N t => if t.tk = true then N ||| G t.sp t.ob t.sl else N) N
theorem goE_one (st la : Nat → Nat) (gs : List Int) (g : Int) : goE st la (gs ++ [g]) = goE st la gs ||| st g.toNat ||| la g.toNat := by simp [goE]
theorem thE_one (G : Int → Int → Int → Nat) (N : Nat) (ts : List Tch) (t : Tch) : thE G N (ts ++ [t]) = if t.tk = true then thE G N ts ||| G t.sp t.ob t.sl else thE G N ts := by simp [thE]
theorem gors_in {e : Ev} (h : evOk e = true) {g : Int} (hg : g ∈ gorsL e) : 0 ≤ g ∧ g ≤ 15 := by
  have := evOk_gw h
  unfold gorsL at hg
  rw [if_pos h] at hg
  split at hg
  · simp only [List.mem_singleton] at hg
    subst hg
    exact this.1
  · rename_i q
    have h9 : e.k = 9 := by
      by_cases h9 : e.k = 9
      · exact h9
      · exact absurd (Or.inl h9) q
    have h2 := this.2 h9
    simp only [List.mem_cons, List.not_mem_nil, or_false] at hg
    rcases hg with rfl | rfl <;> omega
def T64 (t : Tch) : Prop := I64 t.sp ∧ I64 t.ob ∧ I64 t.sl

set_option maxRecDepth 20000 in
set_option maxHeartbeats 4000000 in
theorem edgesInto_any {lo : Nat × Nat} {p gm b b1 b2 b3 b4 nb nm : Nat} {m : Scn} {st la : Nat → Nat} {G : Int → Int → Int → Nat} (e : Ev) (ao : Option Addr) (n c : Nat) (ts : List Tch) (w : World) (h : PastW lo w p gm b b1 b2 b3 b4 nb nm m st la G) (he : evOk e = true)
    (hn : ts.length = n) (hr : ReadsG layT w ao ts) (ht : ∀ t ∈ ts, T64 t) (hs : Shapes w) :
    Calls Tryz.prog 195 #[.pointer (some ⟨p, 0, none⟩), .agg #[.int .i64 e.k, .int .i64 e.g, .int .i64 e.o, .int .i64 e.w, .int .i64 e.l, .int .i64 e.s, .int .i64 e.f, .int .i64 e.t], .slice ao n c] w fun x w' => x = .returned (.agg #[.int .u64 (wd (thE G (goE st la (gorsL e)) ts) 0), .int .u64 (wd (thE G (goE st la (gorsL e)) ts) 1), .int .u64 (wd (thE G (goE st la (gorsL e)) ts) 2), .int .u64 (wd (thE G (goE st la (gorsL e)) ts) 3), .int .u64 (wd (thE G (goE st la (gorsL e)) ts) 4)]) ∧ Fr w w' := by
  subst hn
  have cG := fun u (f : Fr w u) => implGors_any e u (hs.fr f)
  have hgi : ∀ g ∈ gorsL e, 0 ≤ g ∧ g ≤ 15 := fun g hg => gors_in he hg
  have hgl := gors_len e
  obtain ⟨gs, hgs⟩ : ∃ gs, gs = gorsL e := ⟨_, rfl⟩
  simp only [← hgs] at cG hgi hgl ⊢
  clear hgs he hs
  obtain ⟨k, gr, o, wi, l, sz, f, t⟩ := e
  simp only at cG ⊢
  obtain ⟨W, hW⟩ : ∃ W, W = (((w.alloc (.cells #[.int .i64 k, .int .i64 gr, .int .i64 o, .int .i64 wi, .int .i64 l, .int .i64 sz, .int .i64 f, .int .i64 t] 31)).alloc (.cells #[.int .u64 0, .int .u64 0, .int .u64 0, .int .u64 0, .int .u64 0] 110)).alloc (.cells #[.int .u64 0, .int .u64 0, .int .u64 0, .int .u64 0, .int .u64 0] 110)) := ⟨_, rfl⟩
  have f0 : Fr w W := by rw [hW]; exact ((Fr.alloc w _).trans (Fr.alloc _ _)).trans (Fr.alloc _ _)
  have rA : W.heap[w.heap.size + 1]? = some (.cells #[.int .u64 0, .int .u64 0, .int .u64 0, .int .u64 0, .int .u64 0] 110 (0, 0)) := by
    have := heap_alloc_new (w.alloc (.cells #[.int .i64 k, .int .i64 gr, .int .i64 o, .int .i64 wi, .int .i64 l, .int .i64 sz, .int .i64 f, .int .i64 t] 31)) (.cells #[.int .u64 0, .int .u64 0, .int .u64 0, .int .u64 0, .int .u64 0] 110)
    rw [World.size_alloc] at this
    rw [hW]
    exact ((Fr.alloc _ _).block _ (Array.getElem?_eq_some_iff.1 this).1 (by simp)).trans this
  have rB : W.heap[w.heap.size + 1 + 1]? = some (.cells #[.int .u64 0, .int .u64 0, .int .u64 0, .int .u64 0, .int .u64 0] 110 (0, 0)) := by
    have := heap_alloc_new ((w.alloc (.cells #[.int .i64 k, .int .i64 gr, .int .i64 o, .int .i64 wi, .int .i64 l, .int .i64 sz, .int .i64 f, .int .i64 t] 31)).alloc (.cells #[.int .u64 0, .int .u64 0, .int .u64 0, .int .u64 0, .int .u64 0] 110)) (.cells #[.int .u64 0, .int .u64 0, .int .u64 0, .int .u64 0, .int .u64 0] 110)
    rw [World.size_alloc, World.size_alloc] at this
    rw [hW]
    exact this
  go_enter Tryz.func195, Tryz.ntmps195
  go_wp2_with fail
  rw [← hW]
  clear hW
  have p0 : PsC W (w.heap.size + 1 + 1) 0 0 := by
    intro k hk
    rw [cell_of_row _ _ _ _ _ _ rB, wd_zero]
    rcases k with _ | _ | _ | _ | _ | k <;> first | rfl | omega
  have rI : RowAt W (w.heap.size + 1 + 1) 110 := ⟨_, rB⟩
  clear rB
  obtain ⟨A, hA⟩ : ∃ A, A = w.heap.size + 1 := ⟨_, rfl⟩
  rw [← hA] at rA p0 rI ⊢
  have HA : Hid (A = w.heap.size + 1) := hA
  clear hA
  refine (cG _ f0).mono ?_
  rintro x u1 ⟨gb, rfl, og, fg⟩
  clear cG
  have h1 := h.fr (f0.trans fg)
  have rA := (fg.block A (Array.getElem?_eq_some_iff.1 rA).1 (by simp)).trans rA
  have p1 := p0.fr fg
  have r1 := rI.fr fg
  have hr1 := hr.fr (f0.trans fg)
  have F1 := f0.trans fg
  have gR := og.reads
  have glt : A + 1 < gb ∧ gb < u1.heap.size := by
    have := own_lt og
    have := HA.out
    have := rI.lt
    omega
  have HG : Hid (A + 1 < gb) := glt.1
  have HB : Hid (w.heap.size ≤ A + 1) := by have := HA.out; exact (by omega : w.heap.size ≤ A + 1)
  have HW : Hid (PastW lo w p gm b b1 b2 b3 b4 nb nm m st la G) := h
  clear glt h rI p0 fg f0 og h1 hr1
  go_wp2_with fail
  go_loopw [16] (fun i wr => ∃ k : Nat, k ≤ gs.length ∧ i = .int .i64 k ∧ PsC wr (A + 1) 0 (goE st la (gs.take k)) ∧ RowAt wr (A + 1) 110 ∧ u1.grownBy wr (some (A + 1)) ∧ Fr w wr) (fun i _ => gs.length - (intOf i).toNat)
  case atStart => exact ⟨0, Nat.zero_le _, rfl, by simpa [goE] using p1, r1, (Fr.refl u1).wide, F1⟩
  case round =>
    obtain ⟨q, hq, rfl, hP, hR, hg, hF⟩ := hrel
    by_cases hlt : q < gs.length
    · obtain ⟨bb, off, e0, hc⟩ := (gR.keep hg (.inr (by simp only [blk, Option.map_some, ne_eq, Option.some.injEq]; have := HG.out; omega))).at_ q hlt
      simp only [Option.some.injEq, Addr.mk.injEq, and_true] at e0
      obtain ⟨rfl, rfl⟩ := e0
      have hck := hc q hlt
      rw [getD_at hlt] at hck
      have hgb := hgi _ (List.getElem_mem hlt)
      have HT : Hid (goE st la (gs.take (q + 1)) = goE st la (gs.take q) ||| st gs[q].toNat ||| la gs[q].toNat) := by
        rw [List.take_succ_eq_append_getElem hlt, goE_one]
        exact rfl
      obtain ⟨d, hd⟩ : ∃ d : Nat, gs[q] = d := ⟨gs[q].toNat, by omega⟩
      rw [hd] at hck hgb HT
      simp only [Int.toNat_natCast] at HT
      have hd16 : d < 16 := by omega
      have h1 := HW.out.fr hF
      have a0 := (h1.st d hd16) 0 (by omega); have a1 := (h1.st d hd16) 1 (by omega); have a2 := (h1.st d hd16) 2 (by omega); have a3 := (h1.st d hd16) 3 (by omega); have a4 := (h1.st d hd16) 4 (by omega)
      simp only [Nat.add_zero, Nat.zero_add] at a0 hck
      have hqi : (q : Int) < gs.length := by omega
      have cA := fun u (x : PsC u (A + 1) 0 (goE st la (gs.take q))) y => addAll_any (A + 1) 0 (goE st la (gs.take q)) (st d) 110 u x y
      have cB := fun u x y => addAll_any (A + 1) 0 (goE st la (gs.take q) ||| st d) (la d) 110 u x y
      have HL : Hid (∀ u, Fr w u → PsC u p (81 + d * 5) (la d)) := fun u fu => (HW.out.fr fu).la d hd16
      clear hc h1 hd hgb
      obtain ⟨N, hN⟩ : ∃ N, N = goE st la (gs.take q) := ⟨_, rfl⟩
      simp only [← hN] at cA cB hP HT
      clear hN
      go_wp2_with fail
      refine (cA _ hP hR).mono ?_
      rintro x u2 ⟨rfl, hP2, W2⟩
      have hF2 := hF.then W2.by_ (fun j hj => by cases hj; exact HB.out)
      have hg2 := grown_trans hg W2.by_
      have hR2 := W2.row
      have m1 := HL.out _ hF2
      have y0 := m1 0 (by omega); have y1 := m1 1 (by omega); have y2 := m1 2 (by omega); have y3 := m1 3 (by omega); have y4 := m1 4 (by omega)
      simp only [Nat.add_zero] at y0
      clear a0 a1 a2 a3 a4 m1 W2 cA hck
      go_wp2_with fail
      refine (cB _ hP2 hR2).mono ?_
      rintro x u3 ⟨rfl, hP3, W3⟩
      have hF3 := hF2.then W3.by_ (fun j hj => by cases hj; exact HB.out)
      have hg3 := grown_trans hg2 W3.by_
      have hR3 := W3.row
      clear y0 y1 y2 y3 y4 W3 cB
      go_wp2_with fail
      go_roundw
      case rel => exact ⟨q + 1, by omega, by go_num, by rw [HT.out]; exact hP3, hR3, hg3, hF3⟩
      case measure => simp [intOf]; omega
    · have e : q = gs.length := by omega
      subst e
      rw [List.take_length] at hP
      obtain ⟨N, hN⟩ : ∃ N, N = goE st la gs := ⟨_, rfl⟩
      rw [← hN] at hP
      have HN : Hid (N = goE st la gs) := hN
      have rA2 := (hg.block A (Array.getElem?_eq_some_iff.1 rA).1 (by simp)).trans rA
      clear hN gR hgi hgl p1 r1 F1 rA HG
      go_wp2_with fail
      go_loopw [37] (fun i wq => ∃ k : Nat, k ≤ ts.length ∧ i = .int .i64 k ∧ PsC wq (A + 1) 0 (thE G N (ts.take k)) ∧ RowAt wq (A + 1) 110 ∧ wr.grownBy wq (some (A + 1)) ∧ Fr w wq) (fun i _ => ts.length - (intOf i).toNat)
      case atStart => exact ⟨0, Nat.zero_le _, rfl, by simpa [thE] using hP, hR, (Fr.refl wr).wide, hF⟩
      case round =>
        obtain ⟨q, hq, rfl, hP2, hR2, hg2, hF2⟩ := hrel
        by_cases hlt : q < ts.length
        · obtain ⟨bb, off, rfl, x0, x1, x2, x3, x4⟩ := tc_at (hr.fr hF2) q hlt
          have hti := ht _ (List.getElem_mem hlt)
          have HT : Hid (thE G N (ts.take (q + 1)) = if ts[q].tk = true then thE G N (ts.take q) ||| G ts[q].sp ts[q].ob ts[q].sl else thE G N (ts.take q)) := by
            rw [List.take_succ_eq_append_getElem hlt, thE_one]
            exact rfl
          obtain ⟨T, hT⟩ : ∃ T, T = ts[q] := ⟨_, rfl⟩
          rw [← hT] at x0 x1 x2 x3 x4 hti HT
          clear hT
          obtain ⟨sp, ob, sl, tk, gv⟩ := T
          obtain ⟨M, hM⟩ : ∃ M, M = thE G N (ts.take q) := ⟨_, rfl⟩
          simp only [← hM] at x0 x1 x2 x3 x4 hP2 HT
          clear hM
          have hqi : (q : Int) < ts.length := by omega
          have htl := hr.len
          have f5 := Fr.alloc wr (.cells #[.int .i64 sp, .int .i64 ob, .int .i64 sl, .bool tk, .bool gv] 226)
          have k5 := heap_alloc_new wr (.cells #[.int .i64 sp, .int .i64 ob, .int .i64 sl, .bool tk, .bool gv] 226)
          cases tk
          · have HT2 : Hid (thE G N (ts.take (q + 1)) = M) := by rw [HT.out]; exact if_neg (by simp)
            clear HT k5
            go_wp2_with fail
            go_roundw
            case rel => exact ⟨q + 1, by omega, by go_num, by rw [HT2.out]; exact hP2.fr f5, hR2.fr f5, grown_trans hg2 f5.wide, hF2.trans f5⟩
            case measure => simp [intOf]; omega
          · have HT2 : Hid (thE G N (ts.take (q + 1)) = M ||| G sp ob sl) := by rw [HT.out]; exact if_pos rfl
            have HM : Hid (∀ u, Fr w u → (Instr.lookup 218 (.map (some gm)) (.agg #[.int .i64 sp, .int .i64 ob, .int .i64 sl, .bool false, .bool false]) false).run Tryz.prog u = .ok (.agg #[.int .u64 (wd (G sp ob sl) 0), .int .u64 (wd (G sp ob sl) 1), .int .u64 (wd (G sp ob sl) 2), .int .u64 (wd (G sp ob sl) 3), .int .u64 (wd (G sp ob sl) 4)]) u ∧ u.cell? ⟨p, 161, none⟩ = some (.map (some gm))) := fun u fu => ⟨((HW.out.fr fu).mt).look hti.1 hti.2.1 hti.2.2, (HW.out.fr fu).mp⟩
            have cT := fun u => thing_any ⟨sp, ob, sl, true, gv⟩ u
            have cA := fun u x y => addAll_any (A + 1) 0 M (G sp ob sl) 110 u x y
            simp only at cT
            clear HT hti ht hr
            go_wp2_with fail
            obtain ⟨V, hV⟩ : ∃ V, V = wr.alloc (.cells #[.int .i64 sp, .int .i64 ob, .int .i64 sl, .bool true, .bool gv] 226) := ⟨_, rfl⟩
            rw [← hV] at f5 k5 ⊢
            obtain ⟨TB, hTB⟩ : ∃ TB, TB = wr.heap.size := ⟨_, rfl⟩
            rw [← hTB] at k5 ⊢
            have HTB : Hid (TB = wr.heap.size) := hTB
            clear hV hTB x0 x1 x2 x3 x4
            have FV := hF2.trans f5
            have KT : Hid (∀ u, Fr V u → u.cell? ⟨TB, 0, none⟩ = some (.int .i64 sp) ∧ u.cell? ⟨TB, 1, none⟩ = some (.int .i64 ob) ∧ u.cell? ⟨TB, 2, none⟩ = some (.int .i64 sl) ∧ u.cell? ⟨TB, 3, none⟩ = some (.bool true) ∧ u.cell? ⟨TB, 4, none⟩ = some (.bool gv)) := fun u fu => ⟨fu.cell (cell_of_row _ _ 0 _ _ _ k5), fu.cell (cell_of_row _ _ 1 _ _ _ k5), fu.cell (cell_of_row _ _ 2 _ _ _ k5), fu.cell (cell_of_row _ _ 3 _ _ _ k5), fu.cell (cell_of_row _ _ 4 _ _ _ k5)⟩
            have mp := (HM.out V FV).2
            obtain ⟨t0, t1, t2, t3, t4⟩ := KT.out V (Fr.refl V)
            have PV := hP2.fr f5
            have RV := hR2.fr f5
            have GV := grown_trans hg2 f5.wide
            have hnp : ¬ (some p = some (A + 1)) := by
              have := HW.out.row.lt
              have := HB.out
              simp only [Option.some.injEq]
              omega
            have hnt : ¬ (some TB = some (A + 1)) := by
              have := hR2.lt
              have := HTB.out
              simp only [Option.some.injEq]
              omega
            clear hP2 hR2 hg2 f5
            go_region_held3 (fun u => u.cell? ⟨p, 161, none⟩ = some (.map (some gm)) ∧ u.cell? ⟨TB, 0, none⟩ = some (.int .i64 sp) ∧ u.cell? ⟨TB, 1, none⟩ = some (.int .i64 ob) ∧ u.cell? ⟨TB, 2, none⟩ = some (.int .i64 sl) ∧ u.cell? ⟨TB, 3, none⟩ = some (.bool true) ∧ u.cell? ⟨TB, 4, none⟩ = some (.bool gv)) (go_keep)
              (first | (go_at_call 206; refine (cT _).mono ?_; rintro x u5 ⟨rfl, f6⟩; have g6 := (Fr.drew V).trans f6; obtain ⟨lk, z9⟩ := HM.out u5 (FV.trans g6); obtain ⟨z0, z1, z2, z3, z4⟩ := KT.out u5 g6) | (go_at_call 172; refine (cA _ (PV.fr g6) (RV.fr g6)).mono ?_; rintro x u6 ⟨rfl, P6, W6⟩; have y9 := W6.by_.cell z9 hnp; have y0 := W6.by_.cell z0 hnt; have y1 := W6.by_.cell z1 hnt; have y2 := W6.by_.cell z2 hnt; have y3 := W6.by_.cell z3 hnt; have y4 := W6.by_.cell z4 hnt))
            all_goals
              have F6 := (FV.trans g6).then W6.by_ (fun j hj => by cases hj; exact HB.out)
              have G6 := grown_trans (grown_trans GV g6.wide) W6.by_
              have R6 := W6.row
              clear mp t0 t1 t2 t3 t4 z0 z1 z2 z3 z4 z9 y0 y1 y2 y3 y4 y9 lk W6 cA cT KT HM
              go_wp2_with fail
              go_roundw
              case rel => exact ⟨q + 1, by omega, by go_num, by rw [HT2.out]; exact P6, R6, G6, F6⟩
              case measure => simp [intOf]; omega
        · have e : q = ts.length := by omega
          subst e
          rw [List.take_length] at hP2
          have rA3 := (hg2.block A (Array.getElem?_eq_some_iff.1 rA2).1 (by simp)).trans rA2
          have HV : Hid (psV (thE G (goE st la gs) ts) = psV (thE G N ts)) := by rw [HN.out]; exact rfl
          have x0 := hP2 0 (by omega); have x1 := hP2 1 (by omega); have x2 := hP2 2 (by omega); have x3 := hP2 3 (by omega); have x4 := hP2 4 (by omega)
          simp only [Nat.zero_add] at x0 x1 x2 x3 x4
          obtain ⟨Z, hZ⟩ : ∃ Z, Z = thE G N ts := ⟨_, rfl⟩
          simp only [← hZ] at x0 x1 x2 x3 x4 HV
          clear hZ
          have rr : RowAt wr A 110 := ⟨_, rA3⟩
          have c0 := cell_of_row _ _ 0 _ _ _ rA3
          have c1 := cell_of_row _ _ 1 _ _ _ rA3
          have c2 := cell_of_row _ _ 2 _ _ _ rA3
          have c3 := cell_of_row _ _ 3 _ _ _ rA3
          have c4 := cell_of_row _ _ 4 _ _ _ rA3
          have v0 := rr.free 0
          have v1 := rr.free 1
          have v2 := rr.free 2
          have v3 := rr.free 3
          have v4 := rr.free 4
          have R := row5 rA3 (.int .u64 (wd Z 0)) (.int .u64 (wd Z 1)) (.int .u64 (wd Z 2)) (.int .u64 (wd Z 3)) (.int .u64 (wd Z 4))
          have F4 := hF2.then (put5 wr A (.int .u64 (wd Z 0)) (.int .u64 (wd Z 1)) (.int .u64 (wd Z 2)) (.int .u64 (wd Z 3)) (.int .u64 (wd Z 4))) (fun j hj => by cases hj; have := HA.out; omega)
          have RH : Hid _ := R
          have FH : Hid _ := F4
          obtain ⟨z0, hz0⟩ : ∃ x, x = wd Z 0 := ⟨_, rfl⟩
          obtain ⟨z1, hz1⟩ : ∃ x, x = wd Z 1 := ⟨_, rfl⟩
          obtain ⟨z2, hz2⟩ : ∃ x, x = wd Z 2 := ⟨_, rfl⟩
          obtain ⟨z3, hz3⟩ : ∃ x, x = wd Z 3 := ⟨_, rfl⟩
          obtain ⟨z4, hz4⟩ : ∃ x, x = wd Z 4 := ⟨_, rfl⟩
          unfold psV at HV
          simp only [← hz0, ← hz1, ← hz2, ← hz3, ← hz4] at x0 x1 x2 x3 x4 RH FH HV
          clear hz0 hz1 hz2 hz3 hz4 R F4 rr rA3 rA2 hP2 hP HN
          go_wp2_with fail
          have R := RH.out
          have d0 := cell_of_row _ _ 0 _ _ _ R
          have d1 := cell_of_row _ _ 1 _ _ _ R
          have d2 := cell_of_row _ _ 2 _ _ _ R
          have d3 := cell_of_row _ _ 3 _ _ _ R
          have d4 := cell_of_row _ _ 4 _ _ _ R
          refine bodyPost_ret (v := .agg #[.int .u64 z0, .int .u64 z1, .int .u64 z2, .int .u64 z3, .int .u64 z4]) (by simp [results, Tryz.results195, go_sem, d0, d1, d2, d3, d4]) rfl ⟨congrArg Ending.returned HV.out.symm, FH.out⟩
end Go.Proofs.YtcofhmikdkkigaaGreatDoor
