/-
  Pack AY: ScIter, ScPart, ScLen, ScLegP.
-/
import Derived.Test.YtplnijpolkflcaaGreatDoorPqAC
import Derived.Test.YtplnijpolkflcaaGreatDoorPqAX
import Derived.Shelf.Abstract
import Derived.Shelf.RegionOpen
import Derived.WalkKit
import Derived.OwnWalkIn
import Derived.TacticsInMore
import Derived.LoopNIn
import Derived.LoopIn
namespace Go.Proofs.YtplnijpolkflcaaGreatDoor
open Go.RowKit Go.Shelf
attribute [local go_sem] Oper.semAt_some

def PartAt (W : World) (pb : Nat) (z c : Int) (b : Nat) : Prop := W.heap[pb]? = some (.cells #[.int .i64 z, .int .i64 c, .pointer (some ⟨b, 0, none⟩)] 111 (0, 0))
theorem PartAt.lt {W : World} {pb b : Nat} {z c : Int} (h : PartAt W pb z c b) : pb < W.heap.size := (Array.getElem?_eq_some_iff.1 h).1
theorem PartAt.keepS {S : Nat → Prop} {W W' : World} {pb b : Nat} {z c : Int} (h : PartAt W pb z c b) (k : FrS S W W') (hs : ¬ S pb) : PartAt W' pb z c b := (k.block pb h.lt hs).trans h
def RoundOf (pb l b : Nat) (x : Int) (W W' : World) : Prop := ∀ z c, PartAt W pb z c b → PartAt W' pb (if x = 0 then z + 1 else z) x b ∧ FrS (fun k => k = pb ∨ k = l) W W'

theorem EvC.keepS {S : Nat → Prop} {w w' : World} {b o : Nat} {e : Ev} (h : EvC w b o e) (k : FrS S w w') (hs : ¬ S b) : EvC w' b o e :=
  ⟨k.cell h.c0 hs, k.cell h.c1 hs, k.cell h.c2 hs, k.cell h.c3 hs, k.cell h.c4 hs, k.cell h.c5 hs, k.cell h.c6 hs, k.cell h.c7 hs⟩
theorem Shapes.keepS {S : Nat → Prop} {w w' : World} (h : Shapes w) (k : FrS S w w') (hs : ¬ S 0) : Shapes w' := fun n hn => by
  obtain ⟨h1, h2, h3⟩ := h n hn
  exact ⟨k.cell h1 hs, k.cell h2 hs, k.cell h3 hs⟩

def Kept (b b1 b2 b3 b4 pb l k : Nat) : Prop := On b b1 b2 b3 b4 k ∨ k = pb ∨ k = l

set_option maxRecDepth 20000 in
set_option maxHeartbeats 4000000 in
theorem codes1_in (n : Nat) (hn : 1 ≤ n) (l pb qb xb b b1 b2 b3 b4 : Nat) (lo : Nat × Nat) (n0 : Nat) (ao : Option Addr) (c : Nat) (es : List Ev) (W : World) (Rec : World → Prop)
    (hRl : ∀ A B : World, Rec A → B.heap[l - 1]? = A.heap[l - 1]? → B.heap[l]? = A.heap[l]? → Rec B)
    (hR : Rec W) (hRt : ∀ A, Rec A → l < A.heap.size)
    (hY : ∀ (x : Int) (W : World), Rec W → (∃ z c, PartAt W pb z c b ∧ 0 ≤ z ∧ z ≤ 1000000) → YieldAt Fence.wide (n - 1) Tryz.prog l #[.int .i64 x] W fun e W' => e = .returned (.bool true) ∧ Rec W' ∧ RoundOf pb l b x W W')
    (hB : BoardW lo W b b1 b2 b3 b4 n0 scn0) (hn0 : n0 ≤ 2000000) (hs : Shapes W) (hP : PartAt W pb 0 0 b) (hE : ReadsE W ao es) (hl : es.length ≤ 300)
    (hx : W.cell? ⟨xb, 0, none⟩ = some (.slice ao es.length c)) (hq : W.cell? ⟨qb, 0, none⟩ = some (.pointer (some ⟨b, 0, none⟩)))
    (hlt : b < pb ∧ pb < l - 1 ∧ l < lo.2 ∧ b < xb ∧ b < qb ∧ xb < l - 1 ∧ qb < l - 1 ∧ xb ≠ pb ∧ qb ≠ pb) (hab : ∀ k, blk ao = some k → k < b1) (hsh : 0 < b1) :
    CallsIn Fence.wide n Tryz.prog 186 #[.func (.yield l) #[] #[], .pointer (some ⟨xb, 0, none⟩), .pointer (some ⟨qb, 0, none⟩)] W fun e W' => (∃ v, e = .returned v) ∧ Rec W' ∧ PartAt W' pb (legS scn0 es).2.1 (legS scn0 es).2.2 b ∧ BoardW lo W' b b1 b2 b3 b4 (n0 + 400) (legS scn0 es).1 ∧ FrS (Kept b b1 b2 b3 b4 pb l) W W' := by
  have hbl := hB.lt
  have hbg := hB.ge
  have HQ : Hid (∀ u, FrS (Kept b b1 b2 b3 b4 pb l) W u → u.cell? ⟨xb, 0, none⟩ = some (.slice ao es.length c) ∧ u.cell? ⟨qb, 0, none⟩ = some (.pointer (some ⟨b, 0, none⟩)) ∧ Shapes u ∧ ∀ k (hk : k < es.length), ∃ eb off, ao = some ⟨eb, off, none⟩ ∧ EvC u eb (off + k * 8) es[k]) := by
    intro u f
    refine ⟨f.cell hx (fun q => ?_), f.cell hq (fun q => ?_), hs.keepS f (fun q => ?_), fun k hk => ?_⟩
    · simp only [Kept, On] at q; omega
    · simp only [Kept, On] at q; omega
    · simp only [Kept, On] at q; omega
    · obtain ⟨eb, off, e, hc⟩ := hE.at_ k hk
      refine ⟨eb, off, e, (hc k hk).keepS f (fun q => ?_)⟩
      have := hab eb (by rw [e]; rfl)
      simp only [Kept, On] at q
      omega
  refine callsIn_of_wp Tryz.func186 rfl trivial ?_ rfl
  simp only [Tryz.ntmps186, List.size_toArray, List.length_cons, List.length_nil, Nat.reduceAdd, Nat.reduceSub, Array.replicate_succ, Array.replicate_zero, List.push_toArray, List.append_toArray, List.nil_append, List.cons_append]
  obtain ⟨a1, a2, a3, -⟩ := HQ.out W (FrS.refl _ _)
  clear hE hs hx hq
  gi_wp2
  gi_loopw [9] (fun i wr => ∃ (k : Nat) (m : Scn), k ≤ es.length ∧ i = .int .i64 k ∧ Hid (LegAt es k m ∧ scB m = true) ∧ BoardW lo wr b b1 b2 b3 b4 (n0 + k) m ∧ PartAt wr pb k 0 b ∧ Rec wr ∧ FrS (Kept b b1 b2 b3 b4 pb l) W wr) (fun i _ => es.length - (intOf i).toNat)
  case atStart => exact ⟨0, scn0, Nat.zero_le _, rfl, ⟨LegAt.start es, by decide⟩, hB, hP, hR, FrS.refl _ _⟩
  case round =>
    clear hB hP hR a1 a2 a3
    obtain ⟨k, m, hk, rfl, HL, hB, hP, hR, hF⟩ := hrel
    by_cases hklt : k < es.length
    · obtain ⟨x1, x2, x3, x4⟩ := HQ.out wr hF
      obtain ⟨eb, off, rfl, ev⟩ := x4 k hklt
      clear x4
      have HN : Hid (codeIn m es[k] = 0 → LegAt es (k + 1) (stepS m es[k])) := fun q => by
        have h1 := HL.out.1.next hklt q
        unfold stepS
        rw [if_pos q]
        exact h1
      have HT : Hid (¬ codeIn m es[k] = 0 → legS scn0 es = (stepS m es[k], k, codeIn m es[k])) := fun q => by
        have h1 := HL.out.1.stop hklt q
        unfold stepS
        rw [if_neg q]
        exact h1
      have HO : Hid (scB (stepS m es[k]) = true) := step_ok HL.out.2 _
      have cT := fun u (f : Fr wr u) => try_any es[k] u (hB.fr f) HL.out.2 (x3.fr f) (by omega)
      clear HL
      have hi : (k : Int) < es.length := by omega
      obtain ⟨e, he⟩ : ∃ e, e = es[k] := ⟨_, rfl⟩
      rw [← he] at ev HN HT HO
      simp only [← he] at cT
      clear he
      obtain ⟨C, hC⟩ : ∃ C, C = codeIn m e := ⟨_, rfl⟩
      rw [← hC] at HN HT
      simp only [← hC] at cT
      clear hC
      obtain ⟨D, hD⟩ : ∃ D, D = stepS m e := ⟨_, rfl⟩
      rw [← hD] at HN HT HO
      simp only [← hD] at cT
      clear hD
      obtain ⟨ek, eg, ej, ew, el, ez, ef, et⟩ := e
      obtain ⟨c0, c1, c2, c3, c4, c5, c6, c7⟩ := ev
      simp only at cT c0 c1 c2 c3 c4 c5 c6 c7
      have fV := Fr.alloc wr (.cells #[.int .i64 ek, .int .i64 eg, .int .i64 ej, .int .i64 ew, .int .i64 el, .int .i64 ez, .int .i64 ef, .int .i64 et] 31)
      have kE := EvAt.new wr ⟨ek, eg, ej, ew, el, ez, ef, et⟩ 31
      have cT := cT _ fV
      have y2 := fV.cell x2
      have hpl := hP.lt
      have hrl := hRt _ hR
      have HR : Hid (∀ u2 x, On b b1 b2 b3 b4 x → (wr.alloc (.cells #[.int .i64 ek, .int .i64 eg, .int .i64 ej, .int .i64 ew, .int .i64 el, .int .i64 ez, .int .i64 ef, .int .i64 et] 31)).grownBy u2 (some x) → Rec u2 ∧ PartAt u2 pb k 0 b ∧ FrS (Kept b b1 b2 b3 b4 pb l) W u2) := by
        intro u2 x ox g2
        have f1 : FrS (On b b1 b2 b3 b4) wr u2 := fV.toS.trans (grown_toS g2 ox)
        refine ⟨hRl wr u2 hR (f1.block _ (by omega) (fun q => ?_)) (f1.block _ hrl (fun q => ?_)), hP.keepS f1 (fun q => ?_), hF.trans ⟨f1.os, f1.tape, f1.output, f1.size, fun i hi hs => f1.block i hi (fun q => hs (.inl q))⟩⟩
        · simp only [On] at q; omega
        · simp only [On] at q; omega
        · simp only [On] at q; omega
      clear x3 hB hP hR
      have hft : Fence.wide.fn 51 := trivial
      gi_wp2_with (gi_at_call 51; refine (callsIn_wide.2 cT).mono ?_; rintro y u2 ⟨rfl, B2, x, ox, g2⟩; obtain ⟨r2, p2, F2⟩ := HR.out u2 x ox g2; obtain ⟨fn, tmps, assign, body, hy, hRd⟩ := hY C u2 r2 ⟨k, 0, p2, by omega, by omega⟩)
      refine hRd.mono ?_
      rintro y W3 ⟨rfl, r3, h3⟩
      obtain ⟨p3, f3⟩ := h3 k 0 p2
      have F3 : FrS (Kept b b1 b2 b3 b4 pb l) W W3 := F2.trans ⟨f3.os, f3.tape, f3.output, f3.size, fun i hi hs => f3.block i hi (fun q => hs (.inr q))⟩
      have B3 := B2.keepS f3 (fun x q => ⟨fun q2 => by simp only [On] at q2; omega, by omega, by omega⟩)
      clear h3 hRd hy f3 F2 B2 p2 r2 cT y2 g2 ox HR
      by_cases hc : C = 0
      · have hcb : (C != 0) = false := by simp [hc]
        have HP : Hid (PartAt W3 pb ((k + 1 : Nat) : Int) 0 b) := by
          rw [if_pos hc, hc] at p3
          exact p3
        have HL : Hid (LegAt es (k + 1) D ∧ scB D = true) := ⟨HN.out hc, HO.out⟩
        clear p3 hc HN HT HO
        gi_wp2
        go_roundw
        case rel => exact ⟨k + 1, D, by omega, by go_num, HL, B3, HP, r3, F3⟩
        case measure => simp [intOf]; omega
      · have hcb : (C != 0) = true := by simpa using hc
        have HT := HT.out hc
        have HT : Hid (legS scn0 es = (D, k, C)) := HT
        rw [if_neg hc] at p3
        clear hc HN HO
        gi_wp2
        refine bodyPost_ret (results_none rfl _ _ _) rfl ?_
        refine ⟨⟨_, rfl⟩, r3, ?_, ?_, F3⟩
        · rw [HT.out]; exact p3
        · rw [HT.out]; exact B3.mono (by omega)
    · have hke : k = es.length := by omega
      have HT : Hid (legS scn0 es = (m, es.length, 0)) := LegAt.done (by rw [← hke]; exact HL.out.1)
      clear HL
      gi_wp2
      go_end0
      refine ⟨⟨_, rfl⟩, hR, ?_, ?_, hF⟩
      · rw [HT.out, ← hke]; exact hP
      · rw [HT.out]; exact hB.mono (by omega)
end Go.Proofs.YtplnijpolkflcaaGreatDoor
namespace Go.Proofs.YtplnijpolkflcaaGreatDoor
open Go.RowKit Go.Shelf
attribute [local go_sem] Oper.semAt_some

theorem implNew_any (B : Nat → Prop) (w : World) :
    Calls Tryz.prog 142 #[] w fun e w' => ∃ s : Sv, e = .returned (.agg #[.int .i64 s.g, .slice s.lo s.ll s.lc, .slice s.co s.cl s.cc, .slice s.no s.nl s.nc, .slice s.oo s.ol s.oc]) ∧ ScR B w' s scn0 ∧ Fr w w' := by
  go_enter Tryz.func142, Tryz.ntmps142
  go_wp2
  refine bodyPost_ret (v := .agg #[.int .i64 1, .slice none 0 0, .slice none 0 0, .slice none 0 0, .slice none 0 0]) (by simp [results, Tryz.results142, go_sem]) rfl ⟨⟨1, none, 0, 0, none, 0, 0, none, 0, 0, none, 0, 0⟩, rfl, scR_new _ _, Fr.alloc _ _⟩

theorem boardNew_any (s : Sv) (w : World) (h : ScR (fun _ => False) w s scn0) :
    Calls Tryz.prog 50 #[.agg #[.int .i64 s.g, .slice s.lo s.ll s.lc, .slice s.co s.cl s.cc, .slice s.no s.nl s.nc, .slice s.oo s.ol s.oc]] w fun e w' => ∃ b b1 b2 b3 b4, e = .returned (.pointer (some ⟨b, 0, none⟩)) ∧ w.heap.size ≤ b1 ∧ (∀ lo u, Fr w' u → b < lo → lo ≤ u.heap.size → BoardW (0, lo) u b b1 b2 b3 b4 1048576 scn0) ∧ b < w'.heap.size ∧ Fr w w' := by
  obtain ⟨lvs, r1, e1, l1⟩ := h.lks
  refine (boardOf_any s scn0 lvs w h r1 e1 l1).mono ?_
  rintro e w' ⟨b, b1, b2, b3, b4, rfl, ⟨q0, q1, q2, q3, q4⟩, Bd, f⟩
  have M := boardM_of (B := fun _ => False) (by decide) (l1.fr f) h.sl h.sc h.sn h.so Bd
  refine ⟨b, b1, b2, b3, b4, rfl, q0, fun lo u g hl hs => ?_, (Array.getElem?_eq_some_iff.1 Bd.row).1, f⟩
  obtain ⟨fl, p1, p2⟩ := M.m1
  exact ⟨⟨Nat.zero_le _, hl, hs⟩, (g.block b (Array.getElem?_eq_some_iff.1 Bd.row).1 (by simp)).trans Bd.row, ⟨q1, q2, q3, q4⟩, ⟨fl, p1.fr g, fun o => ((p2 o).keep g (by simp)).mono (fun _ q => q.elim)⟩, M.m2.fr g, M.m3.fr g, M.m4.fr g⟩

theorem codes_any (b n c : Nat) (ao : Option Addr) (w : World) :
    Calls Tryz.prog 143 #[.pointer (some ⟨b, 0, none⟩), .slice ao n c] w fun e w' => e = .returned (.func (.func 186) #[] #[.pointer (some ⟨w.heap.size + 1, 0, none⟩), .pointer (some ⟨w.heap.size, 0, none⟩)]) ∧ w' = (w.alloc (.cells #[.pointer (some ⟨b, 0, none⟩)] 73)).alloc (.cells #[.slice ao n c] 42) := by
  go_enter Tryz.func143, Tryz.ntmps143
  go_wp2_with fail
  go_ret
  exact ⟨rfl, rfl⟩

set_option maxRecDepth 20000 in
set_option maxHeartbeats 4000000 in
theorem legalPartOf_any (ao : Option Addr) (n c : Nat) (es : List Ev) (w : World) (hn : es.length = n) (h : ReadsE w ao es) (hl : es.length ≤ 300) (hs : Shapes w) (hab : ∀ k, blk ao = some k → k < w.heap.size) :
    Calls Tryz.prog 77 #[.slice ao n c] w fun x w' => ∃ lo b b1 b2 b3 b4, x = .returned (.agg #[.int .i64 (legS scn0 es).2.1, .int .i64 (legS scn0 es).2.2, .pointer (some ⟨b, 0, none⟩)]) ∧ BoardW lo w' b b1 b2 b3 b4 2000000 (legS scn0 es).1 ∧ w.heap.size ≤ b1 ∧ Fr w w' := by
  subst hn
  have hsh : 0 < w.heap.size := World.block_lt_of_cell? w _ (hs 0 (by omega)).1
  refine (callsIn_wide (n := 6)).1 ?_
  have h1 : Fence.wide.fn 142 := trivial
  have h2 : Fence.wide.fn 50 := trivial
  have h3 : Fence.wide.fn 143 := trivial
  refine callsIn_of_wp_marks Tryz.func77 rfl trivial ?_ rfl
  simp only [Tryz.ntmps77, List.size_toArray, List.length_cons, List.length_nil, Nat.reduceAdd, Nat.reduceSub, Array.replicate_succ, Array.replicate_zero, List.push_toArray, List.append_toArray, List.nil_append, List.cons_append]
  gi_wp2_with (first
    | (gi_at_call 142; refine (callsIn_wide.2 (implNew_any (fun _ => False) _)).mono ?_; rintro x w1 ⟨s, rfl, S1, f1⟩)
    | (gi_at_call 50; refine (callsIn_wide.2 (boardNew_any s _ S1)).mono ?_; rintro x w2 ⟨b, b1, b2, b3, b4, rfl, hb1, hB, hb, f2⟩)
    | (gi_at_call 143; refine (callsIn_wide.2 (codes_any b es.length c ao _)).mono ?_; rintro x w3 ⟨rfl, rfl⟩))
  have f0 := Fr.alloc w (.cells #[.int .i64 0, .int .i64 0, .pointer none] 111)
  have r0 : (w.alloc (.cells #[.int .i64 0, .int .i64 0, .pointer none] 111)).heap[w.heap.size]? = some (.cells #[.int .i64 0, .int .i64 0, .pointer none] 111 (0, 0)) := heap_alloc_new w _
  have r0lt : w.heap.size < (w.alloc (.cells #[.int .i64 0, .int .i64 0, .pointer none] 111)).heap.size := (Array.getElem?_eq_some_iff.1 r0).1
  have g1 := Fr.alloc w2 (.cells #[.int .i64 0, .int .i64 0, .pointer (some ⟨b, 0, none⟩)] 111)
  have g2 := Fr.alloc (w2.alloc (.cells #[.int .i64 0, .int .i64 0, .pointer (some ⟨b, 0, none⟩)] 111)) (.cells #[.pointer (some ⟨b, 0, none⟩)] 73)
  have g3 := Fr.alloc ((w2.alloc (.cells #[.int .i64 0, .int .i64 0, .pointer (some ⟨b, 0, none⟩)] 111)).alloc (.cells #[.pointer (some ⟨b, 0, none⟩)] 73)) (.cells #[.slice ao es.length c] 42)
  have P0 : PartAt (((w2.alloc (.cells #[.int .i64 0, .int .i64 0, .pointer (some ⟨b, 0, none⟩)] 111)).alloc (.cells #[.pointer (some ⟨b, 0, none⟩)] 73)).alloc (.cells #[.slice ao es.length c] 42)) w2.heap.size 0 0 b :=
    ((g2.trans g3).block _ (by simp) (by simp)).trans (heap_alloc_new w2 _)
  have q0 : (((w2.alloc (.cells #[.int .i64 0, .int .i64 0, .pointer (some ⟨b, 0, none⟩)] 111)).alloc (.cells #[.pointer (some ⟨b, 0, none⟩)] 73)).alloc (.cells #[.slice ao es.length c] 42)).cell? ⟨w2.heap.size + 1, 0, none⟩ = some (.pointer (some ⟨b, 0, none⟩)) := by simp [go_sem]
  have x0 : (((w2.alloc (.cells #[.int .i64 0, .int .i64 0, .pointer (some ⟨b, 0, none⟩)] 111)).alloc (.cells #[.pointer (some ⟨b, 0, none⟩)] 73)).alloc (.cells #[.slice ao es.length c] 42)).cell? ⟨w2.heap.size + 1 + 1, 0, none⟩ = some (.slice ao es.length c) := by simp [go_sem]
  have z0 : (((w2.alloc (.cells #[.int .i64 0, .int .i64 0, .pointer (some ⟨b, 0, none⟩)] 111)).alloc (.cells #[.pointer (some ⟨b, 0, none⟩)] 73)).alloc (.cells #[.slice ao es.length c] 42)).heap.size = w2.heap.size + 3 := by simp
  have F3 := g1.trans (g2.trans g3)
  clear g1 g2 g3
  obtain ⟨W0, hW0⟩ : ∃ W0, W0 = (((w2.alloc (.cells #[.int .i64 0, .int .i64 0, .pointer (some ⟨b, 0, none⟩)] 111)).alloc (.cells #[.pointer (some ⟨b, 0, none⟩)] 73)).alloc (.cells #[.slice ao es.length c] 42)) := ⟨_, rfl⟩
  rw [← hW0] at P0 q0 x0 z0 F3 ⊢
  obtain ⟨rb, hrb⟩ : ∃ rb, rb = w.heap.size := ⟨_, rfl⟩
  rw [← hrb] at r0 r0lt ⊢
  obtain ⟨pb, hpb⟩ : ∃ pb, pb = w2.heap.size := ⟨_, rfl⟩
  rw [← hpb] at P0 q0 x0 z0 ⊢
  have FW := f0.trans (f1.trans (f2.trans F3))
  have R0 : W0.heap[rb]? = some (.cells #[.int .i64 0, .int .i64 0, .pointer none] 111 (0, 0)) := ((f1.trans (f2.trans F3)).block rb r0lt (by simp)).trans r0
  have hlt : rb < b1 ∧ b < pb := by
    have := f1.size
    omega
  have HE : Hid (ReadsE w ao es ∧ Shapes w) := ⟨h, hs⟩
  have HZ : Hid (W0.heap.size = pb + 3 ∧ pb = w2.heap.size ∧ rb = w.heap.size) := ⟨z0, hpb, hrb⟩
  have HLT : Hid ((b1 < b2 ∧ b2 < b3 ∧ b3 < b4 ∧ b4 < b) ∧ rb < b1 ∧ b < pb) := ⟨(hB (b + 1) w2 (Fr.refl w2) (by omega) (by omega)).lt, hlt⟩
  clear hW0 r0 r0lt f0 f1 h hs S1 z0 hpb hrb hlt hb1 hb f2
  refine wpIn_range (w := W0) rfl (by omega) (gf := 186) (lb := #[.pointer (some ⟨pb + 1 + 1, 0, none⟩), .pointer (some ⟨pb + 1, 0, none⟩)]) rfl trivial (enters_of Tryz.func186 (by kernel_rfl) rfl) (fun x : Int => #[.int .i64 x]) (fun _ => rfl)
    (fun x W => ∃ z c, PartAt W pb z c b ∧ 0 ≤ z ∧ z ≤ 1000000) (fun x W W' => RoundOf pb (W0.heap.size + 1) b x W W')
    (fun W => PartAt W pb (legS scn0 es).2.1 (legS scn0 es).2.2 b ∧ BoardW (0, pb + 5) W b b1 b2 b3 b4 (1048576 + 400) (legS scn0 es).1 ∧ W.heap[rb]? = some (.cells #[.int .i64 0, .int .i64 0, .pointer none] 111 (0, 0)) ∧ Fr w W)
    (fun x => { tmps := #[.slice ao es.length c, undef, .pointer (some ⟨rb, 0, none⟩), .pointer (some ⟨pb, 0, none⟩), .int .i64 x, .agg #[.int .i64 s.g, .slice s.lo s.ll s.lc, .slice s.co s.cl s.cc, .slice s.no s.nl s.nc, .slice s.oo s.ol s.oc], .pointer (some ⟨b, 0, none⟩), .agg #[.int .i64 0, .int .i64 0, .pointer (some ⟨b, 0, none⟩)], .pointer (some ⟨pb, 2, none⟩), .pointer (some ⟨b, 0, none⟩), .slice ao es.length c, .func (.func 186) #[] #[.pointer (some ⟨pb + 1 + 1, 0, none⟩), .pointer (some ⟨pb + 1, 0, none⟩)], .int .i64 x, undef, undef, undef, undef, undef, undef, undef, undef, undef], defers := [] }) ?assign ?body ?hPre ?hPost ?hit ?done
  case assign =>
    intro l x W K hK
    gi_wp2
    exact hK
  case hPre =>
    rintro x W o o' hl ⟨z, c, hp, hz⟩
    have hq := HZ.out
    exact ⟨z, c, (World.putObj_heap_other (by omega)).trans hp, hz⟩
  case hPost =>
    intro x W W3 o1 o3 hp z c h1
    have hq := HZ.out
    obtain ⟨p3, f3⟩ := hp z c ((World.putObj_heap_other (by omega)).trans h1)
    exact ⟨(World.putObj_heap_other (by omega)).trans p3, (grown_toS (grownBy_putObj' W _ o1) (.inr rfl)).trans (f3.trans (grown_toS (grownBy_putObj' W3 _ o3) (.inr rfl)))⟩
  case hit =>
    intro W1 Rec hb hs1 hR hRl hRt hY
    have hq := HZ.out
    have hlt := HLT.out
    have fb : Fr W0 W1 := ⟨hb.1, hb.2, hb.3, hb.4, fun k hk _ => hb.5 k hk⟩
    have hB1 := hB (pb + 5) W1 (F3.trans fb) (by omega) (by omega)
    have fw := FW.trans fb
    have c1 := codes1_in 5 (by omega) (W0.heap.size + 1) pb (pb + 1) (pb + 1 + 1) b b1 b2 b3 b4 (0, pb + 5) 1048576 ao c es W1 Rec (fun A B hA q1 q2 => hRl A B hA q1 q2) hR hRt hY hB1 (by omega) (HE.out.2.fr fw) ((fb.block pb P0.lt (by simp)).trans P0) (HE.out.1.fr fw) hl (fb.cell x0) (fb.cell q0) (by omega) (fun k hk => by have := hab k hk; omega) (by omega)
    refine CallsIn.mono c1 ?_
    rintro e W' ⟨hv, r1, p1, B1, f1⟩
    refine ⟨hv, r1, p1, B1, ?_, ?_⟩
    · refine (f1.block rb (by have := fb.size; omega) (fun q => ?_)).trans ((fb.block rb (by omega) (by simp)).trans R0)
      simp only [Kept, On] at q
      omega
    · refine fw.thenS f1 (fun j q => ?_)
      simp only [Kept, On] at q
      omega
  case body =>
    rintro l x W ⟨z, c, hp, hz⟩
    have c0 : W.cell? ⟨pb, 0, none⟩ = some (.int .i64 z) := cell_of_row W pb 0 _ _ _ hp
    have c1 : W.cell? ⟨pb, 1, none⟩ = some (.int .i64 c) := cell_of_row W pb 1 _ _ _ hp
    have j0 := frozen_of_row W pb 0 _ _ hp
    have j1 := frozen_of_row W pb 1 _ _ hp
    have hw : IntKind.i64.wrap (z + 1) = z + 1 := by rw [IntKind.wrap_i64]; omega
    have HP : Hid (PartAt W pb z c b) := hp
    clear hp
    by_cases hx : x = 0
    · have hxb : (x == 0) = true := by simpa using hx
      have HX : Hid (x = 0) := hx
      clear hx
      gi_wp2
      refine ⟨(KeepsOthers.setCell _ _ _).trans (KeepsOthers.setCell _ _ _), fun z' c' hp' => ?_⟩
      have e := (HP.out : W.heap[pb]? = _).symm.trans hp'
      simp at e
      obtain ⟨rfl, rfl⟩ := e
      rw [if_pos HX.out]
      have s1 := heap_setCell_same W pb 1 _ _ (.int .i64 x) HP.out
      exact ⟨heap_setCell_same _ pb 0 _ _ (.int .i64 (z + 1)) s1, (grown_toS (grown_set W pb 1 _) (.inl rfl)).trans (grown_toS (grown_set _ pb 0 _) (.inl rfl))⟩
    · have hxb : (x == 0) = false := by simpa using hx
      have HX : Hid (¬ x = 0) := hx
      clear hx
      gi_wp2
      refine ⟨KeepsOthers.setCell _ _ _, fun z' c' hp' => ?_⟩
      have e := (HP.out : W.heap[pb]? = _).symm.trans hp'
      simp at e
      obtain ⟨rfl, rfl⟩ := e
      rw [if_neg HX.out]
      exact ⟨heap_setCell_same W pb 1 _ _ (.int .i64 x) HP.out, grown_toS (grown_set W pb 1 _) (.inl rfl)⟩
  case done =>
    rintro W o ⟨p1, B1, r1, f1⟩ hK
    have hq := HZ.out
    have hlt := HLT.out
    have k1 : FrS (fun k => k = W0.heap.size + 1) W (W.putObj (W0.heap.size + 1) o) := grown_toS (grownBy_putObj' W _ o) rfl
    have p1 := p1.keepS k1 (by omega)
    have B1 := B1.keepS k1 (fun x q => ⟨fun q2 => by simp only [On] at q2; omega, by simp only; omega, by simp only; omega⟩)
    have r1 : (W.putObj (W0.heap.size + 1) o).heap[rb]? = some (.cells #[.int .i64 0, .int .i64 0, .pointer none] 111 (0, 0)) := (World.putObj_heap_other (by omega)).trans r1
    have f1 := f1.thenS k1 (fun j q => by omega)
    have hrp : rb ≠ pb := by omega
    have hrd : rb ≠ W0.heap.size := by omega
    have hrw : w.heap.size ≤ rb := by omega
    have hdw : w.heap.size ≤ W0.heap.size := by omega
    have hbr : rb < b1 := by omega
    have hbd : b < W0.heap.size ∧ W0.heap.size < pb + 5 := by omega
    have hbb := hlt.1
    have hrpb : rb < pb := by omega
    clear k1 hq hlt
    obtain ⟨V, hV⟩ : ∃ V, V = W.putObj (W0.heap.size + 1) o := ⟨_, rfl⟩
    rw [← hV] at p1 B1 r1 f1 hK ⊢
    clear hV
    obtain ⟨z, hz⟩ : ∃ z : Int, z = (legS scn0 es).2.1 := ⟨_, rfl⟩
    rw [← hz] at p1
    have Hz : Hid (z = (legS scn0 es).2.1) := hz
    obtain ⟨cc, hcc⟩ : ∃ z, z = (legS scn0 es).2.2 := ⟨_, rfl⟩
    rw [← hcc] at p1
    have Hc : Hid (cc = (legS scn0 es).2.2) := hcc
    clear hz hcc
    have c0 : V.cell? ⟨pb, 0, none⟩ = some (.int .i64 z) := cell_of_row V pb 0 _ _ _ p1
    have c1 : V.cell? ⟨pb, 1, none⟩ = some (.int .i64 cc) := cell_of_row V pb 1 _ _ _ p1
    have c2 : V.cell? ⟨pb, 2, none⟩ = some (.pointer (some ⟨b, 0, none⟩)) := cell_of_row V pb 2 _ _ _ p1
    have d0 : V.cell? ⟨rb, 0, none⟩ = some (.int .i64 0) := cell_of_row V rb 0 _ _ _ r1
    have d1 : V.cell? ⟨rb, 1, none⟩ = some (.int .i64 0) := cell_of_row V rb 1 _ _ _ r1
    have d2 : V.cell? ⟨rb, 2, none⟩ = some (.pointer none) := cell_of_row V rb 2 _ _ _ r1
    have jf := fun i => frozen_of_row V rb i _ _ r1
    gi_wp2
    clear c0 c1 c2 d0 d1 d2 jf
    have s0 := heap_setCell_same V rb 0 _ _ (.int .i64 z) r1
    have s1 := heap_setCell_same _ rb 1 _ _ (.int .i64 cc) s0
    have s2 := heap_setCell_same _ rb 2 _ _ (.pointer (some ⟨b, 0, none⟩)) s1
    have kU : FrS (fun k => k = rb) V (((V.setCell ⟨rb, 0, none⟩ (.int .i64 z)).setCell ⟨rb, 1, none⟩ (.int .i64 cc)).setCell ⟨rb, 2, none⟩ (.pointer (some ⟨b, 0, none⟩))) := ((grown_toS (S := fun k => k = rb) (grown_set V rb 0 _) rfl).trans (grown_toS (S := fun k => k = rb) (grown_set _ rb 1 _) rfl)).trans (grown_toS (S := fun k => k = rb) (grown_set _ rb 2 _) rfl)
    have R3 : (((V.setCell ⟨rb, 0, none⟩ (.int .i64 z)).setCell ⟨rb, 1, none⟩ (.int .i64 cc)).setCell ⟨rb, 2, none⟩ (.pointer (some ⟨b, 0, none⟩))).heap[rb]? = some (.cells #[.int .i64 z, .int .i64 cc, .pointer (some ⟨b, 0, none⟩)] 111 (0, 0)) := s2
    clear s0 s1 s2
    obtain ⟨U, hU⟩ : ∃ U, U = (((V.setCell ⟨rb, 0, none⟩ (.int .i64 z)).setCell ⟨rb, 1, none⟩ (.int .i64 cc)).setCell ⟨rb, 2, none⟩ (.pointer (some ⟨b, 0, none⟩))) := ⟨_, rfl⟩
    rw [← hU] at kU R3 ⊢
    clear hU
    have hKU : U.heap[W0.heap.size]? = some (.deferred (some [])) := (kU.block _ (Array.getElem?_eq_some_iff.1 hK).1 (fun q => hrd q.symm)).trans hK
    refine ⟨by simp, .inl ⟨_, _, rfl, run_takeDeferred hKU, ?_⟩⟩
    have kT : FrS (fun k => k = W0.heap.size) U (U.putObj W0.heap.size (.deferred none)) := grown_toS (grownBy_putObj' U _ _) rfl
    have R4 : (U.putObj W0.heap.size (.deferred none)).heap[rb]? = some (.cells #[.int .i64 z, .int .i64 cc, .pointer (some ⟨b, 0, none⟩)] 111 (0, 0)) := (kT.block rb (Array.getElem?_eq_some_iff.1 R3).1 hrd).trans R3
    have d0 : (U.putObj W0.heap.size (.deferred none)).cell? ⟨rb, 0, none⟩ = some (.int .i64 z) := cell_of_row _ rb 0 _ _ _ R4
    have d1 : (U.putObj W0.heap.size (.deferred none)).cell? ⟨rb, 1, none⟩ = some (.int .i64 cc) := cell_of_row _ rb 1 _ _ _ R4
    have d2 : (U.putObj W0.heap.size (.deferred none)).cell? ⟨rb, 2, none⟩ = some (.pointer (some ⟨b, 0, none⟩)) := cell_of_row _ rb 2 _ _ _ R4
    refine ⟨.agg #[.int .i64 z, .int .i64 cc, .pointer (some ⟨b, 0, none⟩)], by simp [results, Tryz.results77, go_sem, d0, d1, d2], (0, pb + 5), b, b1, b2, b3, b4, by rw [Hz.out, Hc.out], ?_, by omega, (f1.thenS kU (fun j q => by omega)).thenS kT (fun j q => by omega)⟩
    exact ((B1.keepS kU (fun x q => ⟨fun q2 => by simp only [On] at q2; omega, by simp only; omega, by simp only; omega⟩)).keepS kT (fun x q => ⟨fun q2 => by simp only [On] at q2; omega, by simp only; omega, by simp only; omega⟩)).mono (by omega)
end Go.Proofs.YtplnijpolkflcaaGreatDoor
namespace Go.Proofs.YtplnijpolkflcaaGreatDoor
open Go.RowKit

def legLen (es : List Ev) : Int := if 300 < es.length then -1 else (legS scn0 es).2.1
theorem isTrace_any (ao : Option Addr) (n c : Nat) (w : World) :
    Calls Tryz.prog 76 #[.slice ao n c] w fun e w' => e = .returned (.bool (decide ((n : Int) ≤ 300))) ∧ w' = w := by
  go_enter Tryz.func76, Tryz.ntmps76
  go_wp2_with fail
  go_ret
  exact ⟨rfl, rfl⟩
theorem field_size (a c : Int) (b : Nat) (u : World) : Sem.run Tryz.prog (Instr.field 111 (.agg #[.int .i64 a, .int .i64 c, .pointer (some ⟨b, 0, none⟩)]) 0) u = .ok (.int .i64 a) u := by
  have hu := run_underlying (w := u) Tryz.underlying111
  simp [Instr.field, asAgg, hu, go_sem]
set_option maxHeartbeats 1000000 in
theorem implLen_any (ao : Option Addr) (n c : Nat) (es : List Ev) (w : World) (hn : es.length = n) (h : ReadsE w ao es) (hs : Shapes w) (hab : ∀ k, blk ao = some k → k < w.heap.size) :
    Calls Tryz.prog 29 #[.slice ao n c] w fun x w' => x = .returned (.int .i64 (legLen es)) ∧ Fr w w' := by
  have cT := isTrace_any ao n c w
  by_cases hb : es.length ≤ 300
  · have cP := legalPartOf_any ao n c es w hn h hb hs hab
    have e1 : legLen es = (legS scn0 es).2.1 := if_neg (by omega)
    have e2 : decide ((n : Int) ≤ 300) = true := by simp; omega
    rw [e1]
    rw [e2] at cT
    clear e1 e2 hb h hs hab hn
    obtain ⟨z, hz⟩ : ∃ z : Int, z = (legS scn0 es).2.1 := ⟨_, rfl⟩
    obtain ⟨q, hq⟩ : ∃ z : Int, z = (legS scn0 es).2.2 := ⟨_, rfl⟩
    simp only [← hz, ← hq] at cP
    rw [← hz]
    clear hz hq
    go_enter Tryz.func29, Tryz.ntmps29
    go_wp2_with fail
    refine (cT).mono ?_
    rintro e u0 ⟨rfl, rfl⟩
    clear cT
    go_wp2_with fail
    refine (cP).mono ?_
    rintro e u1 ⟨lo, b, b1, b2, b3, b4, rfl, -, -, f1⟩
    have hf := fun u => field_size z q b u
    go_wp2_with fail
    go_ret
    exact ⟨rfl, f1⟩
  · have e1 : legLen es = -1 := if_pos (by omega)
    have e2 : decide ((n : Int) ≤ 300) = false := by simp; omega
    rw [e1]
    rw [e2] at cT
    clear e1 e2 hb h hs hab hn
    go_enter Tryz.func29, Tryz.ntmps29
    go_wp2_with fail
    refine (cT).mono ?_
    rintro e u0 ⟨rfl, rfl⟩
    go_wp2_with fail
    go_ret
    exact ⟨rfl, Fr.refl _⟩

set_option maxHeartbeats 1000000 in
theorem specLen_any (ao : Option Addr) (n c : Nat) (es : List Ev) (w : World) (hn : es.length = n) (h : ReadsE w ao es) :
    Calls Tryz.prog 141 #[.slice ao n c] w fun x w' => x = .returned (.int .i64 (legLen es)) ∧ Fr w w' := by
  have cP := l5Scene_any ao n c es w hn h
  by_cases hb : es.length ≤ 300
  · have e1 : legLen es = (legS scn0 es).2.1 := if_neg (by omega)
    have e2 : (n : Int) ≤ 300 := by omega
    rw [e1]
    clear e1 hb h hn
    obtain ⟨z, hz⟩ : ∃ z : Int, z = (legS scn0 es).2.1 := ⟨_, rfl⟩
    obtain ⟨q, hq⟩ : ∃ z : Int, z = (legS scn0 es).2.2 := ⟨_, rfl⟩
    simp only [← hz, ← hq] at cP
    rw [← hz]
    clear hz hq
    go_enter Tryz.func141, Tryz.ntmps141
    go_wp2_with fail
    refine (cP).mono ?_
    rintro e u1 ⟨⟨sg, lo, ll, lc, co, cl, cc, no, nl, nc, oo, ol, oc⟩, B, rfl, -, -, f1⟩
    go_wp2_with fail
    go_ret
    exact ⟨rfl, f1.trans (Fr.alloc _ _)⟩
  · have e1 : legLen es = -1 := if_pos (by omega)
    have e2 : 300 < (n : Int) := by omega
    rw [e1]
    clear e1 hb h hn cP
    go_enter Tryz.func141, Tryz.ntmps141
    go_wp2_with fail
    go_ret
    exact ⟨rfl, Fr.refl _⟩

end Go.Proofs.YtplnijpolkflcaaGreatDoor
namespace Go.Proofs.YtplnijpolkflcaaGreatDoor
open Go.RowKit

theorem leg_len : ∀ (es : List Ev) (m : Scn), (legS m es).2.1 ≤ es.length
  | [], m => by simp [legS]
  | e :: es, m => by
    by_cases q : codeIn m e = 0
    · rw [leg_go q]
      have := leg_len es (doS m e)
      simp only [List.length_cons]
      omega
    · rw [leg_no q]; simp
theorem leg_code : ∀ (es : List Ev) (m : Scn), (legS m es).2.2 = 0 ↔ (legS m es).2.1 = es.length
  | [], m => by simp [legS]
  | e :: es, m => by
    by_cases q : codeIn m e = 0
    · rw [leg_go q]
      have := leg_code es (doS m e)
      simp only [List.length_cons]
      omega
    · rw [leg_no q]
      simp [q]
theorem leg_part : ∀ (es : List Ev) (m : Scn) (k : Nat), k ≤ (legS m es).2.1 → (legS m (es.take k)).2.1 = k ∧ (legS m (es.take k)).2.2 = 0 ∧ ∀ (h : k < es.length), k < (legS m es).2.1 → codeIn (legS m (es.take k)).1 es[k] = 0
  | es, m, 0, _ => by
    simp only [List.take_zero]
    refine ⟨rfl, rfl, fun h h2 => ?_⟩
    cases es with
    | nil => simp at h
    | cons e es =>
      by_cases q : codeIn m e = 0
      · exact q
      · rw [leg_no q] at h2; simp at h2
  | [], m, k + 1, h => by simp [legS] at h
  | e :: es, m, k + 1, h => by
    by_cases q : codeIn m e = 0
    · rw [leg_go q] at h ⊢
      simp only at h
      obtain ⟨h1, h2, h3⟩ := leg_part es (doS m e) k (by omega)
      rw [List.take_succ_cons, leg_go q]
      refine ⟨by simp only; omega, h2, fun hk hk2 => ?_⟩
      simp only [List.getElem_cons_succ]
      exact h3 (by simpa using hk) (by simp only at hk2; omega)
    · rw [leg_no q] at h; simp at h
theorem leg_ok : ∀ (es : List Ev) (m : Scn), scB m = true → scB (legS m es).1 = true
  | [], m, h => h
  | e :: es, m, h => by
    by_cases q : codeIn m e = 0
    · rw [leg_go q]; exact leg_ok es _ (do_ok q)
    · rw [leg_no q]; exact h
end Go.Proofs.YtplnijpolkflcaaGreatDoor
