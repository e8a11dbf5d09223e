/-
  The iterator that does the events of a trace on a board and yields their codes.
-/
import Derived.Test.YtikjodbboljhjaaGreatDoorScRange
import Derived.Test.YtikjodbboljhjaaGreatDoorScLeg
import Derived.Shelf.Abstract
import Derived.Shelf.RegionOpen
import Derived.WalkKit
import Derived.OwnWalkIn
import Derived.TacticsInMore
import Derived.LoopNIn
import Derived.LoopIn
namespace Go.Proofs.YtikjodbboljhjaaGreatDoor
open Go.RowKit Go.Shelf
attribute [local go_sem] Oper.semAt_some

/-- A legalPart's box. -/
def PartAt (W : World) (pb : Nat) (z c : Int) (b : Nat) : Prop := W.heap[pb]? = some (.cells #[.int .i64 z, .int .i64 c, .pointer (some ⟨b, 0, none⟩)] 96 (0, 0))
theorem PartAt.lt {W : World} {pb b : Nat} {z c : Int} (h : PartAt W pb z c b) : pb < W.heap.size := (Array.getElem?_eq_some_iff.1 h).1
theorem PartAt.keepS {S : Nat → Prop} {W W' : World} {pb b : Nat} {z c : Int} (h : PartAt W pb z c b) (k : FrS S W W') (hs : ¬ S pb) : PartAt W' pb z c b := (k.block pb h.lt hs).trans h
/-- What one round does to the part, and to nothing else. -/
def RoundOf (pb l b : Nat) (x : Int) (W W' : World) : Prop := ∀ z c, PartAt W pb z c b → PartAt W' pb (if x = 0 then z + 1 else z) x b ∧ FrS (fun k => k = pb ∨ k = l) W W'

theorem EvC.keepS {S : Nat → Prop} {w w' : World} {b o : Nat} {e : Ev} (h : EvC w b o e) (k : FrS S w w') (hs : ¬ S b) : EvC w' b o e :=
  ⟨k.cell h.c0 hs, k.cell h.c1 hs, k.cell h.c2 hs, k.cell h.c3 hs, k.cell h.c4 hs, k.cell h.c5 hs, k.cell h.c6 hs, k.cell h.c7 hs⟩
theorem Shapes.keepS {S : Nat → Prop} {w w' : World} (h : Shapes w) (k : FrS S w w') (hs : ¬ S 0) : Shapes w' := fun n hn => by
  obtain ⟨h1, h2, h3⟩ := h n hn
  exact ⟨k.cell h1 hs, k.cell h2 hs, k.cell h3 hs⟩

/-- What the iterator keeps of what lay ahead of it. -/
def Kept (b b1 b2 b3 b4 pb l k : Nat) : Prop := On b b1 b2 b3 b4 k ∨ k = pb ∨ k = l

set_option maxRecDepth 20000 in
set_option maxHeartbeats 4000000 in
theorem codes1_in (n : Nat) (hn : 1 ≤ n) (l pb qb xb b b1 b2 b3 b4 : Nat) (lo : Nat × Nat) (n0 : Nat) (ao : Option Addr) (c : Nat) (es : List Ev) (W : World) (Rec : World → Prop)
    (hRl : ∀ A B : World, Rec A → B.heap[l - 1]? = A.heap[l - 1]? → B.heap[l]? = A.heap[l]? → Rec B)
    (hR : Rec W) (hRt : ∀ A, Rec A → l < A.heap.size)
    (hY : ∀ (x : Int) (W : World), Rec W → (∃ z c, PartAt W pb z c b ∧ 0 ≤ z ∧ z ≤ 1000000) → YieldAt Fence.wide (n - 1) Tryz.prog l #[.int .i64 x] W fun e W' => e = .returned (.bool true) ∧ Rec W' ∧ RoundOf pb l b x W W')
    (hB : BoardW lo W b b1 b2 b3 b4 n0 scn0) (hn0 : n0 ≤ 2000000) (hs : Shapes W) (hP : PartAt W pb 0 0 b) (hE : ReadsE W ao es) (hl : es.length ≤ 300)
    (hx : W.cell? ⟨xb, 0, none⟩ = some (.slice ao es.length c)) (hq : W.cell? ⟨qb, 0, none⟩ = some (.pointer (some ⟨b, 0, none⟩)))
    (hlt : b < pb ∧ pb < l - 1 ∧ l < lo.2 ∧ b < xb ∧ b < qb ∧ xb < l - 1 ∧ qb < l - 1 ∧ xb ≠ pb ∧ qb ≠ pb) (hab : ∀ k, blk ao = some k → k < b1) (hsh : 0 < b1) :
    CallsIn Fence.wide n Tryz.prog 162 #[.func (.yield l) #[] #[], .pointer (some ⟨xb, 0, none⟩), .pointer (some ⟨qb, 0, none⟩)] W fun e W' => (∃ v, e = .returned v) ∧ Rec W' ∧ PartAt W' pb (legS scn0 es).2.1 (legS scn0 es).2.2 b ∧ BoardW lo W' b b1 b2 b3 b4 (n0 + 400) (legS scn0 es).1 ∧ FrS (Kept b b1 b2 b3 b4 pb l) W W' := by
  have hbl := hB.lt
  have hbg := hB.ge
  have HQ : Hid (∀ u, FrS (Kept b b1 b2 b3 b4 pb l) W u → u.cell? ⟨xb, 0, none⟩ = some (.slice ao es.length c) ∧ u.cell? ⟨qb, 0, none⟩ = some (.pointer (some ⟨b, 0, none⟩)) ∧ Shapes u ∧ ∀ k (hk : k < es.length), ∃ eb off, ao = some ⟨eb, off, none⟩ ∧ EvC u eb (off + k * 8) es[k]) := by
    intro u f
    refine ⟨f.cell hx (fun q => ?_), f.cell hq (fun q => ?_), hs.keepS f (fun q => ?_), fun k hk => ?_⟩
    · simp only [Kept, On] at q; omega
    · simp only [Kept, On] at q; omega
    · simp only [Kept, On] at q; omega
    · obtain ⟨eb, off, e, hc⟩ := hE.at_ k hk
      refine ⟨eb, off, e, (hc k hk).keepS f (fun q => ?_)⟩
      have := hab eb (by rw [e]; rfl)
      simp only [Kept, On] at q
      omega
  refine callsIn_of_wp Tryz.func162 rfl trivial ?_ rfl
  simp only [Tryz.ntmps162, List.size_toArray, List.length_cons, List.length_nil, Nat.reduceAdd, Nat.reduceSub, Array.replicate_succ, Array.replicate_zero, List.push_toArray, List.append_toArray, List.nil_append, List.cons_append]
  obtain ⟨a1, a2, a3, -⟩ := HQ.out W (FrS.refl _ _)
  clear hE hs hx hq
  gi_wp2
  gi_loopw [9] (fun i wr => ∃ (k : Nat) (m : Scn), k ≤ es.length ∧ i = .int .i64 k ∧ Hid (LegAt es k m ∧ scB m = true) ∧ BoardW lo wr b b1 b2 b3 b4 (n0 + k) m ∧ PartAt wr pb k 0 b ∧ Rec wr ∧ FrS (Kept b b1 b2 b3 b4 pb l) W wr) (fun i _ => es.length - (intOf i).toNat)
  case atStart => exact ⟨0, scn0, Nat.zero_le _, rfl, ⟨LegAt.start es, by decide⟩, hB, hP, hR, FrS.refl _ _⟩
  case round =>
    clear hB hP hR a1 a2 a3
    obtain ⟨k, m, hk, rfl, HL, hB, hP, hR, hF⟩ := hrel
    by_cases hklt : k < es.length
    · obtain ⟨x1, x2, x3, x4⟩ := HQ.out wr hF
      obtain ⟨eb, off, rfl, ev⟩ := x4 k hklt
      clear x4
      have HN : Hid (codeIn m es[k] = 0 → LegAt es (k + 1) (stepS m es[k])) := fun q => by
        have h1 := HL.out.1.next hklt q
        unfold stepS
        rw [if_pos q]
        exact h1
      have HT : Hid (¬ codeIn m es[k] = 0 → legS scn0 es = (stepS m es[k], k, codeIn m es[k])) := fun q => by
        have h1 := HL.out.1.stop hklt q
        unfold stepS
        rw [if_neg q]
        exact h1
      have HO : Hid (scB (stepS m es[k]) = true) := step_ok HL.out.2 _
      have cT := fun u (f : Fr wr u) => try_any es[k] u (hB.fr f) HL.out.2 (x3.fr f) (by omega)
      clear HL
      have hi : (k : Int) < es.length := by omega
      obtain ⟨e, he⟩ : ∃ e, e = es[k] := ⟨_, rfl⟩
      rw [← he] at ev HN HT HO
      simp only [← he] at cT
      clear he
      obtain ⟨C, hC⟩ : ∃ C, C = codeIn m e := ⟨_, rfl⟩
      rw [← hC] at HN HT
      simp only [← hC] at cT
      clear hC
      obtain ⟨D, hD⟩ : ∃ D, D = stepS m e := ⟨_, rfl⟩
      rw [← hD] at HN HT HO
      simp only [← hD] at cT
      clear hD
      obtain ⟨ek, eg, ej, ew, el, ez, ef, et⟩ := e
      obtain ⟨c0, c1, c2, c3, c4, c5, c6, c7⟩ := ev
      simp only at cT c0 c1 c2 c3 c4 c5 c6 c7
      have fV := Fr.alloc wr (.cells #[.int .i64 ek, .int .i64 eg, .int .i64 ej, .int .i64 ew, .int .i64 el, .int .i64 ez, .int .i64 ef, .int .i64 et] 31)
      have kE := EvAt.new wr ⟨ek, eg, ej, ew, el, ez, ef, et⟩ 31
      have cT := cT _ fV
      have y2 := fV.cell x2
      have hpl := hP.lt
      have hrl := hRt _ hR
      have HR : Hid (∀ u2 x, On b b1 b2 b3 b4 x → (wr.alloc (.cells #[.int .i64 ek, .int .i64 eg, .int .i64 ej, .int .i64 ew, .int .i64 el, .int .i64 ez, .int .i64 ef, .int .i64 et] 31)).grownBy u2 (some x) → Rec u2 ∧ PartAt u2 pb k 0 b ∧ FrS (Kept b b1 b2 b3 b4 pb l) W u2) := by
        intro u2 x ox g2
        have f1 : FrS (On b b1 b2 b3 b4) wr u2 := fV.toS.trans (grown_toS g2 ox)
        refine ⟨hRl wr u2 hR (f1.block _ (by omega) (fun q => ?_)) (f1.block _ hrl (fun q => ?_)), hP.keepS f1 (fun q => ?_), hF.trans ⟨f1.os, f1.tape, f1.output, f1.size, fun i hi hs => f1.block i hi (fun q => hs (.inl q))⟩⟩
        · simp only [On] at q; omega
        · simp only [On] at q; omega
        · simp only [On] at q; omega
      clear x3 hB hP hR
      have hft : Fence.wide.fn 40 := trivial
      gi_wp2_with (gi_at_call 40; refine (callsIn_wide.2 cT).mono ?_; rintro y u2 ⟨rfl, B2, x, ox, g2⟩; obtain ⟨r2, p2, F2⟩ := HR.out u2 x ox g2; obtain ⟨fn, tmps, assign, body, hy, hRd⟩ := hY C u2 r2 ⟨k, 0, p2, by omega, by omega⟩)
      refine hRd.mono ?_
      rintro y W3 ⟨rfl, r3, h3⟩
      obtain ⟨p3, f3⟩ := h3 k 0 p2
      have F3 : FrS (Kept b b1 b2 b3 b4 pb l) W W3 := F2.trans ⟨f3.os, f3.tape, f3.output, f3.size, fun i hi hs => f3.block i hi (fun q => hs (.inr q))⟩
      have B3 := B2.keepS f3 (fun x q => ⟨fun q2 => by simp only [On] at q2; omega, by omega, by omega⟩)
      clear h3 hRd hy f3 F2 B2 p2 r2 cT y2 g2 ox HR
      by_cases hc : C = 0
      · have hcb : (C != 0) = false := by simp [hc]
        have HP : Hid (PartAt W3 pb ((k + 1 : Nat) : Int) 0 b) := by
          rw [if_pos hc, hc] at p3
          exact p3
        have HL : Hid (LegAt es (k + 1) D ∧ scB D = true) := ⟨HN.out hc, HO.out⟩
        clear p3 hc HN HT HO
        gi_wp2
        go_roundw
        case rel => exact ⟨k + 1, D, by omega, by go_num, HL, B3, HP, r3, F3⟩
        case measure => simp [intOf]; omega
      · have hcb : (C != 0) = true := by simpa using hc
        have HT := HT.out hc
        have HT : Hid (legS scn0 es = (D, k, C)) := HT
        rw [if_neg hc] at p3
        clear hc HN HO
        gi_wp2
        refine bodyPost_ret (results_none rfl _ _ _) rfl ?_
        refine ⟨⟨_, rfl⟩, r3, ?_, ?_, F3⟩
        · rw [HT.out]; exact p3
        · rw [HT.out]; exact B3.mono (by omega)
    · have hke : k = es.length := by omega
      have HT : Hid (legS scn0 es = (m, es.length, 0)) := LegAt.done (by rw [← hke]; exact HL.out.1)
      clear HL
      gi_wp2
      go_end0
      refine ⟨⟨_, rfl⟩, hR, ?_, ?_, hF⟩
      · rw [HT.out, ← hke]; exact hP
      · rw [HT.out]; exact hB.mono (by omega)
end Go.Proofs.YtikjodbboljhjaaGreatDoor
