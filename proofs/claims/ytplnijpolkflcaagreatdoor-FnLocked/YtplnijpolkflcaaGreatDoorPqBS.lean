/-
  Pack BS: ScTrace, ScTrace2, LawT.
-/
import Derived.Test.YtplnijpolkflcaaGreatDoorPqBR
import Derived.Test.YtplnijpolkflcaaGreatDoorPqBP
import Derived.Test.YtplnijpolkflcaaGreatDoorPqBE
import Derived.Test.YtplnijpolkflcaaGreatDoorPqBG
namespace Go.Proofs.YtplnijpolkflcaaGreatDoor
open Go.RowKit

set_option maxHeartbeats 1000000 in
theorem specAfterB_any (ao : Option Addr) (n c : Nat) (es : List Ev) (w : World) (hn : es.length = n) (h : ReadsE w ao es) :
    Calls Tryz.prog 69 #[.slice ao n c] w fun x w' => ∃ (s : Sv) (B : Nat → Prop), x = .returned (.tuple #[.agg #[.int .i64 s.g, .slice s.lo s.ll s.lc, .slice s.co s.cl s.cc, .slice s.no s.nl s.nc, .slice s.oo s.ol s.oc], .bool (aftB es)]) ∧ ScR B w' s (aftS es) ∧ Fr w w' ∧ ∀ b, B b → w.heap.size ≤ b ∧ b < w'.heap.size := by
  have f0 := Fr.alloc w (.cells #[.int .i64 0, .slice none 0 0, .slice none 0 0, .slice none 0 0, .slice none 0 0] 29)
  have k0 := ScK.new w ⟨0, none, 0, 0, none, 0, 0, none, 0, 0, none, 0, 0⟩
  simp only at k0
  subst hn
  by_cases hb : es.length ≤ 300
  · have cP := l5Scene_any ao es.length c es _ rfl (h.fr f0)
    have e1 : aftS es = (legS scn0 es).1 := if_neg (by omega)
    have e3 : aftB es = decide ((legS scn0 es).2.2 = 0) := if_neg (by omega)
    have hlc := leg_code es scn0
    have e2 : (es.length : Int) ≤ 300 := by omega
    rw [e1, e3]
    clear e1 e3 h
    obtain ⟨L, hL⟩ : ∃ L : Nat, L = (legS scn0 es).2.1 := ⟨_, rfl⟩
    obtain ⟨q, hq⟩ : ∃ z : Int, z = (legS scn0 es).2.2 := ⟨_, rfl⟩
    obtain ⟨M, hM⟩ : ∃ z, z = (legS scn0 es).1 := ⟨_, rfl⟩
    simp only [← hL, ← hq, ← hM] at cP hlc
    rw [← hq, ← hM]
    clear hL hq hM hb
    have hbb : ((L : Int) == (es.length : Int)) = decide (q = 0) := by
      by_cases q0 : q = 0
      · have := hlc.1 q0
        simp [q0, this]
      · have : ¬ ((L : Int) = (es.length : Int)) := fun e => q0 (hlc.2 (by omega))
        simp [q0, this]
    clear hlc
    go_enter Tryz.func69, Tryz.ntmps69
    go_wp2_with fail
    refine (cP).mono ?_
    rintro e u1 ⟨⟨sg, lo, ll, lc, co, cl, cc, no, nl, nc, oo, ol, oc⟩, B, rfl, S1, hB, f1⟩
    have fA := Fr.alloc u1 (.cells #[.int .i64 sg, .slice lo ll lc, .slice co cl cc, .slice no nl nc, .slice oo ol oc] 29)
    have kr := k0.fr (f1.trans fA)
    have F1 := f0.trans (f1.trans fA)
    have S2 := S1.fr fA
    have hsz := f0.size
    have hkl := k0.lt
    obtain ⟨j0, j1, j2, j3, j4⟩ := kr.at
    simp only at j0 j1 j2 j3 j4
    have jf := fun i => kr.free i
    have HS2 : Hid _ := S2
    have HB : Hid (∀ b, B b → w.heap.size < b ∧ b < u1.heap.size) := fun b q => by have := hB b q; exact ⟨by omega, this.2⟩
    clear S1 S2 hB cP k0 kr fA f1 f0
    go_wp2_with fail
    have k5 := put5 (u1.alloc (.cells #[.int .i64 sg, .slice lo ll lc, .slice co cl cc, .slice no nl nc, .slice oo ol oc] 29)) w.heap.size (.int .i64 sg) (.slice lo ll lc) (.slice co cl cc) (.slice no nl nc) (.slice oo ol oc)
    refine bodyPost_ret (v := .tuple #[.agg #[.int .i64 sg, .slice lo ll lc, .slice co cl cc, .slice no nl nc, .slice oo ol oc], .bool (decide (q = 0))]) (by simp [results, Tryz.results69, go_sem, j0, j1, j2, j3, j4]) rfl ⟨⟨sg, lo, ll, lc, co, cl, cc, no, nl, nc, oo, ol, oc⟩, B, rfl, ?_, ?_, fun b q => ⟨Nat.le_of_lt (HB.out b q).1, ?_⟩⟩
    · exact HS2.out.keep k5 (fun x hx => by cases hx; exact fun q => by have := (HB.out _ q).1; omega)
    · exact F1.then k5 (fun j hj => by simp only [Option.some.injEq] at hj; omega)
    · have q2 := (HB.out b q).2
      have z5 := k5.size
      have zA := (Fr.alloc u1 (.cells #[.int .i64 sg, .slice lo ll lc, .slice co cl cc, .slice no nl nc, .slice oo ol oc] 29)).size
      exact Nat.lt_of_lt_of_le q2 (Nat.le_trans zA z5)
  · have e1 : aftS es = ⟨0, [], [], [], []⟩ := if_pos (by omega)
    have e3 : aftB es = false := if_pos (by omega)
    have e2 : 300 < (es.length : Int) := by omega
    rw [e1, e3]
    clear e1 e3 h hb
    go_enter Tryz.func69, Tryz.ntmps69
    go_wp2_with fail
    refine bodyPost_ret (v := .tuple #[.agg #[.int .i64 0, .slice none 0 0, .slice none 0 0, .slice none 0 0, .slice none 0 0], .bool false]) (by simp [results, Tryz.results69, go_sem]) rfl ⟨⟨0, none, 0, 0, none, 0, 0, none, 0, 0, none, 0, 0⟩, (fun _ => False), rfl, scR_zero _ _, f0, fun b q => q.elim⟩
theorem DX.self {w u : World} {d n cap : Nat} {ao : Option Addr} (h : DX w u d ao n cap) : DX u u d ao n cap := ⟨grown_refl u _, h.dice, h.row, h.ap⟩
theorem DX.on {w u u' : World} {d n cap : Nat} {ao : Option Addr} (h : DX w u d ao n cap) (k : DX u u' d ao n cap) : DX w u' d ao n cap := ⟨grown_trans h.g k.g, k.dice, k.row, k.ap⟩
theorem leg_snoc {e : Ev} : ∀ (es : List Ev) (m0 m : Scn), legS m0 es = (m, es.length, 0) → codeIn m e = 0 → legS m0 (es ++ [e]) = (doS m e, es.length + 1, 0)
  | [], m0, m, h, hc => by
    simp only [legS, Prod.mk.injEq] at h
    obtain ⟨rfl, -⟩ := h
    simp [legS, hc]
  | x :: es, m0, m, h, hc => by
    by_cases q : codeIn m0 x = 0
    · rw [leg_go q] at h
      simp only [Prod.mk.injEq, List.length_cons] at h
      have h2 : legS (doS m0 x) es = (m, es.length, 0) := by
        refine Prod.ext h.1 (Prod.ext ?_ h.2.2)
        have := h.2.1
        simp only
        omega
      rw [List.cons_append, leg_go q, leg_snoc es _ m h2 hc]
      simp
    · rw [leg_no q] at h
      simp at h
theorem do_g (m : Scn) (e : Ev) : m.g ≤ (doS m e).g := by
  unfold doS
  split
  · simp only; omega
  · split
    · exact Int.le_refl _
    · split
      · exact Int.le_refl _
      · split
        · exact Int.le_refl _
        · split
          · exact Int.le_refl _
          · split
            · exact Int.le_refl _
            · exact Int.le_refl _
def es0 : List Ev := [⟨1, 0, 1, 0, 0, 0, 0, 0⟩, ⟨1, 0, 2, 0, 0, 0, 0, 0⟩]
theorem leg_es0 : legS scn0 es0 = (⟨3, [], [], [], []⟩, 2, 0) := by rfl

def LowL (m : Scn) : Prop := ∀ l ∈ m.ls, l.o ≤ 1
theorem lockOf_o (ls : List Lk) (o : Int) : (lockOf ls o).o = o := by
  unfold lockOf
  cases h : ls.find? (fun l => l.o == o) with
  | none => rfl
  | some l => simpa using List.find?_some h
theorem lockTo_o (m : Scn) (e : Ev) : (lockTo m e).o = e.o := by
  unfold lockTo
  split
  · exact lockOf_o _ _
  · split
    · exact lockOf_o _ _
    · split
      · exact lockOf_o _ _
      · exact lockOf_o _ _
theorem low_do {m : Scn} {e : Ev} (h : LowL m) (he : LowO e) : LowL (doS m e) := by
  unfold doS
  split
  · exact h
  · split
    · rename_i hk
      intro l hl
      rcases setL_mem Lk.o _ _ _ l hl with q | q
      · exact h l q
      · rw [q, lockTo_o]
        exact he hk.1 hk.2
    · split
      · exact h
      · split
        · exact h
        · split
          · exact h
          · split
            · exact h
            · exact h

structure TX (w : World) (d : Nat) (ao : Option Addr) (n cap : Nat) (sb g lo hi : Nat) (c : Nat) (es : List Ev) (s : Sv) (m : Scn) (wr : World) : Prop where
  dx : DX w wr d ao n cap
  own : wr.ownsRow w.heap.size 31 8 (.slice (some ⟨g, 0, none⟩) es.length c) es.length (es.flatMap evCells)
  sc : ScK wr sb s
  scr : ScR (fun b => lo ≤ b ∧ b < hi) wr s m
  leg : legS scn0 es = (m, es.length, 0)
  three : 3 ≤ m.g
  low : LowL m
  bs : w.heap.size ≤ lo ∧ hi ≤ wr.heap.size ∧ (g < lo ∨ hi ≤ g) ∧ (sb < lo ∨ hi ≤ sb) ∧ w.heap.size ≤ sb ∧ g ≠ sb
theorem TX.fr {w wr w' : World} {d n cap sb g lo hi c : Nat} {ao : Option Addr} {es : List Ev} {s : Sv} {m : Scn} (h : TX w d ao n cap sb g lo hi c es s m wr) (k : Fr wr w') : TX w d ao n cap sb g lo hi c es s m w' :=
  { h with dx := h.dx.fr k, own := h.own.kept k (by simp [Value.ownBlock]), sc := h.sc.fr k, scr := h.scr.fr k, bs := by have := h.bs; have := k.size; omega }
theorem TX.dice {w wr w' : World} {d n cap sb g lo hi c : Nat} {ao : Option Addr} {es : List Ev} {s : Sv} {m : Scn} (h : TX w d ao n cap sb g lo hi c es s m wr) (hd : d < w.heap.size) (k : DX wr w' d ao n cap) : TX w d ao n cap sb g lo hi c es s m w' := by
  have hb := h.bs
  have ho := (h.own.lt g rfl).1
  have hs := k.g.size
  exact { h with dx := h.dx.on k, own := h.own.kept k.g (.inr (by simp only [Value.ownBlock, ne_eq, Option.some.injEq]; omega)), sc := h.sc.keep k.g (by simp only [ne_eq, Option.some.injEq]; omega), scr := h.scr.keep k.g (fun j hj q => by simp only [Option.some.injEq] at hj; omega), bs := by omega }
end Go.Proofs.YtplnijpolkflcaaGreatDoor
namespace Go.Proofs.YtplnijpolkflcaaGreatDoor
open Go.RowKit

theorem ScK.put5 {u : World} {b : Nat} {s : Sv} (h : ScK u b s) (t : Sv) : ScK (((((u.setCell ⟨b, 0, none⟩ (.int .i64 t.g)).setCell ⟨b, 1, none⟩ (.slice t.lo t.ll t.lc)).setCell ⟨b, 2, none⟩ (.slice t.co t.cl t.cc)).setCell ⟨b, 3, none⟩ (.slice t.no t.nl t.nc)).setCell ⟨b, 4, none⟩ (.slice t.oo t.ol t.oc)) b t := by
  have e0 := heap_setCell_same u b 0 _ _ (.int .i64 t.g) h
  have e1 := heap_setCell_same _ b 1 _ _ (.slice t.lo t.ll t.lc) e0
  have e2 := heap_setCell_same _ b 2 _ _ (.slice t.co t.cl t.cc) e1
  have e3 := heap_setCell_same _ b 3 _ _ (.slice t.no t.nl t.nc) e2
  exact heap_setCell_same _ b 4 _ _ (.slice t.oo t.ol t.oc) e3
theorem leg_g {es : List Ev} {m : Scn} (h : legS scn0 es = (m, es.length, 0)) : 1 ≤ m.g ∧ m.g ≤ 16 := by
  have h1 : scB (legS scn0 es).1 = true := leg_ok es scn0 (by decide)
  rw [h] at h1
  have h2 := (scB_parts h1).1
  simpa [inB] using h2

set_option maxRecDepth 20000 in
set_option maxHeartbeats 4000000 in
theorem trace_low {w : World} {d n cap : Nat} {ao : Option Addr} (N : Int) (h : DX w w d ao n cap) (hn : n ≤ 4096) (hN : 1 ≤ N) (hN2 : N ≤ 200) (hb : 0 < n → ∀ q, blk ao = some q → q < w.heap.size) :
    Calls Tryz.prog 21 #[.pointer (some ⟨d, 0, none⟩), .int .i64 N] w fun x w' => ∃ (es : List Ev) (g c : Nat) (m : Scn), x = .returned (.slice (some ⟨g, 0, none⟩) es.length c) ∧ w'.ownsRow w.heap.size 31 8 (.slice (some ⟨g, 0, none⟩) es.length c) es.length (es.flatMap evCells) ∧ LowL m ∧ (legS scn0 es = (m, es.length, 0) ∧ 3 ≤ m.g) ∧ (2 ≤ es.length ∧ es.length ≤ 210) ∧ DX w w' d ao n cap := by
  obtain ⟨i0, x0, hd0⟩ := h.dice
  have hdl : d < w.heap.size := hd0.lt
  have fA := Fr.alloc w (.cells #[.int .i64 1, .int .i64 0, .int .i64 1, .int .i64 0, .int .i64 0, .int .i64 0, .int .i64 0, .int .i64 0, .int .i64 1, .int .i64 0, .int .i64 2, .int .i64 0, .int .i64 0, .int .i64 0, .int .i64 0, .int .i64 0] 31)
  have o0 := World.ownsRow_lit (base := w.heap.size) (e := 31) (size := 8) w #[.int .i64 1, .int .i64 0, .int .i64 1, .int .i64 0, .int .i64 0, .int .i64 0, .int .i64 0, .int .i64 0, .int .i64 1, .int .i64 0, .int .i64 2, .int .i64 0, .int .i64 0, .int .i64 0, .int .i64 0, .int .i64 0] 2 (Nat.le_refl _) (by unfold maxLen; omega) rfl
  have HO0 : Hid ((w.alloc (.cells #[.int .i64 1, .int .i64 0, .int .i64 1, .int .i64 0, .int .i64 0, .int .i64 0, .int .i64 0, .int .i64 0, .int .i64 1, .int .i64 0, .int .i64 2, .int .i64 0, .int .i64 0, .int .i64 0, .int .i64 0, .int .i64 0] 31)).ownsRow w.heap.size 31 8 (.slice (some ⟨w.heap.size, 0, none⟩) es0.length 2) es0.length (es0.flatMap evCells)) := o0
  have cA := specAfterB_any (some ⟨w.heap.size, 0, none⟩) 2 2 es0 (w.alloc (.cells #[.int .i64 1, .int .i64 0, .int .i64 1, .int .i64 0, .int .i64 0, .int .i64 0, .int .i64 0, .int .i64 0, .int .i64 1, .int .i64 0, .int .i64 2, .int .i64 0, .int .i64 0, .int .i64 0, .int .i64 0, .int .i64 0] 31)) rfl (own_readsE HO0.out (by decide))
  have D0 := h.fr fA
  clear h hd0 o0
  go_enter Tryz.func21, Tryz.ntmps21
  go_wp2_with fail
  refine cA.mono ?_
  rintro x u1 ⟨⟨sg, lo, ll, lc, co, cl, cc, no, nl, nc, oo, ol, oc⟩, B, rfl, S1, f1, hB⟩
  have fB := Fr.alloc u1 (.cells #[.int .i64 sg, .slice lo ll lc, .slice co cl cc, .slice no nl nc, .slice oo ol oc] 29)
  have kS := ScK.new u1 ⟨sg, lo, ll, lc, co, cl, cc, no, nl, nc, oo, ol, oc⟩
  simp only at kS
  have hz1 := f1.size
  simp only [World.size_alloc] at hz1 hB
  have hX : TX w d ao n cap u1.heap.size w.heap.size (w.heap.size + 1) u1.heap.size 2 es0 ⟨sg, lo, ll, lc, co, cl, cc, no, nl, nc, oo, ol, oc⟩ ⟨3, [], [], [], []⟩ (u1.alloc (.cells #[.int .i64 sg, .slice lo ll lc, .slice co cl cc, .slice no nl nc, .slice oo ol oc] 29)) :=
    { dx := (D0.fr f1).fr fB
      own := (HO0.out.kept f1 (by simp [Value.ownBlock])).kept fB (by simp [Value.ownBlock])
      sc := kS
      scr := (S1.mono (fun b q => hB b q)).fr fB
      leg := leg_es0
      three := by decide
      low := fun l hl => by simp at hl
      bs := by have := fB.size; omega }
  clear cA S1 hB kS D0 HO0 fA f1 fB hz1
  go_wp2_with fail
  obtain ⟨V, hV⟩ : ∃ V, V = u1.alloc (.cells #[.int .i64 sg, .slice lo ll lc, .slice co cl cc, .slice no nl nc, .slice oo ol oc] 29) := ⟨_, rfl⟩
  rw [← hV] at hX ⊢
  obtain ⟨sb, hsb⟩ : ∃ sb, sb = u1.heap.size := ⟨_, rfl⟩
  rw [← hsb] at hX ⊢
  clear hV hsb
  refine (belowX hX.dx hn N hN (by omega)).mono ?_
  rintro x u2 ⟨r, rfl, r0, r1, g2, D2⟩
  have hX := hX.dice hdl ⟨g2, D2.dice, D2.row, D2.ap⟩
  obtain ⟨k0, hk0⟩ : ∃ k0 : Nat, r + 2 = k0 := ⟨(r + 2).toNat, by omega⟩
  have hwr : IntKind.i64.wrap (r + 2) = (k0 : Int) := by rw [IntKind.wrap_i64]; omega
  have hkb : k0 ≤ 202 := by omega
  clear g2 D2 hk0 r0 r1
  go_wp2_with fail
  go_loopw [1, 5] (fun c l wr => ∃ (k : Nat) (es : List Ev) (g c' lo hi : Nat) (s : Sv) (m : Scn), c = .int .i64 k ∧ k ≤ 202 ∧ l = .slice (some ⟨g, 0, none⟩) es.length c' ∧ Hid (TX w d ao n cap sb g lo hi c' es s m wr) ∧ Hid (2 ≤ es.length ∧ es.length + k ≤ 204)) (fun c _ _ => (intOf c).toNat)
  case atStart => exact ⟨k0, es0, w.heap.size, 2, _, _, _, _, rfl, hkb, rfl, hX, ⟨by decide, by simp [es0]; omega⟩⟩
  case round =>
    clear hX hwr
    obtain ⟨k, es, g, c', lo1, hi1, ⟨sg, lo, ll, lc, co, cl, cc, no, nl, nc, oo, ol, oc⟩, m, rfl, hk, rfl, HX, HL⟩ := hrel
    by_cases hk0 : k = 0
    · subst hk0
      go_wp2_with fail
      go_ret
      exact ⟨es, g, c', m, rfl, HX.out.own, HX.out.low, ⟨HX.out.leg, HX.out.three⟩, ⟨HL.out.1, by have := HL.out.2; omega⟩, HX.out.dx⟩
    · have hkp : (0 : Int) < k := by omega
      have hX := HX.out
      have hsg : sg = m.g := hX.scr.g
      have hGb := leg_g hX.leg
      obtain ⟨s0, s1, s2, s3, s4⟩ := hX.sc.at
      simp only at s0 s1 s2 s3 s4
      have hwk : IntKind.i64.wrap ((k : Int) - 1) = ((k - 1 : Nat) : Int) := by rw [IntKind.wrap_i64]; omega
      have cC := chance_any sg hX.dx.self hn (by omega) (by omega) (fun q p hp => by have := hb q p hp; have := hX.dx.g.size; omega)
      have HSG : Hid (sg = m.g) := hsg
      clear hX hsg hGb hk0
      go_wp2_with fail
      refine cC.mono ?_
      rintro x u3 ⟨⟨ek, eg, eo, ew, el, ez, ef, et⟩, rfl, LO, D3⟩
      have LO : Hid _ := LO
      clear cC s0 s1 s2 s3 s4
      have HX3 : Hid (TX w d ao n cap sb g lo1 hi1 c' es ⟨sg, lo, ll, lc, co, cl, cc, no, nl, nc, oo, ol, oc⟩ m (u3.alloc (.cells #[.int .i64 ek, .int .i64 eg, .int .i64 eo, .int .i64 ew, .int .i64 el, .int .i64 ez, .int .i64 ef, .int .i64 et] 31))) := (HX.out.dice hdl D3).fr (Fr.alloc _ _)
      have kE := EvB.new u3 ⟨ek, eg, eo, ew, el, ez, ef, et⟩
      simp only at kE
      clear HX D3
      obtain ⟨s0, s1, s2, s3, s4⟩ := HX3.out.sc.at
      simp only at s0 s1 s2 s3 s4
      obtain ⟨c0, c1, c2, c3, c4, c5, c6, c7⟩ := kE.at
      simp only at c0 c1 c2 c3 c4 c5 c6 c7
      by_cases h5 : 5 ≤ sg
      · by_cases h1 : ek = 1
        · subst h1
          go_wp2_with fail
          go_roundw
          case rel => exact ⟨k - 1, es, g, c', lo1, hi1, _, m, rfl, by omega, rfl, HX3, ⟨HL.out.1, by have := HL.out.2; omega⟩⟩
          case measure => simp [intOf]; omega
        · have hb1 : (ek == 1) = false := by simp [h1]
          go_wp2_with fail
          obtain ⟨V3, hV3⟩ : ∃ V, V = u3.alloc (.cells #[.int .i64 ek, .int .i64 eg, .int .i64 eo, .int .i64 ew, .int .i64 el, .int .i64 ez, .int .i64 ef, .int .i64 et] 31) := ⟨_, rfl⟩
          rw [← hV3] at HX3 kE ⊢
          obtain ⟨eb, heb⟩ : ∃ eb, eb = u3.heap.size := ⟨_, rfl⟩
          rw [← heb] at kE ⊢
          clear hV3 heb s0 s1 s2 s3 s4 c0 c1 c2 c3 c4 c5 c6 c7
          have cD := specDone_any ⟨sg, lo, ll, lc, co, cl, cc, no, nl, nc, oo, ol, oc⟩ m ⟨ek, eg, eo, ew, el, ez, ef, et⟩ V3 HX3.out.scr
          simp only at cD
          refine cD.mono ?_
          rintro x u4 ⟨⟨pg, plo, pll, plc, pco, pcl, pcc, pno, pnl, pnc, poo, pol, poc⟩, rfl, S4, f4⟩
          clear cD
          have fX := Fr.alloc u4 (.cells #[.int .i64 pg, .slice plo pll plc, .slice pco pcl pcc, .slice pno pnl pnc, .slice poo pol poc] 29)
          have kX := ScK.new u4 ⟨pg, plo, pll, plc, pco, pcl, pcc, pno, pnl, pnc, poo, pol, poc⟩
          simp only at kX
          have F4 := f4.trans fX
          have hebl := kE.lt
          have kE4 := kE.keep F4 (by simp)
          have HX4 : Hid (TX w d ao n cap sb g lo1 hi1 c' es ⟨sg, lo, ll, lc, co, cl, cc, no, nl, nc, oo, ol, oc⟩ m (u4.alloc (.cells #[.int .i64 pg, .slice plo pll plc, .slice pco pcl pcc, .slice pno pnl pnc, .slice poo pol poc] 29))) := HX3.out.fr F4
          obtain ⟨C, hC⟩ : ∃ C, C = codeIn m ⟨ek, eg, eo, ew, el, ez, ef, et⟩ := ⟨_, rfl⟩
          rw [← hC]
          have HC : Hid (C = codeIn m ⟨ek, eg, eo, ew, el, ez, ef, et⟩) := hC
          clear hC
          by_cases hC0 : C = 0
          · have hcb : (C == 0) = true := by simp [hC0]
            have HC0 : Hid (codeIn m ⟨ek, eg, eo, ew, el, ez, ef, et⟩ = 0) := HC.out.symm.trans hC0
            clear hC0
            have z4 := f4.size
            obtain ⟨c0, c1, c2, c3, c4, c5, c6, c7⟩ := kE4.at
            simp only at c0 c1 c2 c3 c4 c5 c6 c7
            have hbx := HX4.out.bs
            have hbv := HX3.out.bs
            have hog := HX3.out.own.lt g rfl
            have hsl := HX3.out.sc.lt
            have fY := Fr.alloc (u4.alloc (.cells #[.int .i64 pg, .slice plo pll plc, .slice pco pcl pcc, .slice pno pnl pnc, .slice poo pol poc] 29)) (.cells #[.int .i64 ek, .int .i64 eg, .int .i64 eo, .int .i64 ew, .int .i64 el, .int .i64 ez, .int .i64 ef, .int .i64 et] 31)
            have HO : Hid (OwnE ((u4.alloc (.cells #[.int .i64 pg, .slice plo pll plc, .slice pco pcl pcc, .slice pno pnl pnc, .slice poo pol poc] 29)).alloc (.cells #[.int .i64 ek, .int .i64 eg, .int .i64 eo, .int .i64 ew, .int .i64 el, .int .i64 ez, .int .i64 ef, .int .i64 et] 31)) w.heap.size (.slice (some ⟨g, 0, none⟩) es.length c') es) := ⟨g, c', rfl, (HX4.out.fr fY).own, by have := HL.out; omega⟩
            have HE : Hid (EvC ((u4.alloc (.cells #[.int .i64 pg, .slice plo pll plc, .slice pco pcl pcc, .slice pno pnl pnc, .slice poo pol poc] 29)).alloc (.cells #[.int .i64 ek, .int .i64 eg, .int .i64 eo, .int .i64 ew, .int .i64 el, .int .i64 ez, .int .i64 ef, .int .i64 et] 31)) (u4.heap.size + 1) 0 ⟨ek, eg, eo, ew, el, ez, ef, et⟩) := by
              have q := EvB.new (u4.alloc (.cells #[.int .i64 pg, .slice plo pll plc, .slice pco pcl pcc, .slice pno pnl pnc, .slice poo pol poc] 29)) ⟨ek, eg, eo, ew, el, ez, ef, et⟩
              simp only [World.size_alloc] at q
              obtain ⟨d0, d1, d2, d3, d4, d5, d6, d7⟩ := q.at
              exact ⟨d0, d1, d2, d3, d4, d5, d6, d7⟩
            have HKX : Hid (ScK ((u4.alloc (.cells #[.int .i64 pg, .slice plo pll plc, .slice pco pcl pcc, .slice pno pnl pnc, .slice poo pol poc] 29)).alloc (.cells #[.int .i64 ek, .int .i64 eg, .int .i64 eo, .int .i64 ew, .int .i64 el, .int .i64 ez, .int .i64 ef, .int .i64 et] 31)) u4.heap.size ⟨pg, plo, pll, plc, pco, pcl, pcc, pno, pnl, pnc, poo, pol, poc⟩) := kX.fr fY
            have HS4 : Hid (ScR (fun x => V3.heap.size ≤ x ∧ x < u4.heap.size) ((u4.alloc (.cells #[.int .i64 pg, .slice plo pll plc, .slice pco pcl pcc, .slice pno pnl pnc, .slice poo pol poc] 29)).alloc (.cells #[.int .i64 ek, .int .i64 eg, .int .i64 eo, .int .i64 ew, .int .i64 el, .int .i64 ez, .int .i64 ef, .int .i64 et] 31)) ⟨pg, plo, pll, plc, pco, pcl, pcc, pno, pnl, pnc, poo, pol, poc⟩ (doneS m ⟨ek, eg, eo, ew, el, ez, ef, et⟩)) := (S4.fr fX).fr fY
            have HXY : Hid (TX w d ao n cap sb g lo1 hi1 c' es ⟨sg, lo, ll, lc, co, cl, cc, no, nl, nc, oo, ol, oc⟩ m ((u4.alloc (.cells #[.int .i64 pg, .slice plo pll plc, .slice pco pcl pcc, .slice pno pnl pnc, .slice poo pol poc] 29)).alloc (.cells #[.int .i64 ek, .int .i64 eg, .int .i64 eo, .int .i64 ew, .int .i64 el, .int .i64 ez, .int .i64 ef, .int .i64 et] 31))) := HX4.out.fr fY
            have HZY : Hid (((u4.alloc (.cells #[.int .i64 pg, .slice plo pll plc, .slice pco pcl pcc, .slice pno pnl pnc, .slice poo pol poc] 29)).alloc (.cells #[.int .i64 ek, .int .i64 eg, .int .i64 eo, .int .i64 ew, .int .i64 el, .int .i64 ez, .int .i64 ef, .int .i64 et] 31)).heap.size = u4.heap.size + 2) := by simp [Hid]
            have hwz : w.heap.size ≤ u4.heap.size + 2 := by omega
            have hel : es.length ≤ 16777215 := by have := HL.out; omega
            clear S4 fX fY F4 f4 kX kE kE4 HX4
            go_wp2_with (at_builtin; refine appE _ rfl _ _ rfl w.heap.size (.slice (some ⟨g, 0, none⟩) es.length c') es ⟨ek, eg, eo, ew, el, ez, ef, et⟩ rfl HO.out (u4.heap.size + 1) 1 rfl HE.out hel (by rw [HZY.out]; exact hwz) ?_; intro v5 w5 hv5 hg5 hat5; have kx5 := ScK.keep HKX.out hg5 (by simp only [Value.ownBlock, ne_eq, Option.some.injEq]; omega); have ks5 := ScK.keep HXY.out.sc hg5 (by simp only [Value.ownBlock, ne_eq, Option.some.injEq]; omega); obtain ⟨x0, x1, x2, x3, x4⟩ := kx5.at; obtain ⟨t0, t1, t2, t3, t4⟩ := ks5.at; have tf := fun i => ks5.free i; simp only at x0 x1 x2 x3 x4 t0 t1 t2 t3 t4)
            obtain ⟨g5, c5, rfl, ho5, hl5⟩ := hv5
            have hat6 : g5 = g ∨ g5 = u4.heap.size + 2 := by
              simp only [Value.ownBlock, Option.some.injEq] at hat5
              rw [HZY.out] at hat5
              exact hat5
            have k6 := put5 w5 sb (.int .i64 pg) (.slice plo pll plc) (.slice pco pcl pcc) (.slice pno pnl pnc) (.slice poo pol poc)
            have z5 := hg5.size
            rw [HZY.out] at z5
            have z6 := k6.size
            have hl1 : (es ++ [(⟨ek, eg, eo, ew, el, ez, ef, et⟩ : Ev)]).length = es.length + 1 := by simp
            have hn5 : (⟨ek, eg, eo, ew, el, ez, ef, et⟩ : Ev) = ⟨ek, eg, eo, ew, el, ez, ef, et⟩ := rfl
            have hok := (code_parts HC0.out).2.1
            have hnew : TX w d ao n cap sb g5 V3.heap.size u4.heap.size c5 (es ++ [⟨ek, eg, eo, ew, el, ez, ef, et⟩]) ⟨pg, plo, pll, plc, pco, pcl, pcc, pno, pnl, pnc, poo, pol, poc⟩ (doneS m ⟨ek, eg, eo, ew, el, ez, ef, et⟩) (((((w5.setCell ⟨sb, 0, none⟩ (.int .i64 pg)).setCell ⟨sb, 1, none⟩ (.slice plo pll plc)).setCell ⟨sb, 2, none⟩ (.slice pco pcl pcc)).setCell ⟨sb, 3, none⟩ (.slice pno pnl pnc)).setCell ⟨sb, 4, none⟩ (.slice poo pol poc)) :=
              { dx := (DX.past (A := g) HXY.out.dx hg5 ⟨by omega, by omega⟩ hb).past k6 ⟨by omega, by omega⟩ hb
                own := ho5.kept k6 (.inr (by simp only [Value.ownBlock, ne_eq, Option.some.injEq]; omega))
                sc := ks5.put5 ⟨pg, plo, pll, plc, pco, pcl, pcc, pno, pnl, pnc, poo, pol, poc⟩
                scr := (HS4.out.keep hg5 (fun j hj q => by simp only [Value.ownBlock, Option.some.injEq] at hj; omega)).keep k6 (fun j hj q => by simp only [Option.some.injEq] at hj; omega)
                leg := by rw [done_yes hok HC0.out, hl1]; exact leg_snoc es scn0 m HXY.out.leg HC0.out
                three := by rw [done_yes hok HC0.out]; have := do_g m ⟨ek, eg, eo, ew, el, ez, ef, et⟩; have := HXY.out.three; omega
                low := by rw [done_yes hok HC0.out]; exact low_do HXY.out.low LO.out
                bs := by omega }
            go_roundw
            case rel => exact ⟨k - 1, es ++ [(⟨ek, eg, eo, ew, el, ez, ef, et⟩ : Ev)], g5, c5, V3.heap.size, u4.heap.size, ⟨pg, plo, pll, plc, pco, pcl, pcc, pno, pnl, pnc, poo, pol, poc⟩, doneS m ⟨ek, eg, eo, ew, el, ez, ef, et⟩, rfl, by omega, by rw [hl1], hnew, ⟨by have := HL.out; rw [hl1]; omega, by have := HL.out; rw [hl1]; omega⟩⟩
            case measure => simp [intOf]; omega
          · have hcb : (C == 0) = false := by simpa using hC0
            go_wp2_with fail
            go_roundw
            case rel => exact ⟨k - 1, es, g, c', lo1, hi1, _, m, rfl, by omega, rfl, HX4, ⟨HL.out.1, by have := HL.out.2; omega⟩⟩
            case measure => simp [intOf]; omega
      · have h5' : sg < 5 := by omega
        go_wp2_with fail
        obtain ⟨V3, hV3⟩ : ∃ V, V = u3.alloc (.cells #[.int .i64 ek, .int .i64 eg, .int .i64 eo, .int .i64 ew, .int .i64 el, .int .i64 ez, .int .i64 ef, .int .i64 et] 31) := ⟨_, rfl⟩
        rw [← hV3] at HX3 kE ⊢
        obtain ⟨eb, heb⟩ : ∃ eb, eb = u3.heap.size := ⟨_, rfl⟩
        rw [← heb] at kE ⊢
        clear hV3 heb s0 s1 s2 s3 s4 c0 c1 c2 c3 c4 c5 c6 c7
        have cD := specDone_any ⟨sg, lo, ll, lc, co, cl, cc, no, nl, nc, oo, ol, oc⟩ m ⟨ek, eg, eo, ew, el, ez, ef, et⟩ V3 HX3.out.scr
        simp only at cD
        refine cD.mono ?_
        rintro x u4 ⟨⟨pg, plo, pll, plc, pco, pcl, pcc, pno, pnl, pnc, poo, pol, poc⟩, rfl, S4, f4⟩
        clear cD
        have fX := Fr.alloc u4 (.cells #[.int .i64 pg, .slice plo pll plc, .slice pco pcl pcc, .slice pno pnl pnc, .slice poo pol poc] 29)
        have kX := ScK.new u4 ⟨pg, plo, pll, plc, pco, pcl, pcc, pno, pnl, pnc, poo, pol, poc⟩
        simp only at kX
        have F4 := f4.trans fX
        have hebl := kE.lt
        have kE4 := kE.keep F4 (by simp)
        have HX4 : Hid (TX w d ao n cap sb g lo1 hi1 c' es ⟨sg, lo, ll, lc, co, cl, cc, no, nl, nc, oo, ol, oc⟩ m (u4.alloc (.cells #[.int .i64 pg, .slice plo pll plc, .slice pco pcl pcc, .slice pno pnl pnc, .slice poo pol poc] 29))) := HX3.out.fr F4
        obtain ⟨C, hC⟩ : ∃ C, C = codeIn m ⟨ek, eg, eo, ew, el, ez, ef, et⟩ := ⟨_, rfl⟩
        rw [← hC]
        have HC : Hid (C = codeIn m ⟨ek, eg, eo, ew, el, ez, ef, et⟩) := hC
        clear hC
        by_cases hC0 : C = 0
        · have hcb : (C == 0) = true := by simp [hC0]
          have HC0 : Hid (codeIn m ⟨ek, eg, eo, ew, el, ez, ef, et⟩ = 0) := HC.out.symm.trans hC0
          clear hC0
          have z4 := f4.size
          obtain ⟨c0, c1, c2, c3, c4, c5, c6, c7⟩ := kE4.at
          simp only at c0 c1 c2 c3 c4 c5 c6 c7
          have hbx := HX4.out.bs
          have hbv := HX3.out.bs
          have hog := HX3.out.own.lt g rfl
          have hsl := HX3.out.sc.lt
          have fY := Fr.alloc (u4.alloc (.cells #[.int .i64 pg, .slice plo pll plc, .slice pco pcl pcc, .slice pno pnl pnc, .slice poo pol poc] 29)) (.cells #[.int .i64 ek, .int .i64 eg, .int .i64 eo, .int .i64 ew, .int .i64 el, .int .i64 ez, .int .i64 ef, .int .i64 et] 31)
          have HO : Hid (OwnE ((u4.alloc (.cells #[.int .i64 pg, .slice plo pll plc, .slice pco pcl pcc, .slice pno pnl pnc, .slice poo pol poc] 29)).alloc (.cells #[.int .i64 ek, .int .i64 eg, .int .i64 eo, .int .i64 ew, .int .i64 el, .int .i64 ez, .int .i64 ef, .int .i64 et] 31)) w.heap.size (.slice (some ⟨g, 0, none⟩) es.length c') es) := ⟨g, c', rfl, (HX4.out.fr fY).own, by have := HL.out; omega⟩
          have HE : Hid (EvC ((u4.alloc (.cells #[.int .i64 pg, .slice plo pll plc, .slice pco pcl pcc, .slice pno pnl pnc, .slice poo pol poc] 29)).alloc (.cells #[.int .i64 ek, .int .i64 eg, .int .i64 eo, .int .i64 ew, .int .i64 el, .int .i64 ez, .int .i64 ef, .int .i64 et] 31)) (u4.heap.size + 1) 0 ⟨ek, eg, eo, ew, el, ez, ef, et⟩) := by
            have q := EvB.new (u4.alloc (.cells #[.int .i64 pg, .slice plo pll plc, .slice pco pcl pcc, .slice pno pnl pnc, .slice poo pol poc] 29)) ⟨ek, eg, eo, ew, el, ez, ef, et⟩
            simp only [World.size_alloc] at q
            obtain ⟨d0, d1, d2, d3, d4, d5, d6, d7⟩ := q.at
            exact ⟨d0, d1, d2, d3, d4, d5, d6, d7⟩
          have HKX : Hid (ScK ((u4.alloc (.cells #[.int .i64 pg, .slice plo pll plc, .slice pco pcl pcc, .slice pno pnl pnc, .slice poo pol poc] 29)).alloc (.cells #[.int .i64 ek, .int .i64 eg, .int .i64 eo, .int .i64 ew, .int .i64 el, .int .i64 ez, .int .i64 ef, .int .i64 et] 31)) u4.heap.size ⟨pg, plo, pll, plc, pco, pcl, pcc, pno, pnl, pnc, poo, pol, poc⟩) := kX.fr fY
          have HS4 : Hid (ScR (fun x => V3.heap.size ≤ x ∧ x < u4.heap.size) ((u4.alloc (.cells #[.int .i64 pg, .slice plo pll plc, .slice pco pcl pcc, .slice pno pnl pnc, .slice poo pol poc] 29)).alloc (.cells #[.int .i64 ek, .int .i64 eg, .int .i64 eo, .int .i64 ew, .int .i64 el, .int .i64 ez, .int .i64 ef, .int .i64 et] 31)) ⟨pg, plo, pll, plc, pco, pcl, pcc, pno, pnl, pnc, poo, pol, poc⟩ (doneS m ⟨ek, eg, eo, ew, el, ez, ef, et⟩)) := (S4.fr fX).fr fY
          have HXY : Hid (TX w d ao n cap sb g lo1 hi1 c' es ⟨sg, lo, ll, lc, co, cl, cc, no, nl, nc, oo, ol, oc⟩ m ((u4.alloc (.cells #[.int .i64 pg, .slice plo pll plc, .slice pco pcl pcc, .slice pno pnl pnc, .slice poo pol poc] 29)).alloc (.cells #[.int .i64 ek, .int .i64 eg, .int .i64 eo, .int .i64 ew, .int .i64 el, .int .i64 ez, .int .i64 ef, .int .i64 et] 31))) := HX4.out.fr fY
          have HZY : Hid (((u4.alloc (.cells #[.int .i64 pg, .slice plo pll plc, .slice pco pcl pcc, .slice pno pnl pnc, .slice poo pol poc] 29)).alloc (.cells #[.int .i64 ek, .int .i64 eg, .int .i64 eo, .int .i64 ew, .int .i64 el, .int .i64 ez, .int .i64 ef, .int .i64 et] 31)).heap.size = u4.heap.size + 2) := by simp [Hid]
          have hwz : w.heap.size ≤ u4.heap.size + 2 := by omega
          have hel : es.length ≤ 16777215 := by have := HL.out; omega
          clear S4 fX fY F4 f4 kX kE kE4 HX4
          go_wp2_with (at_builtin; refine appE _ rfl _ _ rfl w.heap.size (.slice (some ⟨g, 0, none⟩) es.length c') es ⟨ek, eg, eo, ew, el, ez, ef, et⟩ rfl HO.out (u4.heap.size + 1) 1 rfl HE.out hel (by rw [HZY.out]; exact hwz) ?_; intro v5 w5 hv5 hg5 hat5; have kx5 := ScK.keep HKX.out hg5 (by simp only [Value.ownBlock, ne_eq, Option.some.injEq]; omega); have ks5 := ScK.keep HXY.out.sc hg5 (by simp only [Value.ownBlock, ne_eq, Option.some.injEq]; omega); obtain ⟨x0, x1, x2, x3, x4⟩ := kx5.at; obtain ⟨t0, t1, t2, t3, t4⟩ := ks5.at; have tf := fun i => ks5.free i; simp only at x0 x1 x2 x3 x4 t0 t1 t2 t3 t4)
          obtain ⟨g5, c5, rfl, ho5, hl5⟩ := hv5
          have hat6 : g5 = g ∨ g5 = u4.heap.size + 2 := by
            simp only [Value.ownBlock, Option.some.injEq] at hat5
            rw [HZY.out] at hat5
            exact hat5
          have k6 := put5 w5 sb (.int .i64 pg) (.slice plo pll plc) (.slice pco pcl pcc) (.slice pno pnl pnc) (.slice poo pol poc)
          have z5 := hg5.size
          rw [HZY.out] at z5
          have z6 := k6.size
          have hl1 : (es ++ [(⟨ek, eg, eo, ew, el, ez, ef, et⟩ : Ev)]).length = es.length + 1 := by simp
          have hn5 : (⟨ek, eg, eo, ew, el, ez, ef, et⟩ : Ev) = ⟨ek, eg, eo, ew, el, ez, ef, et⟩ := rfl
          have hok := (code_parts HC0.out).2.1
          have hnew : TX w d ao n cap sb g5 V3.heap.size u4.heap.size c5 (es ++ [⟨ek, eg, eo, ew, el, ez, ef, et⟩]) ⟨pg, plo, pll, plc, pco, pcl, pcc, pno, pnl, pnc, poo, pol, poc⟩ (doneS m ⟨ek, eg, eo, ew, el, ez, ef, et⟩) (((((w5.setCell ⟨sb, 0, none⟩ (.int .i64 pg)).setCell ⟨sb, 1, none⟩ (.slice plo pll plc)).setCell ⟨sb, 2, none⟩ (.slice pco pcl pcc)).setCell ⟨sb, 3, none⟩ (.slice pno pnl pnc)).setCell ⟨sb, 4, none⟩ (.slice poo pol poc)) :=
            { dx := (DX.past (A := g) HXY.out.dx hg5 ⟨by omega, by omega⟩ hb).past k6 ⟨by omega, by omega⟩ hb
              own := ho5.kept k6 (.inr (by simp only [Value.ownBlock, ne_eq, Option.some.injEq]; omega))
              sc := ks5.put5 ⟨pg, plo, pll, plc, pco, pcl, pcc, pno, pnl, pnc, poo, pol, poc⟩
              scr := (HS4.out.keep hg5 (fun j hj q => by simp only [Value.ownBlock, Option.some.injEq] at hj; omega)).keep k6 (fun j hj q => by simp only [Option.some.injEq] at hj; omega)
              leg := by rw [done_yes hok HC0.out, hl1]; exact leg_snoc es scn0 m HXY.out.leg HC0.out
              three := by rw [done_yes hok HC0.out]; have := do_g m ⟨ek, eg, eo, ew, el, ez, ef, et⟩; have := HXY.out.three; omega
              low := by rw [done_yes hok HC0.out]; exact low_do HXY.out.low LO.out
              bs := by omega }
          go_roundw
          case rel => exact ⟨k - 1, es ++ [(⟨ek, eg, eo, ew, el, ez, ef, et⟩ : Ev)], g5, c5, V3.heap.size, u4.heap.size, ⟨pg, plo, pll, plc, pco, pcl, pcc, pno, pnl, pnc, poo, pol, poc⟩, doneS m ⟨ek, eg, eo, ew, el, ez, ef, et⟩, rfl, by omega, by rw [hl1], hnew, ⟨by have := HL.out; rw [hl1]; omega, by have := HL.out; rw [hl1]; omega⟩⟩
          case measure => simp [intOf]; omega
        · have hcb : (C == 0) = false := by simpa using hC0
          go_wp2_with fail
          go_roundw
          case rel => exact ⟨k - 1, es, g, c', lo1, hi1, _, m, rfl, by omega, rfl, HX4, ⟨HL.out.1, by have := HL.out.2; omega⟩⟩
          case measure => simp [intOf]; omega
theorem trace_any {w : World} {d n cap : Nat} {ao : Option Addr} (N : Int) (h : DX w w d ao n cap) (hn : n ≤ 4096) (hN : 1 ≤ N) (hN2 : N ≤ 200) (hb : 0 < n → ∀ q, blk ao = some q → q < w.heap.size) :
    Calls Tryz.prog 21 #[.pointer (some ⟨d, 0, none⟩), .int .i64 N] w fun x w' => ∃ (es : List Ev) (g c : Nat) (m : Scn), x = .returned (.slice (some ⟨g, 0, none⟩) es.length c) ∧ w'.ownsRow w.heap.size 31 8 (.slice (some ⟨g, 0, none⟩) es.length c) es.length (es.flatMap evCells) ∧ (legS scn0 es = (m, es.length, 0) ∧ 3 ≤ m.g) ∧ (2 ≤ es.length ∧ es.length ≤ 210) ∧ DX w w' d ao n cap := by
  refine (trace_low N h hn hN hN2 hb).mono ?_
  rintro x w' ⟨es, g, c, m, h1, h2, -, h3, h4, h5⟩
  exact ⟨es, g, c, m, h1, h2, h3, h4, h5⟩
end Go.Proofs.YtplnijpolkflcaaGreatDoor
namespace Go.Proofs.YtplnijpolkflcaaGreatDoor
open Go.RowKit

set_option maxHeartbeats 400000 in
theorem has_any (ao : Option Addr) (n cap : Nat) (xs : List Int) (x : Int) (w : World) (hn : xs.length = n) (h : Reads w ao xs) :
    Calls Tryz.prog 26 #[.slice ao n cap, .int .i64 x] w fun e w' => e = .returned (.bool (memB xs x)) ∧ w' = w := by
  subst hn
  have hl := h.len
  go_enter Tryz.func26, Tryz.ntmps26
  go_wp2
  go_loop [5] (fun i => ∃ k : Nat, k ≤ xs.length ∧ i = .int .i64 k ∧ Hid (∀ j, j < k → xs.getD j 0 ≠ x)) (fun i => xs.length - (intOf i).toNat)
  case atStart => exact ⟨0, Nat.zero_le _, rfl, fun j hj => by omega⟩
  case round =>
    obtain ⟨k, hk, rfl, HA⟩ := hrel
    by_cases hlt : k < xs.length
    · obtain ⟨b, off, rfl, hc⟩ := h.at_ k hlt
      have hck := hc k hlt
      rw [getD_at hlt] at hck
      clear hc
      by_cases he : xs[k] = x
      · have hb : (xs[k] == x) = true := beq_iff_eq.2 he
        have HE : Hid (memB xs x = true) := memB_yes hlt he
        clear he
        go_wp2
        go_ret
        exact ⟨ret_bool HE.out.symm, rfl⟩
      · have hb : (xs[k] == x) = false := beq_eq_false_iff_ne.2 he
        have HE : Hid (xs[k] ≠ x) := he
        clear he
        go_wp2
        go_round
        case rel =>
          refine ⟨k + 1, by omega, by go_num, fun j hj => ?_⟩
          by_cases e : j = k
          · subst e; rw [getD_at hlt]; exact HE.out
          · exact HA.out j (by omega)
        case measure => simp [intOf]; omega
    · have HN : Hid (memB xs x = false) := memB_no (fun j hj => HA.out j (by omega))
      go_wp2
      go_ret
      exact ⟨ret_bool HN.out.symm, rfl⟩

theorem gors_of {m : Scn} {e : Ev} (h : codeIn m e = 0) : memB (gorsL e) e.g = true ∧ decide ((gorsL e).length = 2) = decide (e.k = 9) := by
  obtain ⟨h1, -, h3, -⟩ := code_parts h
  unfold gorsL
  rw [if_pos h1]
  by_cases h9 : e.k = 9
  · have hw : e.w ≠ e.g := fun q => h3 (.inr (.inr ⟨h9, .inr q⟩))
    rw [if_neg (by omega)]
    refine ⟨?_, by simp [h9]⟩
    rw [memB, List.any_eq_true]
    by_cases q : e.g ≤ e.w
    · exact ⟨min e.g e.w, by simp, by simp; omega⟩
    · exact ⟨max e.g e.w, by simp, by simp; omega⟩
  · rw [if_pos (.inl h9)]
    exact ⟨by simp [memB], by simp [h9]⟩
end Go.Proofs.YtplnijpolkflcaaGreatDoor
