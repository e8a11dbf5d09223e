/-
  The legal part of a trace: impl.legalPartOf.
-/
import Derived.Test.YtihdablgnmkjnaaGreatDoorPileAP
import Derived.Test.YtihdablgnmkjnaaGreatDoorPileAN
import Derived.Shelf.SlIterI.Nil
import Derived.Ground.GgzProg
import Derived.Test.YtihdablgnmkjnaaGreatDoorPileAE
import Derived.Test.YtihdablgnmkjnaaGreatDoorPileAC
namespace Go.Proofs.YtihdablgnmkjnaaGreatDoor
open Go.RowKit Go.Shelf
attribute [local go_sem] Oper.semAt_some

theorem implNew_any (B : Nat → Prop) (w : World) :
    Calls Tryz.prog 129 #[] w fun e w' => ∃ s : Sv, e = .returned (.agg #[.int .i64 s.g, .slice s.lo s.ll s.lc, .slice s.co s.cl s.cc, .slice s.no s.nl s.nc, .slice s.oo s.ol s.oc]) ∧ ScR B w' s scn0 ∧ Fr w w' := by
  go_enter Tryz.func129, Tryz.ntmps129
  go_wp2
  refine bodyPost_ret (v := .agg #[.int .i64 1, .slice none 0 0, .slice none 0 0, .slice none 0 0, .slice none 0 0]) (by simp [results, Tryz.results129, go_sem]) rfl ⟨⟨1, none, 0, 0, none, 0, 0, none, 0, 0, none, 0, 0⟩, rfl, scR_new _ _, Fr.alloc _ _⟩

/-- The board of a new scene. -/
theorem boardNew_any (s : Sv) (w : World) (h : ScR (fun _ => False) w s scn0) :
    Calls Tryz.prog 40 #[.agg #[.int .i64 s.g, .slice s.lo s.ll s.lc, .slice s.co s.cl s.cc, .slice s.no s.nl s.nc, .slice s.oo s.ol s.oc]] w fun e w' => ∃ b b1 b2 b3 b4, e = .returned (.pointer (some ⟨b, 0, none⟩)) ∧ w.heap.size ≤ b1 ∧ (∀ lo u, Fr w' u → b < lo → lo ≤ u.heap.size → BoardW (0, lo) u b b1 b2 b3 b4 1048576 scn0) ∧ b < w'.heap.size ∧ Fr w w' := by
  obtain ⟨lvs, r1, e1, l1⟩ := h.lks
  refine (boardOf_any s scn0 lvs w h r1 e1 l1).mono ?_
  rintro e w' ⟨b, b1, b2, b3, b4, rfl, ⟨q0, q1, q2, q3, q4⟩, Bd, f⟩
  have M := boardM_of (B := fun _ => False) (by decide) (l1.fr f) h.sl h.sc h.sn h.so Bd
  refine ⟨b, b1, b2, b3, b4, rfl, q0, fun lo u g hl hs => ?_, (Array.getElem?_eq_some_iff.1 Bd.row).1, f⟩
  obtain ⟨fl, p1, p2⟩ := M.m1
  exact ⟨⟨Nat.zero_le _, hl, hs⟩, (g.block b (Array.getElem?_eq_some_iff.1 Bd.row).1 (by simp)).trans Bd.row, ⟨q1, q2, q3, q4⟩, ⟨fl, p1.fr g, fun o => ((p2 o).keep g (by simp)).mono (fun _ q => q.elim)⟩, M.m2.fr g, M.m3.fr g, M.m4.fr g⟩

/-- The iterator's making: two boxes. -/
theorem codes_any (b n c : Nat) (ao : Option Addr) (w : World) :
    Calls Tryz.prog 130 #[.pointer (some ⟨b, 0, none⟩), .slice ao n c] w fun e w' => e = .returned (.func (.func 167) #[] #[.pointer (some ⟨w.heap.size + 1, 0, none⟩), .pointer (some ⟨w.heap.size, 0, none⟩)]) ∧ w' = (w.alloc (.cells #[.pointer (some ⟨b, 0, none⟩)] 77)).alloc (.cells #[.slice ao n c] 39) := by
  go_enter Tryz.func130, Tryz.ntmps130
  go_wp2_with fail
  go_ret
  exact ⟨rfl, rfl⟩

set_option maxRecDepth 20000 in
set_option maxHeartbeats 4000000 in
theorem legalPartOf_any (ao : Option Addr) (n c : Nat) (es : List Ev) (w : World) (hn : es.length = n) (h : ReadsE w ao es) (hl : es.length ≤ 300) (hs : Shapes w) (hab : ∀ k, blk ao = some k → k < w.heap.size) :
    Calls Tryz.prog 63 #[.slice ao n c] w fun x w' => ∃ lo b b1 b2 b3 b4, x = .returned (.agg #[.int .i64 (legS scn0 es).2.1, .int .i64 (legS scn0 es).2.2, .pointer (some ⟨b, 0, none⟩)]) ∧ BoardW lo w' b b1 b2 b3 b4 2000000 (legS scn0 es).1 ∧ w.heap.size ≤ b1 ∧ Fr w w' := by
  subst hn
  have hsh : 0 < w.heap.size := World.block_lt_of_cell? w _ (hs 0 (by omega)).1
  refine (callsIn_wide (n := 6)).1 ?_
  have h1 : Fence.wide.fn 129 := trivial
  have h2 : Fence.wide.fn 40 := trivial
  have h3 : Fence.wide.fn 130 := trivial
  refine callsIn_of_wp_marks Tryz.func63 rfl trivial ?_ rfl
  simp only [Tryz.ntmps63, List.size_toArray, List.length_cons, List.length_nil, Nat.reduceAdd, Nat.reduceSub, Array.replicate_succ, Array.replicate_zero, List.push_toArray, List.append_toArray, List.nil_append, List.cons_append]
  gi_wp2_with (first
    | (gi_at_call 129; refine (callsIn_wide.2 (implNew_any (fun _ => False) _)).mono ?_; rintro x w1 ⟨s, rfl, S1, f1⟩)
    | (gi_at_call 40; refine (callsIn_wide.2 (boardNew_any s _ S1)).mono ?_; rintro x w2 ⟨b, b1, b2, b3, b4, rfl, hb1, hB, hb, f2⟩)
    | (gi_at_call 130; refine (callsIn_wide.2 (codes_any b es.length c ao _)).mono ?_; rintro x w3 ⟨rfl, rfl⟩))
  have f0 := Fr.alloc w (.cells #[.int .i64 0, .int .i64 0, .pointer none] 101)
  have r0 : (w.alloc (.cells #[.int .i64 0, .int .i64 0, .pointer none] 101)).heap[w.heap.size]? = some (.cells #[.int .i64 0, .int .i64 0, .pointer none] 101 (0, 0)) := heap_alloc_new w _
  have r0lt : w.heap.size < (w.alloc (.cells #[.int .i64 0, .int .i64 0, .pointer none] 101)).heap.size := (Array.getElem?_eq_some_iff.1 r0).1
  have g1 := Fr.alloc w2 (.cells #[.int .i64 0, .int .i64 0, .pointer (some ⟨b, 0, none⟩)] 101)
  have g2 := Fr.alloc (w2.alloc (.cells #[.int .i64 0, .int .i64 0, .pointer (some ⟨b, 0, none⟩)] 101)) (.cells #[.pointer (some ⟨b, 0, none⟩)] 77)
  have g3 := Fr.alloc ((w2.alloc (.cells #[.int .i64 0, .int .i64 0, .pointer (some ⟨b, 0, none⟩)] 101)).alloc (.cells #[.pointer (some ⟨b, 0, none⟩)] 77)) (.cells #[.slice ao es.length c] 39)
  have P0 : PartAt (((w2.alloc (.cells #[.int .i64 0, .int .i64 0, .pointer (some ⟨b, 0, none⟩)] 101)).alloc (.cells #[.pointer (some ⟨b, 0, none⟩)] 77)).alloc (.cells #[.slice ao es.length c] 39)) w2.heap.size 0 0 b :=
    ((g2.trans g3).block _ (by simp) (by simp)).trans (heap_alloc_new w2 _)
  have q0 : (((w2.alloc (.cells #[.int .i64 0, .int .i64 0, .pointer (some ⟨b, 0, none⟩)] 101)).alloc (.cells #[.pointer (some ⟨b, 0, none⟩)] 77)).alloc (.cells #[.slice ao es.length c] 39)).cell? ⟨w2.heap.size + 1, 0, none⟩ = some (.pointer (some ⟨b, 0, none⟩)) := by simp [go_sem]
  have x0 : (((w2.alloc (.cells #[.int .i64 0, .int .i64 0, .pointer (some ⟨b, 0, none⟩)] 101)).alloc (.cells #[.pointer (some ⟨b, 0, none⟩)] 77)).alloc (.cells #[.slice ao es.length c] 39)).cell? ⟨w2.heap.size + 1 + 1, 0, none⟩ = some (.slice ao es.length c) := by simp [go_sem]
  have z0 : (((w2.alloc (.cells #[.int .i64 0, .int .i64 0, .pointer (some ⟨b, 0, none⟩)] 101)).alloc (.cells #[.pointer (some ⟨b, 0, none⟩)] 77)).alloc (.cells #[.slice ao es.length c] 39)).heap.size = w2.heap.size + 3 := by simp
  have F3 := g1.trans (g2.trans g3)
  clear g1 g2 g3
  obtain ⟨W0, hW0⟩ : ∃ W0, W0 = (((w2.alloc (.cells #[.int .i64 0, .int .i64 0, .pointer (some ⟨b, 0, none⟩)] 101)).alloc (.cells #[.pointer (some ⟨b, 0, none⟩)] 77)).alloc (.cells #[.slice ao es.length c] 39)) := ⟨_, rfl⟩
  rw [← hW0] at P0 q0 x0 z0 F3 ⊢
  obtain ⟨rb, hrb⟩ : ∃ rb, rb = w.heap.size := ⟨_, rfl⟩
  rw [← hrb] at r0 r0lt ⊢
  obtain ⟨pb, hpb⟩ : ∃ pb, pb = w2.heap.size := ⟨_, rfl⟩
  rw [← hpb] at P0 q0 x0 z0 ⊢
  have FW := f0.trans (f1.trans (f2.trans F3))
  have R0 : W0.heap[rb]? = some (.cells #[.int .i64 0, .int .i64 0, .pointer none] 101 (0, 0)) := ((f1.trans (f2.trans F3)).block rb r0lt (by simp)).trans r0
  have hlt : rb < b1 ∧ b < pb := by
    have := f1.size
    omega
  have HE : Hid (ReadsE w ao es ∧ Shapes w) := ⟨h, hs⟩
  have HZ : Hid (W0.heap.size = pb + 3 ∧ pb = w2.heap.size ∧ rb = w.heap.size) := ⟨z0, hpb, hrb⟩
  have HLT : Hid ((b1 < b2 ∧ b2 < b3 ∧ b3 < b4 ∧ b4 < b) ∧ rb < b1 ∧ b < pb) := ⟨(hB (b + 1) w2 (Fr.refl w2) (by omega) (by omega)).lt, hlt⟩
  clear hW0 r0 r0lt f0 f1 h hs S1 z0 hpb hrb hlt hb1 hb f2
  refine wpIn_range (w := W0) rfl (by omega) (gf := 167) (lb := #[.pointer (some ⟨pb + 1 + 1, 0, none⟩), .pointer (some ⟨pb + 1, 0, none⟩)]) rfl trivial (enters_of Tryz.func167 (by kernel_rfl) rfl) (fun x : Int => #[.int .i64 x]) (fun _ => rfl)
    (fun x W => ∃ z c, PartAt W pb z c b ∧ 0 ≤ z ∧ z ≤ 1000000) (fun x W W' => RoundOf pb (W0.heap.size + 1) b x W W')
    (fun W => PartAt W pb (legS scn0 es).2.1 (legS scn0 es).2.2 b ∧ BoardW (0, pb + 5) W b b1 b2 b3 b4 (1048576 + 400) (legS scn0 es).1 ∧ W.heap[rb]? = some (.cells #[.int .i64 0, .int .i64 0, .pointer none] 101 (0, 0)) ∧ Fr w W)
    (fun x => { tmps := #[.slice ao es.length c, undef, .pointer (some ⟨rb, 0, none⟩), .pointer (some ⟨pb, 0, none⟩), .int .i64 x, .agg #[.int .i64 s.g, .slice s.lo s.ll s.lc, .slice s.co s.cl s.cc, .slice s.no s.nl s.nc, .slice s.oo s.ol s.oc], .pointer (some ⟨b, 0, none⟩), .agg #[.int .i64 0, .int .i64 0, .pointer (some ⟨b, 0, none⟩)], .pointer (some ⟨pb, 2, none⟩), .pointer (some ⟨b, 0, none⟩), .slice ao es.length c, .func (.func 167) #[] #[.pointer (some ⟨pb + 1 + 1, 0, none⟩), .pointer (some ⟨pb + 1, 0, none⟩)], .int .i64 x, undef, undef, undef, undef, undef, undef, undef, undef, undef], defers := [] }) ?assign ?body ?hPre ?hPost ?hit ?done
  case assign =>
    intro l x W K hK
    gi_wp2
    exact hK
  case hPre =>
    rintro x W o o' hl ⟨z, c, hp, hz⟩
    have hq := HZ.out
    exact ⟨z, c, (World.putObj_heap_other (by omega)).trans hp, hz⟩
  case hPost =>
    intro x W W3 o1 o3 hp z c h1
    have hq := HZ.out
    obtain ⟨p3, f3⟩ := hp z c ((World.putObj_heap_other (by omega)).trans h1)
    exact ⟨(World.putObj_heap_other (by omega)).trans p3, (grown_toS (grownBy_putObj' W _ o1) (.inr rfl)).trans (f3.trans (grown_toS (grownBy_putObj' W3 _ o3) (.inr rfl)))⟩
  case hit =>
    intro W1 Rec hb hs1 hR hRl hRt hY
    have hq := HZ.out
    have hlt := HLT.out
    have fb : Fr W0 W1 := ⟨hb.1, hb.2, hb.3, hb.4, fun k hk _ => hb.5 k hk⟩
    have hB1 := hB (pb + 5) W1 (F3.trans fb) (by omega) (by omega)
    have fw := FW.trans fb
    have c1 := codes1_in 5 (by omega) (W0.heap.size + 1) pb (pb + 1) (pb + 1 + 1) b b1 b2 b3 b4 (0, pb + 5) 1048576 ao c es W1 Rec (fun A B hA q1 q2 => hRl A B hA q1 q2) hR hRt hY hB1 (by omega) (HE.out.2.fr fw) ((fb.block pb P0.lt (by simp)).trans P0) (HE.out.1.fr fw) hl (fb.cell x0) (fb.cell q0) (by omega) (fun k hk => by have := hab k hk; omega) (by omega)
    refine CallsIn.mono c1 ?_
    rintro e W' ⟨hv, r1, p1, B1, f1⟩
    refine ⟨hv, r1, p1, B1, ?_, ?_⟩
    · refine (f1.block rb (by have := fb.size; omega) (fun q => ?_)).trans ((fb.block rb (by omega) (by simp)).trans R0)
      simp only [Kept, On] at q
      omega
    · refine fw.thenS f1 (fun j q => ?_)
      simp only [Kept, On] at q
      omega
  case body =>
    rintro l x W ⟨z, c, hp, hz⟩
    have c0 : W.cell? ⟨pb, 0, none⟩ = some (.int .i64 z) := cell_of_row W pb 0 _ _ _ hp
    have c1 : W.cell? ⟨pb, 1, none⟩ = some (.int .i64 c) := cell_of_row W pb 1 _ _ _ hp
    have j0 := frozen_of_row W pb 0 _ _ hp
    have j1 := frozen_of_row W pb 1 _ _ hp
    have hw : IntKind.i64.wrap (z + 1) = z + 1 := by rw [IntKind.wrap_i64]; omega
    have HP : Hid (PartAt W pb z c b) := hp
    clear hp
    by_cases hx : x = 0
    · have hxb : (x == 0) = true := by simpa using hx
      have HX : Hid (x = 0) := hx
      clear hx
      gi_wp2
      refine ⟨(KeepsOthers.setCell _ _ _).trans (KeepsOthers.setCell _ _ _), fun z' c' hp' => ?_⟩
      have e := (HP.out : W.heap[pb]? = _).symm.trans hp'
      simp at e
      obtain ⟨rfl, rfl⟩ := e
      rw [if_pos HX.out]
      have s1 := heap_setCell_same W pb 1 _ _ (.int .i64 x) HP.out
      exact ⟨heap_setCell_same _ pb 0 _ _ (.int .i64 (z + 1)) s1, (grown_toS (grown_set W pb 1 _) (.inl rfl)).trans (grown_toS (grown_set _ pb 0 _) (.inl rfl))⟩
    · have hxb : (x == 0) = false := by simpa using hx
      have HX : Hid (¬ x = 0) := hx
      clear hx
      gi_wp2
      refine ⟨KeepsOthers.setCell _ _ _, fun z' c' hp' => ?_⟩
      have e := (HP.out : W.heap[pb]? = _).symm.trans hp'
      simp at e
      obtain ⟨rfl, rfl⟩ := e
      rw [if_neg HX.out]
      exact ⟨heap_setCell_same W pb 1 _ _ (.int .i64 x) HP.out, grown_toS (grown_set W pb 1 _) (.inl rfl)⟩
  case done =>
    rintro W o ⟨p1, B1, r1, f1⟩ hK
    have hq := HZ.out
    have hlt := HLT.out
    have k1 : FrS (fun k => k = W0.heap.size + 1) W (W.putObj (W0.heap.size + 1) o) := grown_toS (grownBy_putObj' W _ o) rfl
    have p1 := p1.keepS k1 (by omega)
    have B1 := B1.keepS k1 (fun x q => ⟨fun q2 => by simp only [On] at q2; omega, by simp only; omega, by simp only; omega⟩)
    have r1 : (W.putObj (W0.heap.size + 1) o).heap[rb]? = some (.cells #[.int .i64 0, .int .i64 0, .pointer none] 101 (0, 0)) := (World.putObj_heap_other (by omega)).trans r1
    have f1 := f1.thenS k1 (fun j q => by omega)
    have hrp : rb ≠ pb := by omega
    have hrd : rb ≠ W0.heap.size := by omega
    have hrw : w.heap.size ≤ rb := by omega
    have hdw : w.heap.size ≤ W0.heap.size := by omega
    have hbr : rb < b1 := by omega
    have hbd : b < W0.heap.size ∧ W0.heap.size < pb + 5 := by omega
    have hbb := hlt.1
    have hrpb : rb < pb := by omega
    clear k1 hq hlt
    obtain ⟨V, hV⟩ : ∃ V, V = W.putObj (W0.heap.size + 1) o := ⟨_, rfl⟩
    rw [← hV] at p1 B1 r1 f1 hK ⊢
    clear hV
    obtain ⟨z, hz⟩ : ∃ z : Int, z = (legS scn0 es).2.1 := ⟨_, rfl⟩
    rw [← hz] at p1
    have Hz : Hid (z = (legS scn0 es).2.1) := hz
    obtain ⟨cc, hcc⟩ : ∃ z, z = (legS scn0 es).2.2 := ⟨_, rfl⟩
    rw [← hcc] at p1
    have Hc : Hid (cc = (legS scn0 es).2.2) := hcc
    clear hz hcc
    have c0 : V.cell? ⟨pb, 0, none⟩ = some (.int .i64 z) := cell_of_row V pb 0 _ _ _ p1
    have c1 : V.cell? ⟨pb, 1, none⟩ = some (.int .i64 cc) := cell_of_row V pb 1 _ _ _ p1
    have c2 : V.cell? ⟨pb, 2, none⟩ = some (.pointer (some ⟨b, 0, none⟩)) := cell_of_row V pb 2 _ _ _ p1
    have d0 : V.cell? ⟨rb, 0, none⟩ = some (.int .i64 0) := cell_of_row V rb 0 _ _ _ r1
    have d1 : V.cell? ⟨rb, 1, none⟩ = some (.int .i64 0) := cell_of_row V rb 1 _ _ _ r1
    have d2 : V.cell? ⟨rb, 2, none⟩ = some (.pointer none) := cell_of_row V rb 2 _ _ _ r1
    have jf := fun i => frozen_of_row V rb i _ _ r1
    gi_wp2
    clear c0 c1 c2 d0 d1 d2 jf
    have s0 := heap_setCell_same V rb 0 _ _ (.int .i64 z) r1
    have s1 := heap_setCell_same _ rb 1 _ _ (.int .i64 cc) s0
    have s2 := heap_setCell_same _ rb 2 _ _ (.pointer (some ⟨b, 0, none⟩)) s1
    have kU : FrS (fun k => k = rb) V (((V.setCell ⟨rb, 0, none⟩ (.int .i64 z)).setCell ⟨rb, 1, none⟩ (.int .i64 cc)).setCell ⟨rb, 2, none⟩ (.pointer (some ⟨b, 0, none⟩))) := ((grown_toS (S := fun k => k = rb) (grown_set V rb 0 _) rfl).trans (grown_toS (S := fun k => k = rb) (grown_set _ rb 1 _) rfl)).trans (grown_toS (S := fun k => k = rb) (grown_set _ rb 2 _) rfl)
    have R3 : (((V.setCell ⟨rb, 0, none⟩ (.int .i64 z)).setCell ⟨rb, 1, none⟩ (.int .i64 cc)).setCell ⟨rb, 2, none⟩ (.pointer (some ⟨b, 0, none⟩))).heap[rb]? = some (.cells #[.int .i64 z, .int .i64 cc, .pointer (some ⟨b, 0, none⟩)] 101 (0, 0)) := s2
    clear s0 s1 s2
    obtain ⟨U, hU⟩ : ∃ U, U = (((V.setCell ⟨rb, 0, none⟩ (.int .i64 z)).setCell ⟨rb, 1, none⟩ (.int .i64 cc)).setCell ⟨rb, 2, none⟩ (.pointer (some ⟨b, 0, none⟩))) := ⟨_, rfl⟩
    rw [← hU] at kU R3 ⊢
    clear hU
    have hKU : U.heap[W0.heap.size]? = some (.deferred (some [])) := (kU.block _ (Array.getElem?_eq_some_iff.1 hK).1 (fun q => hrd q.symm)).trans hK
    refine ⟨by simp, .inl ⟨_, _, rfl, run_takeDeferred hKU, ?_⟩⟩
    have kT : FrS (fun k => k = W0.heap.size) U (U.putObj W0.heap.size (.deferred none)) := grown_toS (grownBy_putObj' U _ _) rfl
    have R4 : (U.putObj W0.heap.size (.deferred none)).heap[rb]? = some (.cells #[.int .i64 z, .int .i64 cc, .pointer (some ⟨b, 0, none⟩)] 101 (0, 0)) := (kT.block rb (Array.getElem?_eq_some_iff.1 R3).1 hrd).trans R3
    have d0 : (U.putObj W0.heap.size (.deferred none)).cell? ⟨rb, 0, none⟩ = some (.int .i64 z) := cell_of_row _ rb 0 _ _ _ R4
    have d1 : (U.putObj W0.heap.size (.deferred none)).cell? ⟨rb, 1, none⟩ = some (.int .i64 cc) := cell_of_row _ rb 1 _ _ _ R4
    have d2 : (U.putObj W0.heap.size (.deferred none)).cell? ⟨rb, 2, none⟩ = some (.pointer (some ⟨b, 0, none⟩)) := cell_of_row _ rb 2 _ _ _ R4
    refine ⟨.agg #[.int .i64 z, .int .i64 cc, .pointer (some ⟨b, 0, none⟩)], by simp [results, Tryz.results63, go_sem, d0, d1, d2], (0, pb + 5), b, b1, b2, b3, b4, by rw [Hz.out, Hc.out], ?_, by omega, (f1.thenS kU (fun j q => by omega)).thenS kT (fun j q => by omega)⟩
    exact ((B1.keepS kU (fun x q => ⟨fun q2 => by simp only [On] at q2; omega, by simp only; omega, by simp only; omega⟩)).keepS kT (fun x q => ⟨fun q2 => by simp only [On] at q2; omega, by simp only; omega, by simp only; omega⟩)).mono (by omega)
end Go.Proofs.YtihdablgnmkjnaaGreatDoor
/-
  LegalLen and CodeOf, the program's and the specification's.
-/
namespace Go.Proofs.YtihdablgnmkjnaaGreatDoor
open Go.RowKit

def legLen (es : List Ev) : Int := if 300 < es.length then -1 else (legS scn0 es).2.1
def legCode (es : List Ev) : Int := if 300 < es.length then 11 else (legS scn0 es).2.2

theorem isTrace_any (ao : Option Addr) (n c : Nat) (w : World) :
    Calls Tryz.prog 62 #[.slice ao n c] w fun e w' => e = .returned (.bool (decide ((n : Int) ≤ 300))) ∧ w' = w := by
  go_enter Tryz.func62, Tryz.ntmps62
  go_wp2_with fail
  go_ret
  exact ⟨rfl, rfl⟩
theorem field_size (a c : Int) (b : Nat) (u : World) : Sem.run Tryz.prog (Instr.field 101 (.agg #[.int .i64 a, .int .i64 c, .pointer (some ⟨b, 0, none⟩)]) 0) u = .ok (.int .i64 a) u := by
  have hu := run_underlying (w := u) Tryz.underlying101
  simp [Instr.field, asAgg, hu, go_sem]
theorem field_code (a c : Int) (b : Nat) (u : World) : Sem.run Tryz.prog (Instr.field 101 (.agg #[.int .i64 a, .int .i64 c, .pointer (some ⟨b, 0, none⟩)]) 1) u = .ok (.int .i64 c) u := by
  have hu := run_underlying (w := u) Tryz.underlying101
  simp [Instr.field, asAgg, hu, go_sem]

set_option maxHeartbeats 1000000 in
theorem specLen_any (ao : Option Addr) (n c : Nat) (es : List Ev) (w : World) (hn : es.length = n) (h : ReadsE w ao es) :
    Calls Tryz.prog 65 #[.slice ao n c] w fun x w' => x = .returned (.int .i64 (legLen es)) ∧ Fr w w' := by
  have cP := l5Scene_any ao n c es w hn h
  by_cases hb : es.length ≤ 300
  · have e1 : legLen es = (legS scn0 es).2.1 := if_neg (by omega)
    have e2 : (n : Int) ≤ 300 := by omega
    rw [e1]
    clear e1 hb h hn
    obtain ⟨z, hz⟩ : ∃ z : Int, z = (legS scn0 es).2.1 := ⟨_, rfl⟩
    obtain ⟨q, hq⟩ : ∃ z : Int, z = (legS scn0 es).2.2 := ⟨_, rfl⟩
    simp only [← hz, ← hq] at cP
    rw [← hz]
    clear hz hq
    go_enter Tryz.func65, Tryz.ntmps65
    go_wp2_with fail
    refine (cP).mono ?_
    rintro e u1 ⟨⟨sg, lo, ll, lc, co, cl, cc, no, nl, nc, oo, ol, oc⟩, B, rfl, -, -, f1⟩
    go_wp2_with fail
    go_ret
    exact ⟨rfl, f1.trans (Fr.alloc _ _)⟩
  · have e1 : legLen es = -1 := if_pos (by omega)
    have e2 : 300 < (n : Int) := by omega
    rw [e1]
    clear e1 hb h hn cP
    go_enter Tryz.func65, Tryz.ntmps65
    go_wp2_with fail
    go_ret
    exact ⟨rfl, Fr.refl _⟩

end Go.Proofs.YtihdablgnmkjnaaGreatDoor
/-
  The keys of a board's map, sorted: slices.Sorted(maps.Keys(m)).
-/
namespace Go.Proofs
shelf_lay_g SlLaysZI.n7 Ggz 7 at Tryz 161 as Tryz.keysL
shelf_lay_g SlLaysZI.n7 Ggz 7 at Tryz 162 as Tryz.keysC
shelf_lay_g SlLaysZI.n7 Ggz 7 at Tryz 163 as Tryz.keysN
shelf_lay_g SlLaysZI.n7 Ggz 7 at Tryz 164 as Tryz.keysI
shelf_lay_g SlLaysZI.n6 Ggz 6 at Tryz 160 as Tryz.sortedA
/-- slices.Sort's two contracts, at the fence that asks nothing. -/
theorem Tryz.sortsA (m : Nat) : AnyZI.SortsIn Tryz.prog Tryz.sortedA_ren Fence.wide m :=
  ⟨fun blk off cap ss W hH hblk hsz => callsIn_wide.2 (AnyM.slices_Sort_int Tryz.sortA blk off cap ss W hH hblk hsz),
   fun p cap W => callsIn_wide.2 (AnyM.slices_Sort_int_none Tryz.sortA p cap W)⟩
end Go.Proofs
namespace Go.Proofs.YtihdablgnmkjnaaGreatDoor
open Go.RowKit Go.Maps Go.Sort Go.Shelf
open Go.WideShapes (sorted_perm)
open Go.WideElems (rd_key rg_of)

theorem map_keys {w : World} {R : Value → Option (DataW Value × List MemPlace)} {b n : Nat} {D : DataW Value} (h : w.ownsMap Tryz.prog 2 R b n D) : ∃ es, D = .map es ∧ es.Pairwise (fun p q => p.1 ≠ q.1) ∧ ∀ p ∈ es, ∃ x, p.1 = .int .i64 x := by
  obtain ⟨es, clock, _, F, _, rfl⟩ := h
  refine ⟨_, rfl, ((sorted_perm _).pairwise_iff (fun {_ _} hne => Ne.symm hne)).2 (Maps.fit_apart keyed64 F), fun p hp => ?_⟩
  obtain ⟨x, hx, rfl⟩ := List.mem_map.1 (mem_sorted.1 hp)
  obtain ⟨y, hy⟩ := F.reads x hx
  rw [rg_of hy]
  obtain ⟨z, -, e, -⟩ := Maps.keyOf_i64 Tryz.underlying2 (rd_key hy)
  exact ⟨z, e⟩
theorem rise_sorted {ks : List Int} (h : ks.Pairwise (· < ·)) : ks.mergeSort (fun x y => decide (x ≤ y)) = ks :=
  List.mergeSort_of_pairwise (h.imp fun q => by simpa using Int.le_of_lt q)
theorem rise_nodup {ks : List Int} (h : ks.Pairwise (· < ·)) : ks.Nodup := h.imp fun q => Int.ne_of_lt q

/-- What a sorted row of keys reads as. -/
theorem keys_row {w' : World} {base : Nat} {v : Value} {ss ks : List Int} (hs : ss.mergeSort (fun x y => decide (x ≤ y)) = ks) (hl : ss.length = ks.length) (hi : ∀ k ∈ ks, I64 k) (hm : ks.length ≤ 4000000)
    (h : w'.ownsRow base 2 1 v ss.length ((ss.mergeSort (fun x y => decide (x ≤ y))).map encZ)) : ∃ ao cap, v = .slice ao ks.length cap ∧ Reads w' ao ks ∧ ∀ k, blk ao = some k → base ≤ k ∧ k < w'.heap.size := by
  rw [hs, hl] at h
  have he : ks.map encZ = ks.map (Value.int .i64) := rfl
  rw [he] at h
  rcases h.2 with ⟨e, e2⟩ | ⟨g, cap, cur, e, r⟩
  · have hk : ks = [] := List.eq_nil_of_length_eq_zero (by simpa using e2)
    subst hk
    exact ⟨none, 0, e, Reads.nil _ _, fun k q => by simp [blk] at q⟩
  · subst e
    exact ⟨some ⟨g, 0, none⟩, cap, rfl, OwnI.reads (base := base) ⟨h, by omega, hi⟩, fun k q => h.lt k (by simpa [blk, Value.ownBlock] using q)⟩

theorem keysL_any (mb : Nat) (w : World) :
    Calls Tryz.prog 161 #[.map (some mb)] w fun e w' => e = .returned (.func (.func 172) #[] #[.pointer (some ⟨w.heap.size, 0, none⟩)]) ∧ w' = w.alloc (.cells #[.map (some mb)] 130) :=
  (callsIn_wide (n := 5)).1 (AnyZI.keys_in Tryz.keysL Fence.wide 5 trivial rfl (some mb) w)
set_option maxHeartbeats 1000000 in
theorem sortedL_any (mb n : Nat) (f : Int → Option Value) (ks : List Int) (w : World) (M : MapF w mb n f) (hr : ks.Pairwise (· < ·)) (hk : ∀ x, x ∈ ks ↔ (f x).isSome = true) (hi : ∀ k ∈ ks, I64 k) (hn : n ≤ 4000000) :
    Calls Tryz.prog 160 #[.func (.func 172) #[] #[.pointer (some ⟨w.heap.size, 0, none⟩)]] (w.alloc (.cells #[.map (some mb)] 130)) fun e w' => ∃ ao cap, e = .returned (.slice ao ks.length cap) ∧ Reads w' ao ks ∧ (∀ k, blk ao = some k → w.heap.size ≤ k ∧ k < w'.heap.size) ∧ Fr w w' := by
  obtain ⟨D, hown, hf⟩ := M
  have hbl := hown.lt
  obtain ⟨es, rfl, he1, he2⟩ := map_keys hown
  have hsz := hown.size_le
  have hkp : ks.Perm (intKeys (.map es)) := perm_intKeys he1 he2 (rise_nodup hr) (fun x => by rw [hk x, mapF_has hf])
  have hseq : SeqGives Fence.wide 2 Tryz.prog 172 #[.pointer (some ⟨w.heap.size, 0, none⟩)] encZ (fun ss => ss.Perm (intKeys (.map es))) (Maps.size (.map es)) (w.alloc (.cells #[.map (some mb)] 130)) :=
    AnyZI.keys_gives (ρ := Tryz.keysL_ren) { Tryz.keysL with } Fence.wide _ trivial rfl (by omega) w.heap.size mb n (.map es) _ (by simp) (by simp [go_sem]) (hown.alloc _)
  have cS := AnyZI.sorted_in Tryz.sortedA Fence.wide 5 trivial trivial trivial trivial rfl (by omega) (Tryz.sortsA _) (enters_of Tryz.func170 (by kernel_rfl) rfl) 172 #[.pointer (some ⟨w.heap.size, 0, none⟩)] trivial (enters_of Tryz.func172 (by kernel_rfl) rfl) _ _ (by unfold maxLen; omega) (by omega) _ hseq
  refine ((callsIn_wide (n := 5)).1 cS).mono ?_
  rintro e w' ⟨v, ss, rfl, hS, hrow, -, hb⟩
  have hss : ss.mergeSort (fun x y => decide (x ≤ y)) = ks := (mergeSort_of_perm_i (hS.trans hkp.symm)).trans (rise_sorted hr)
  have hl : ss.length = ks.length := (hS.trans hkp.symm).length_eq
  have hkl : ks.length ≤ 4000000 := by
    have h1 := hkp.length_eq
    have h2 : (intKeys (DataW.map es)).length = Maps.size (.map es) := by simp [intKeys, Maps.size]
    omega
  obtain ⟨ao, cap, rfl, R, hbk⟩ := keys_row hss hl hi hkl hrow
  exact ⟨ao, cap, rfl, R, fun k q => by have := hbk k q; simp only [World.size_alloc] at this; omega, (Fr.alloc w _).trans ⟨hb.1, hb.2, hb.3, hb.4, fun k hk _ => hb.5 k hk⟩⟩

theorem keysC_any (mb : Nat) (w : World) :
    Calls Tryz.prog 162 #[.map (some mb)] w fun e w' => e = .returned (.func (.func 173) #[] #[.pointer (some ⟨w.heap.size, 0, none⟩)]) ∧ w' = w.alloc (.cells #[.map (some mb)] 133) :=
  (callsIn_wide (n := 5)).1 (AnyZI.keys_in Tryz.keysC Fence.wide 5 trivial rfl (some mb) w)
set_option maxHeartbeats 1000000 in
theorem sortedC_any (mb n : Nat) (f : Int → Option Value) (ks : List Int) (w : World) (M : MapF w mb n f) (hr : ks.Pairwise (· < ·)) (hk : ∀ x, x ∈ ks ↔ (f x).isSome = true) (hi : ∀ k ∈ ks, I64 k) (hn : n ≤ 4000000) :
    Calls Tryz.prog 160 #[.func (.func 173) #[] #[.pointer (some ⟨w.heap.size, 0, none⟩)]] (w.alloc (.cells #[.map (some mb)] 133)) fun e w' => ∃ ao cap, e = .returned (.slice ao ks.length cap) ∧ Reads w' ao ks ∧ (∀ k, blk ao = some k → w.heap.size ≤ k ∧ k < w'.heap.size) ∧ Fr w w' := by
  obtain ⟨D, hown, hf⟩ := M
  have hbl := hown.lt
  obtain ⟨es, rfl, he1, he2⟩ := map_keys hown
  have hsz := hown.size_le
  have hkp : ks.Perm (intKeys (.map es)) := perm_intKeys he1 he2 (rise_nodup hr) (fun x => by rw [hk x, mapF_has hf])
  have hseq : SeqGives Fence.wide 2 Tryz.prog 173 #[.pointer (some ⟨w.heap.size, 0, none⟩)] encZ (fun ss => ss.Perm (intKeys (.map es))) (Maps.size (.map es)) (w.alloc (.cells #[.map (some mb)] 133)) :=
    AnyZI.keys_gives (ρ := Tryz.keysC_ren) { Tryz.keysC with } Fence.wide _ trivial rfl (by omega) w.heap.size mb n (.map es) _ (by simp) (by simp [go_sem]) (hown.alloc _)
  have cS := AnyZI.sorted_in Tryz.sortedA Fence.wide 5 trivial trivial trivial trivial rfl (by omega) (Tryz.sortsA _) (enters_of Tryz.func170 (by kernel_rfl) rfl) 173 #[.pointer (some ⟨w.heap.size, 0, none⟩)] trivial (enters_of Tryz.func173 (by kernel_rfl) rfl) _ _ (by unfold maxLen; omega) (by omega) _ hseq
  refine ((callsIn_wide (n := 5)).1 cS).mono ?_
  rintro e w' ⟨v, ss, rfl, hS, hrow, -, hb⟩
  have hss : ss.mergeSort (fun x y => decide (x ≤ y)) = ks := (mergeSort_of_perm_i (hS.trans hkp.symm)).trans (rise_sorted hr)
  have hl : ss.length = ks.length := (hS.trans hkp.symm).length_eq
  have hkl : ks.length ≤ 4000000 := by
    have h1 := hkp.length_eq
    have h2 : (intKeys (DataW.map es)).length = Maps.size (.map es) := by simp [intKeys, Maps.size]
    omega
  obtain ⟨ao, cap, rfl, R, hbk⟩ := keys_row hss hl hi hkl hrow
  exact ⟨ao, cap, rfl, R, fun k q => by have := hbk k q; simp only [World.size_alloc] at this; omega, (Fr.alloc w _).trans ⟨hb.1, hb.2, hb.3, hb.4, fun k hk _ => hb.5 k hk⟩⟩

theorem keysN_any (mb : Nat) (w : World) :
    Calls Tryz.prog 163 #[.map (some mb)] w fun e w' => e = .returned (.func (.func 174) #[] #[.pointer (some ⟨w.heap.size, 0, none⟩)]) ∧ w' = w.alloc (.cells #[.map (some mb)] 136) :=
  (callsIn_wide (n := 5)).1 (AnyZI.keys_in Tryz.keysN Fence.wide 5 trivial rfl (some mb) w)
set_option maxHeartbeats 1000000 in
theorem sortedN_any (mb n : Nat) (f : Int → Option Value) (ks : List Int) (w : World) (M : MapF w mb n f) (hr : ks.Pairwise (· < ·)) (hk : ∀ x, x ∈ ks ↔ (f x).isSome = true) (hi : ∀ k ∈ ks, I64 k) (hn : n ≤ 4000000) :
    Calls Tryz.prog 160 #[.func (.func 174) #[] #[.pointer (some ⟨w.heap.size, 0, none⟩)]] (w.alloc (.cells #[.map (some mb)] 136)) fun e w' => ∃ ao cap, e = .returned (.slice ao ks.length cap) ∧ Reads w' ao ks ∧ (∀ k, blk ao = some k → w.heap.size ≤ k ∧ k < w'.heap.size) ∧ Fr w w' := by
  obtain ⟨D, hown, hf⟩ := M
  have hbl := hown.lt
  obtain ⟨es, rfl, he1, he2⟩ := map_keys hown
  have hsz := hown.size_le
  have hkp : ks.Perm (intKeys (.map es)) := perm_intKeys he1 he2 (rise_nodup hr) (fun x => by rw [hk x, mapF_has hf])
  have hseq : SeqGives Fence.wide 2 Tryz.prog 174 #[.pointer (some ⟨w.heap.size, 0, none⟩)] encZ (fun ss => ss.Perm (intKeys (.map es))) (Maps.size (.map es)) (w.alloc (.cells #[.map (some mb)] 136)) :=
    AnyZI.keys_gives (ρ := Tryz.keysN_ren) { Tryz.keysN with } Fence.wide _ trivial rfl (by omega) w.heap.size mb n (.map es) _ (by simp) (by simp [go_sem]) (hown.alloc _)
  have cS := AnyZI.sorted_in Tryz.sortedA Fence.wide 5 trivial trivial trivial trivial rfl (by omega) (Tryz.sortsA _) (enters_of Tryz.func170 (by kernel_rfl) rfl) 174 #[.pointer (some ⟨w.heap.size, 0, none⟩)] trivial (enters_of Tryz.func174 (by kernel_rfl) rfl) _ _ (by unfold maxLen; omega) (by omega) _ hseq
  refine ((callsIn_wide (n := 5)).1 cS).mono ?_
  rintro e w' ⟨v, ss, rfl, hS, hrow, -, hb⟩
  have hss : ss.mergeSort (fun x y => decide (x ≤ y)) = ks := (mergeSort_of_perm_i (hS.trans hkp.symm)).trans (rise_sorted hr)
  have hl : ss.length = ks.length := (hS.trans hkp.symm).length_eq
  have hkl : ks.length ≤ 4000000 := by
    have h1 := hkp.length_eq
    have h2 : (intKeys (DataW.map es)).length = Maps.size (.map es) := by simp [intKeys, Maps.size]
    omega
  obtain ⟨ao, cap, rfl, R, hbk⟩ := keys_row hss hl hi hkl hrow
  exact ⟨ao, cap, rfl, R, fun k q => by have := hbk k q; simp only [World.size_alloc] at this; omega, (Fr.alloc w _).trans ⟨hb.1, hb.2, hb.3, hb.4, fun k hk _ => hb.5 k hk⟩⟩

theorem keysI_any (mb : Nat) (w : World) :
    Calls Tryz.prog 164 #[.map (some mb)] w fun e w' => e = .returned (.func (.func 175) #[] #[.pointer (some ⟨w.heap.size, 0, none⟩)]) ∧ w' = w.alloc (.cells #[.map (some mb)] 139) :=
  (callsIn_wide (n := 5)).1 (AnyZI.keys_in Tryz.keysI Fence.wide 5 trivial rfl (some mb) w)
set_option maxHeartbeats 1000000 in
theorem sortedI_any (mb n : Nat) (f : Int → Option Value) (ks : List Int) (w : World) (M : MapF w mb n f) (hr : ks.Pairwise (· < ·)) (hk : ∀ x, x ∈ ks ↔ (f x).isSome = true) (hi : ∀ k ∈ ks, I64 k) (hn : n ≤ 4000000) :
    Calls Tryz.prog 160 #[.func (.func 175) #[] #[.pointer (some ⟨w.heap.size, 0, none⟩)]] (w.alloc (.cells #[.map (some mb)] 139)) fun e w' => ∃ ao cap, e = .returned (.slice ao ks.length cap) ∧ Reads w' ao ks ∧ (∀ k, blk ao = some k → w.heap.size ≤ k ∧ k < w'.heap.size) ∧ Fr w w' := by
  obtain ⟨D, hown, hf⟩ := M
  have hbl := hown.lt
  obtain ⟨es, rfl, he1, he2⟩ := map_keys hown
  have hsz := hown.size_le
  have hkp : ks.Perm (intKeys (.map es)) := perm_intKeys he1 he2 (rise_nodup hr) (fun x => by rw [hk x, mapF_has hf])
  have hseq : SeqGives Fence.wide 2 Tryz.prog 175 #[.pointer (some ⟨w.heap.size, 0, none⟩)] encZ (fun ss => ss.Perm (intKeys (.map es))) (Maps.size (.map es)) (w.alloc (.cells #[.map (some mb)] 139)) :=
    AnyZI.keys_gives (ρ := Tryz.keysI_ren) { Tryz.keysI with } Fence.wide _ trivial rfl (by omega) w.heap.size mb n (.map es) _ (by simp) (by simp [go_sem]) (hown.alloc _)
  have cS := AnyZI.sorted_in Tryz.sortedA Fence.wide 5 trivial trivial trivial trivial rfl (by omega) (Tryz.sortsA _) (enters_of Tryz.func170 (by kernel_rfl) rfl) 175 #[.pointer (some ⟨w.heap.size, 0, none⟩)] trivial (enters_of Tryz.func175 (by kernel_rfl) rfl) _ _ (by unfold maxLen; omega) (by omega) _ hseq
  refine ((callsIn_wide (n := 5)).1 cS).mono ?_
  rintro e w' ⟨v, ss, rfl, hS, hrow, -, hb⟩
  have hss : ss.mergeSort (fun x y => decide (x ≤ y)) = ks := (mergeSort_of_perm_i (hS.trans hkp.symm)).trans (rise_sorted hr)
  have hl : ss.length = ks.length := (hS.trans hkp.symm).length_eq
  have hkl : ks.length ≤ 4000000 := by
    have h1 := hkp.length_eq
    have h2 : (intKeys (DataW.map es)).length = Maps.size (.map es) := by simp [intKeys, Maps.size]
    omega
  obtain ⟨ao, cap, rfl, R, hbk⟩ := keys_row hss hl hi hkl hrow
  exact ⟨ao, cap, rfl, R, fun k q => by have := hbk k q; simp only [World.size_alloc] at this; omega, (Fr.alloc w _).trans ⟨hb.1, hb.2, hb.3, hb.4, fun k hk _ => hb.5 k hk⟩⟩
end Go.Proofs.YtihdablgnmkjnaaGreatDoor
/-
  inOrder: a board's map as a list, by rising numbers.
-/
namespace Go.Proofs.YtihdablgnmkjnaaGreatDoor
open Go.RowKit


theorem appC2 (w : World) {ops : Array Oper} {rest : List Oper} {o : Oper} {a : Act} {Q : Exit → Act → World → Prop} (hgd : o.guard = none) (s x : Operand)
    (ho : o.op = .call { callee := .builtin .append, args := #[s, x], argTypes := #[25, 25] }) (base : Nat) (v : Value) (xs : List Ch) (e : Ch) (hs : a.eval s = v)
    (hown : OwnG layC w base v xs) (hx : a.eval x = .slice (some ⟨w.heap.size, 0, none⟩) 1 1) (hlen : xs.length ≤ 16777215) (hbase : base ≤ w.heap.size)
    (h : ∀ v' w', OwnG layC w' base v' (xs ++ [e]) → (w.alloc (.cells #[.int .i64 e.o, .int .i64 e.cap, .int .i64 e.sent, .int .i64 e.got, .bool e.cl] 87)).grownBy w' v.ownBlock → (v'.ownBlock = v.ownBlock ∨ v'.ownBlock = some (w.heap.size + 1)) → wpList Tryz.prog ops Q rest (a.put o.dst v') w') :
    wpList Tryz.prog ops Q (o :: rest) a (w.alloc (.cells #[.int .i64 e.o, .int .i64 e.cap, .int .i64 e.sent, .int .i64 e.got, .bool e.cl] 87)) :=
  appG layC _ hgd s x _ _ _ ho Tryz.underlying25 Tryz.infoC rfl (by decide) base v xs e hs (hown.fr (Fr.alloc _ _)) _ _ hx (newC w e) hlen (Nat.le_trans hbase (Fr.alloc w _).size) (fun v' w' a b c => h v' w' a b (by simpa using c))

set_option maxRecDepth 20000 in
set_option maxHeartbeats 2000000 in
theorem ordC_any (mb n : Nat) (f : Int → Option Value) (xs : List Ch) (w : World) (M : MapF w mb n f) (hr : (xs.map Ch.o).Pairwise (· < ·)) (hk : ∀ o, o ∈ xs.map Ch.o ↔ (f o).isSome = true) (hv : ∀ j (hj : j < xs.length), f (Ch.o xs[j]) = some (valC xs[j])) (hi : ∀ o ∈ xs.map Ch.o, I64 o) (hn : n ≤ 4000000) (hl : xs.length ≤ 1048576) :
    Calls Tryz.prog 106 #[.map (some mb)] w fun e w' => ∃ v, e = .returned v ∧ OwnG layC w' w.heap.size v xs ∧ Fr w w' := by
  have fE := Fr.alloc w (.cells #[] 87)
  have cK := keysC_any mb (w.alloc (.cells #[] 87))
  have cS := sortedC_any mb n f (xs.map Ch.o) (w.alloc (.cells #[] 87)) (M.fr fE) hr hk hi hn
  have hL : ∀ j (hj : j < xs.length) u, Fr w u → (Instr.lookup 133 (.map (some mb)) (.int .i64 (Ch.o xs[j])) false).run Tryz.prog u = .ok (valC xs[j]) u := fun j hj u fu => by
    rw [(M.fr fu).look Tryz.underlying133 (zeroC u) (hi _ (List.mem_map_of_mem (List.getElem_mem hj))), hv j hj]
    rfl
  have hlen : (xs.map Ch.o).length = xs.length := by simp
  rw [hlen] at cS
  simp only [World.size_alloc] at cS
  have HO : Hid (OwnG layC (w.alloc (.cells #[] 87)) w.heap.size (.slice (some ⟨w.heap.size, 0, none⟩) 0 0) []) := ownG_new layC w _ (Nat.le_refl _)
  clear M hr hk hv hi hlen
  go_enter Tryz.func106, Tryz.ntmps106
  go_wp2_with fail
  refine cK.mono ?_
  rintro e w1 ⟨rfl, rfl⟩
  clear cK
  go_wp2_with fail
  refine cS.mono ?_
  rintro e w2 ⟨ao, cap, rfl, R, hab, f2⟩
  clear cS
  have F2 := fE.trans f2
  have HO : Hid (OwnG layC w2 w.heap.size (.slice (some ⟨w.heap.size, 0, none⟩) 0 0) []) := HO.out.fr f2
  clear fE f2
  go_wp2_with fail
  go_loopw [3, 11] (fun u i wr => ∃ k : Nat, k ≤ xs.length ∧ i = .int .i64 k ∧ OwnG layC wr w.heap.size u (xs.take k) ∧ Fr w wr ∧ Reads wr ao (xs.map Ch.o) ∧ Hid ((∀ j, u.ownBlock = some j → blk ao ≠ some j) ∧ w2.heap.size ≤ wr.heap.size)) (fun _ i _ => xs.length - (intOf i).toNat)
  case atStart => exact ⟨0, Nat.zero_le _, rfl, HO.out, F2, R, ⟨fun j hj q => by have := (hab j q).1; simp only [Value.ownBlock, Option.some.injEq] at hj; omega, Nat.le_refl _⟩⟩
  case round =>
    clear HO
    obtain ⟨k, hk, rfl, ho, hf, R, HU⟩ := hrel
    have hs := hf.size
    by_cases hlt : k < xs.length
    · have Rk := R
      obtain ⟨b, off, rfl, hc⟩ := Rk.at_ k (by simpa using hlt)
      have hck := hc k (by simpa using hlt)
      rw [getD_at (by simpa using hlt), List.getElem_map] at hck
      clear hc Rk
      have hLk := hL k hlt wr hf
      have HS : Hid (xs.take (k + 1) = xs.take k ++ [xs[k]]) := List.take_succ_eq_append_getElem hlt
      have hln : (xs.take k).length ≤ k := by simp; omega
      obtain ⟨e, he⟩ : ∃ e, e = xs[k] := ⟨_, rfl⟩
      rw [← he] at hck hLk HS
      clear he
      have HA := Fr.alloc wr (.cells #[.int .i64 e.o, .int .i64 e.cap, .int .i64 e.sent, .int .i64 e.got, .bool e.cl] 87)
      have HR : Hid (∀ w4, (wr.alloc (.cells #[.int .i64 e.o, .int .i64 e.cap, .int .i64 e.sent, .int .i64 e.got, .bool e.cl] 87)).grownBy w4 u3.ownBlock → Fr w w4 ∧ Reads w4 (some ⟨b, off, none⟩) (xs.map Ch.o) ∧ w2.heap.size ≤ w4.heap.size) := fun w4 g => ⟨(hf.trans HA).then g ho.blk, (R.fr HA).keep g (.inr (fun q => by
        cases hq : u3.ownBlock with
        | none => rw [hq] at q; simp [blk] at q
        | some j => rw [hq] at q; exact HU.out.1 j hq q)), by have := g.size; have := HA.size; have := HU.out.2; omega⟩
      have hw2 := HU.out.2
      have hb2 := hab b rfl
      have HU := HU.out.1
      obtain ⟨zo, zc, zs, zg, zl⟩ := e
      simp only [valC] at hck hLk HA HR
      clear HA R
      have HU : Hid (∀ j, u3.ownBlock = some j → blk (some (⟨b, off, none⟩ : Addr)) ≠ some j) := HU
      go_wp2_with (at_builtin; refine appC2 _ rfl _ _ rfl w.heap.size u3 (xs.take k) ⟨zo, zc, zs, zg, zl⟩ rfl ho rfl (by omega) hs ?_; intro v4 w4 hv4 hg4 hat4)
      obtain ⟨r1, r2, r3⟩ := HR.out w4 hg4
      go_roundw
      case rel =>
        refine ⟨k + 1, by omega, by go_num, by rw [HS.out]; exact hv4, r1, r2, ⟨fun j hj => ?_, r3⟩⟩
        rcases hat4 with q | q
        · rw [q] at hj; exact HU.out j hj
        · rw [q] at hj
          simp only [Option.some.injEq] at hj
          simp only [blk, Option.map_some, ne_eq, Option.some.injEq]
          omega
      case measure => simp [intOf]; omega
    · have e : xs.take k = xs := List.take_of_length_le (by omega)
      rw [e] at ho
      have HOX : Hid (OwnG layC wr w.heap.size u3 xs) := ho
      clear e ho
      go_wp2_with fail
      go_ret
      exact ⟨_, rfl, HOX.out, hf⟩

theorem appN2 (w : World) {ops : Array Oper} {rest : List Oper} {o : Oper} {a : Act} {Q : Exit → Act → World → Prop} (hgd : o.guard = none) (s x : Operand)
    (ho : o.op = .call { callee := .builtin .append, args := #[s, x], argTypes := #[26, 26] }) (base : Nat) (v : Value) (xs : List Ct) (e : Ct) (hs : a.eval s = v)
    (hown : OwnG layN w base v xs) (hx : a.eval x = .slice (some ⟨w.heap.size, 0, none⟩) 1 1) (hlen : xs.length ≤ 16777215) (hbase : base ≤ w.heap.size)
    (h : ∀ v' w', OwnG layN w' base v' (xs ++ [e]) → (w.alloc (.cells #[.int .i64 e.o, .int .i64 e.n] 90)).grownBy w' v.ownBlock → (v'.ownBlock = v.ownBlock ∨ v'.ownBlock = some (w.heap.size + 1)) → wpList Tryz.prog ops Q rest (a.put o.dst v') w') :
    wpList Tryz.prog ops Q (o :: rest) a (w.alloc (.cells #[.int .i64 e.o, .int .i64 e.n] 90)) :=
  appG layN _ hgd s x _ _ _ ho Tryz.underlying26 Tryz.infoN rfl (by decide) base v xs e hs (hown.fr (Fr.alloc _ _)) _ _ hx (newN w e) hlen (Nat.le_trans hbase (Fr.alloc w _).size) (fun v' w' a b c => h v' w' a b (by simpa using c))

set_option maxRecDepth 20000 in
set_option maxHeartbeats 2000000 in
theorem ordN_any (mb n : Nat) (f : Int → Option Value) (xs : List Ct) (w : World) (M : MapF w mb n f) (hr : (xs.map Ct.o).Pairwise (· < ·)) (hk : ∀ o, o ∈ xs.map Ct.o ↔ (f o).isSome = true) (hv : ∀ j (hj : j < xs.length), f (Ct.o xs[j]) = some (valN xs[j])) (hi : ∀ o ∈ xs.map Ct.o, I64 o) (hn : n ≤ 4000000) (hl : xs.length ≤ 1048576) :
    Calls Tryz.prog 107 #[.map (some mb)] w fun e w' => ∃ v, e = .returned v ∧ OwnG layN w' w.heap.size v xs ∧ Fr w w' := by
  have fE := Fr.alloc w (.cells #[] 90)
  have cK := keysN_any mb (w.alloc (.cells #[] 90))
  have cS := sortedN_any mb n f (xs.map Ct.o) (w.alloc (.cells #[] 90)) (M.fr fE) hr hk hi hn
  have hL : ∀ j (hj : j < xs.length) u, Fr w u → (Instr.lookup 136 (.map (some mb)) (.int .i64 (Ct.o xs[j])) false).run Tryz.prog u = .ok (valN xs[j]) u := fun j hj u fu => by
    rw [(M.fr fu).look Tryz.underlying136 (zeroN u) (hi _ (List.mem_map_of_mem (List.getElem_mem hj))), hv j hj]
    rfl
  have hlen : (xs.map Ct.o).length = xs.length := by simp
  rw [hlen] at cS
  simp only [World.size_alloc] at cS
  have HO : Hid (OwnG layN (w.alloc (.cells #[] 90)) w.heap.size (.slice (some ⟨w.heap.size, 0, none⟩) 0 0) []) := ownG_new layN w _ (Nat.le_refl _)
  clear M hr hk hv hi hlen
  go_enter Tryz.func107, Tryz.ntmps107
  go_wp2_with fail
  refine cK.mono ?_
  rintro e w1 ⟨rfl, rfl⟩
  clear cK
  go_wp2_with fail
  refine cS.mono ?_
  rintro e w2 ⟨ao, cap, rfl, R, hab, f2⟩
  clear cS
  have F2 := fE.trans f2
  have HO : Hid (OwnG layN w2 w.heap.size (.slice (some ⟨w.heap.size, 0, none⟩) 0 0) []) := HO.out.fr f2
  clear fE f2
  go_wp2_with fail
  go_loopw [3, 11] (fun u i wr => ∃ k : Nat, k ≤ xs.length ∧ i = .int .i64 k ∧ OwnG layN wr w.heap.size u (xs.take k) ∧ Fr w wr ∧ Reads wr ao (xs.map Ct.o) ∧ Hid ((∀ j, u.ownBlock = some j → blk ao ≠ some j) ∧ w2.heap.size ≤ wr.heap.size)) (fun _ i _ => xs.length - (intOf i).toNat)
  case atStart => exact ⟨0, Nat.zero_le _, rfl, HO.out, F2, R, ⟨fun j hj q => by have := (hab j q).1; simp only [Value.ownBlock, Option.some.injEq] at hj; omega, Nat.le_refl _⟩⟩
  case round =>
    clear HO
    obtain ⟨k, hk, rfl, ho, hf, R, HU⟩ := hrel
    have hs := hf.size
    by_cases hlt : k < xs.length
    · have Rk := R
      obtain ⟨b, off, rfl, hc⟩ := Rk.at_ k (by simpa using hlt)
      have hck := hc k (by simpa using hlt)
      rw [getD_at (by simpa using hlt), List.getElem_map] at hck
      clear hc Rk
      have hLk := hL k hlt wr hf
      have HS : Hid (xs.take (k + 1) = xs.take k ++ [xs[k]]) := List.take_succ_eq_append_getElem hlt
      have hln : (xs.take k).length ≤ k := by simp; omega
      obtain ⟨e, he⟩ : ∃ e, e = xs[k] := ⟨_, rfl⟩
      rw [← he] at hck hLk HS
      clear he
      have HA := Fr.alloc wr (.cells #[.int .i64 e.o, .int .i64 e.n] 90)
      have HR : Hid (∀ w4, (wr.alloc (.cells #[.int .i64 e.o, .int .i64 e.n] 90)).grownBy w4 u3.ownBlock → Fr w w4 ∧ Reads w4 (some ⟨b, off, none⟩) (xs.map Ct.o) ∧ w2.heap.size ≤ w4.heap.size) := fun w4 g => ⟨(hf.trans HA).then g ho.blk, (R.fr HA).keep g (.inr (fun q => by
        cases hq : u3.ownBlock with
        | none => rw [hq] at q; simp [blk] at q
        | some j => rw [hq] at q; exact HU.out.1 j hq q)), by have := g.size; have := HA.size; have := HU.out.2; omega⟩
      have hw2 := HU.out.2
      have hb2 := hab b rfl
      have HU := HU.out.1
      obtain ⟨zo, zc⟩ := e
      simp only [valN] at hck hLk HA HR
      clear HA R
      have HU : Hid (∀ j, u3.ownBlock = some j → blk (some (⟨b, off, none⟩ : Addr)) ≠ some j) := HU
      go_wp2_with (at_builtin; refine appN2 _ rfl _ _ rfl w.heap.size u3 (xs.take k) ⟨zo, zc⟩ rfl ho rfl (by omega) hs ?_; intro v4 w4 hv4 hg4 hat4)
      obtain ⟨r1, r2, r3⟩ := HR.out w4 hg4
      go_roundw
      case rel =>
        refine ⟨k + 1, by omega, by go_num, by rw [HS.out]; exact hv4, r1, r2, ⟨fun j hj => ?_, r3⟩⟩
        rcases hat4 with q | q
        · rw [q] at hj; exact HU.out j hj
        · rw [q] at hj
          simp only [Option.some.injEq] at hj
          simp only [blk, Option.map_some, ne_eq, Option.some.injEq]
          omega
      case measure => simp [intOf]; omega
    · have e : xs.take k = xs := List.take_of_length_le (by omega)
      rw [e] at ho
      have HOX : Hid (OwnG layN wr w.heap.size u3 xs) := ho
      clear e ho
      go_wp2_with fail
      go_ret
      exact ⟨_, rfl, HOX.out, hf⟩

theorem appL2 (w : World) {ops : Array Oper} {rest : List Oper} {o : Oper} {a : Act} {Q : Exit → Act → World → Prop} (hgd : o.guard = none) (s x : Operand)
    (ho : o.op = .call { callee := .builtin .append, args := #[s, x], argTypes := #[24, 24] }) (base : Nat) (v : Value) (xs : List Lv) (e : Lv) (hs : a.eval s = v)
    (hown : OwnG layL w base v xs) (hx : a.eval x = .slice (some ⟨w.heap.size, 0, none⟩) 1 1) (hlen : xs.length ≤ 16777215) (hbase : base ≤ w.heap.size)
    (h : ∀ v' w', OwnG layL w' base v' (xs ++ [e]) → (w.alloc (.cells #[.int .i64 e.o, .int .i64 e.wr, .slice e.ro e.rn e.rc] 47)).grownBy w' v.ownBlock → (v'.ownBlock = v.ownBlock ∨ v'.ownBlock = some (w.heap.size + 1)) → wpList Tryz.prog ops Q rest (a.put o.dst v') w') :
    wpList Tryz.prog ops Q (o :: rest) a (w.alloc (.cells #[.int .i64 e.o, .int .i64 e.wr, .slice e.ro e.rn e.rc] 47)) :=
  appG layL _ hgd s x _ _ _ ho Tryz.underlying24 Tryz.infoL rfl (by decide) base v xs e hs (hown.fr (Fr.alloc _ _)) _ _ hx (newL w e) hlen (Nat.le_trans hbase (Fr.alloc w _).size) (fun v' w' a b c => h v' w' a b (by simpa using c))

set_option maxRecDepth 20000 in
set_option maxHeartbeats 2000000 in
theorem ordL_any (mb n : Nat) (f : Int → Option Value) (xs : List Lv) (w : World) (M : MapF w mb n f) (hr : (xs.map Lv.o).Pairwise (· < ·)) (hk : ∀ o, o ∈ xs.map Lv.o ↔ (f o).isSome = true) (hv : ∀ j (hj : j < xs.length), f (Lv.o xs[j]) = some (valL xs[j])) (hi : ∀ o ∈ xs.map Lv.o, I64 o) (hn : n ≤ 4000000) (hl : xs.length ≤ 1048576) :
    Calls Tryz.prog 105 #[.map (some mb)] w fun e w' => ∃ v, e = .returned v ∧ OwnG layL w' w.heap.size v xs ∧ Fr w w' := by
  have fE := Fr.alloc w (.cells #[] 47)
  have cK := keysL_any mb (w.alloc (.cells #[] 47))
  have cS := sortedL_any mb n f (xs.map Lv.o) (w.alloc (.cells #[] 47)) (M.fr fE) hr hk hi hn
  have hL : ∀ j (hj : j < xs.length) u, Fr w u → (Instr.lookup 130 (.map (some mb)) (.int .i64 (Lv.o xs[j])) false).run Tryz.prog u = .ok (valL xs[j]) u := fun j hj u fu => by
    rw [(M.fr fu).look Tryz.underlying130 (zeroL u) (hi _ (List.mem_map_of_mem (List.getElem_mem hj))), hv j hj]
    rfl
  have hlen : (xs.map Lv.o).length = xs.length := by simp
  rw [hlen] at cS
  simp only [World.size_alloc] at cS
  have HO : Hid (OwnG layL (w.alloc (.cells #[] 47)) w.heap.size (.slice (some ⟨w.heap.size, 0, none⟩) 0 0) []) := ownG_new layL w _ (Nat.le_refl _)
  clear M hr hk hv hi hlen
  go_enter Tryz.func105, Tryz.ntmps105
  go_wp2_with fail
  refine cK.mono ?_
  rintro e w1 ⟨rfl, rfl⟩
  clear cK
  go_wp2_with fail
  refine cS.mono ?_
  rintro e w2 ⟨ao, cap, rfl, R, hab, f2⟩
  clear cS
  have F2 := fE.trans f2
  have HO : Hid (OwnG layL w2 w.heap.size (.slice (some ⟨w.heap.size, 0, none⟩) 0 0) []) := HO.out.fr f2
  clear fE f2
  go_wp2_with fail
  go_loopw [3, 11] (fun u i wr => ∃ k : Nat, k ≤ xs.length ∧ i = .int .i64 k ∧ OwnG layL wr w.heap.size u (xs.take k) ∧ Fr w wr ∧ Reads wr ao (xs.map Lv.o) ∧ Hid ((∀ j, u.ownBlock = some j → blk ao ≠ some j) ∧ w2.heap.size ≤ wr.heap.size)) (fun _ i _ => xs.length - (intOf i).toNat)
  case atStart => exact ⟨0, Nat.zero_le _, rfl, HO.out, F2, R, ⟨fun j hj q => by have := (hab j q).1; simp only [Value.ownBlock, Option.some.injEq] at hj; omega, Nat.le_refl _⟩⟩
  case round =>
    clear HO
    obtain ⟨k, hk, rfl, ho, hf, R, HU⟩ := hrel
    have hs := hf.size
    by_cases hlt : k < xs.length
    · have Rk := R
      obtain ⟨b, off, rfl, hc⟩ := Rk.at_ k (by simpa using hlt)
      have hck := hc k (by simpa using hlt)
      rw [getD_at (by simpa using hlt), List.getElem_map] at hck
      clear hc Rk
      have hLk := hL k hlt wr hf
      have HS : Hid (xs.take (k + 1) = xs.take k ++ [xs[k]]) := List.take_succ_eq_append_getElem hlt
      have hln : (xs.take k).length ≤ k := by simp; omega
      obtain ⟨e, he⟩ : ∃ e, e = xs[k] := ⟨_, rfl⟩
      rw [← he] at hck hLk HS
      clear he
      have HA := Fr.alloc wr (.cells #[.int .i64 e.o, .int .i64 e.wr, .slice e.ro e.rn e.rc] 47)
      have HR : Hid (∀ w4, (wr.alloc (.cells #[.int .i64 e.o, .int .i64 e.wr, .slice e.ro e.rn e.rc] 47)).grownBy w4 u3.ownBlock → Fr w w4 ∧ Reads w4 (some ⟨b, off, none⟩) (xs.map Lv.o) ∧ w2.heap.size ≤ w4.heap.size) := fun w4 g => ⟨(hf.trans HA).then g ho.blk, (R.fr HA).keep g (.inr (fun q => by
        cases hq : u3.ownBlock with
        | none => rw [hq] at q; simp [blk] at q
        | some j => rw [hq] at q; exact HU.out.1 j hq q)), by have := g.size; have := HA.size; have := HU.out.2; omega⟩
      have hw2 := HU.out.2
      have hb2 := hab b rfl
      have HU := HU.out.1
      obtain ⟨zo, zc, zr, zn, zk⟩ := e
      simp only [valL] at hck hLk HA HR
      clear HA R
      have HU : Hid (∀ j, u3.ownBlock = some j → blk (some (⟨b, off, none⟩ : Addr)) ≠ some j) := HU
      go_wp2_with (at_builtin; refine appL2 _ rfl _ _ rfl w.heap.size u3 (xs.take k) ⟨zo, zc, zr, zn, zk⟩ rfl ho rfl (by omega) hs ?_; intro v4 w4 hv4 hg4 hat4)
      obtain ⟨r1, r2, r3⟩ := HR.out w4 hg4
      go_roundw
      case rel =>
        refine ⟨k + 1, by omega, by go_num, by rw [HS.out]; exact hv4, r1, r2, ⟨fun j hj => ?_, r3⟩⟩
        rcases hat4 with q | q
        · rw [q] at hj; exact HU.out j hj
        · rw [q] at hj
          simp only [Option.some.injEq] at hj
          simp only [blk, Option.map_some, ne_eq, Option.some.injEq]
          omega
      case measure => simp [intOf]; omega
    · have e : xs.take k = xs := List.take_of_length_le (by omega)
      rw [e] at ho
      have HOX : Hid (OwnG layL wr w.heap.size u3 xs) := ho
      clear e ho
      go_wp2_with fail
      go_ret
      exact ⟨_, rfl, HOX.out, hf⟩
end Go.Proofs.YtihdablgnmkjnaaGreatDoor
/-
  inOrder of numbers.
-/
namespace Go.Proofs.YtihdablgnmkjnaaGreatDoor
open Go.RowKit

set_option maxRecDepth 20000 in
set_option maxHeartbeats 2000000 in
theorem ordI_any (mb n : Nat) (f : Int → Option Value) (xs : List Int) (w : World) (M : MapF w mb n f) (hr : xs.Pairwise (· < ·)) (hk : ∀ o, o ∈ xs ↔ (f o).isSome = true) (hv : ∀ j (hj : j < xs.length), f xs[j] = some (valI xs[j])) (hi : ∀ o ∈ xs, I64 o) (hn : n ≤ 4000000) (hl : xs.length ≤ 1048576) :
    Calls Tryz.prog 108 #[.map (some mb)] w fun e w' => ∃ v, e = .returned v ∧ OwnS w' w.heap.size v xs ∧ Fr w w' := by
  have fE := Fr.alloc w (.cells #[] 2)
  have cK := keysI_any mb (w.alloc (.cells #[] 2))
  have cS := sortedI_any mb n f xs (w.alloc (.cells #[] 2)) (M.fr fE) hr hk hi hn
  have hL : ∀ j (hj : j < xs.length) u, Fr w u → (Instr.lookup 139 (.map (some mb)) (.int .i64 xs[j]) false).run Tryz.prog u = .ok (.int .i64 xs[j]) u := fun j hj u fu => by
    rw [(M.fr fu).look Tryz.underlying139 (zeroI u) (hi _ (List.getElem_mem hj)), hv j hj]
    rfl
  simp only [World.size_alloc] at cS
  have HO : Hid (OwnS (w.alloc (.cells #[] 2)) w.heap.size (.slice (some ⟨w.heap.size, 0, none⟩) 0 0) []) := own_empty w _ (Nat.le_refl _)
  clear M hr hk hv
  go_enter Tryz.func108, Tryz.ntmps108
  go_wp2_with fail
  refine cK.mono ?_
  rintro e w1 ⟨rfl, rfl⟩
  clear cK
  go_wp2_with fail
  refine cS.mono ?_
  rintro e w2 ⟨ao, cap, rfl, R, hab, f2⟩
  clear cS
  have F2 := fE.trans f2
  have HO : Hid (OwnS w2 w.heap.size (.slice (some ⟨w.heap.size, 0, none⟩) 0 0) []) := HO.out.fr f2
  clear fE f2
  go_wp2_with fail
  go_loopw [3, 11] (fun u i wr => ∃ k : Nat, k ≤ xs.length ∧ i = .int .i64 k ∧ OwnS wr w.heap.size u (xs.take k) ∧ Fr w wr ∧ Reads wr ao xs ∧ Hid ((∀ j, u.ownBlock = some j → blk ao ≠ some j) ∧ w2.heap.size ≤ wr.heap.size)) (fun _ i _ => xs.length - (intOf i).toNat)
  case atStart => exact ⟨0, Nat.zero_le _, rfl, HO.out, F2, R, ⟨fun j hj q => by have := (hab j q).1; simp only [Value.ownBlock, Option.some.injEq] at hj; omega, Nat.le_refl _⟩⟩
  case round =>
    clear HO
    obtain ⟨k, hk, rfl, ho, hf, R, HU⟩ := hrel
    have hs := hf.size
    by_cases hlt : k < xs.length
    · have Rk := R
      obtain ⟨b, off, rfl, hc⟩ := Rk.at_ k hlt
      have hck := hc k hlt
      rw [getD_at hlt] at hck
      clear hc Rk
      have hI := hi _ (List.getElem_mem hlt)
      have hLk := hL k hlt wr hf
      have HS : Hid (xs.take (k + 1) = xs.take k ++ [xs[k]]) := List.take_succ_eq_append_getElem hlt
      have hln : (xs.take k).length ≤ k := by simp; omega
      obtain ⟨z, hz⟩ : ∃ z, z = xs[k] := ⟨_, rfl⟩
      rw [← hz] at hck hLk HS hI
      clear hz
      have HA := Fr.alloc wr (.cells #[.int .i64 z] 2)
      have HR : Hid (∀ w4, (wr.alloc (.cells #[.int .i64 z] 2)).grownBy w4 u3.ownBlock → Fr w w4 ∧ Reads w4 (some ⟨b, off, none⟩) xs ∧ w2.heap.size ≤ w4.heap.size) := fun w4 g => ⟨(hf.trans HA).then g ho.blk, (R.fr HA).keep g (.inr (fun q => by
        cases hq : u3.ownBlock with
        | none => rw [hq] at q; simp [blk] at q
        | some j => rw [hq] at q; exact HU.out.1 j hq q)), by have := g.size; have := HA.size; have := HU.out.2; omega⟩
      have hw2 := HU.out.2
      have hb2 := hab b rfl
      have HU := HU.out.1
      clear HA R
      have HU : Hid (∀ j, u3.ownBlock = some j → blk (some (⟨b, off, none⟩ : Addr)) ≠ some j) := HU
      have hm := reads_one wr z hI
      go_wp2_with (at_builtin; refine appI2 _ rfl _ _ rfl w.heap.size _ _ [z] rfl (ho.fr (Fr.alloc _ _)) _ _ _ rfl rfl (by simp) hm (by simp; omega) (by simp; omega) ?_; intro v4 w4 hv4 hg4 hat4)
      obtain ⟨r1, r2, r3⟩ := HR.out w4 hg4
      go_roundw
      case rel =>
        refine ⟨k + 1, by omega, by go_num, by rw [HS.out]; exact hv4, r1, r2, ⟨fun j hj => ?_, r3⟩⟩
        rcases hat4 with q | q
        · rw [q] at hj; exact HU.out j hj
        · rw [q] at hj
          simp only [Option.some.injEq, World.size_alloc] at hj
          simp only [blk, Option.map_some, ne_eq, Option.some.injEq]
          omega
      case measure => simp [intOf]; omega
    · have e : xs.take k = xs := List.take_of_length_le (by omega)
      rw [e] at ho
      have HOX : Hid (OwnS wr w.heap.size u3 xs) := ho
      clear e ho
      go_wp2_with fail
      go_ret
      exact ⟨_, rfl, HOX.out, hf⟩
end Go.Proofs.YtihdablgnmkjnaaGreatDoor
