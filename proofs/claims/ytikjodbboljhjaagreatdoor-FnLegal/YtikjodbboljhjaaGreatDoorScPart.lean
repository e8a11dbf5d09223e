/-
  The legal part of a trace: impl.legalPartOf.
-/
import Derived.Test.YtikjodbboljhjaaGreatDoorScIter
namespace Go.Proofs.YtikjodbboljhjaaGreatDoor
open Go.RowKit Go.Shelf
attribute [local go_sem] Oper.semAt_some

theorem implNew_any (B : Nat → Prop) (w : World) :
    Calls Tryz.prog 124 #[] w fun e w' => ∃ s : Sv, e = .returned (.agg #[.int .i64 s.g, .slice s.lo s.ll s.lc, .slice s.co s.cl s.cc, .slice s.no s.nl s.nc, .slice s.oo s.ol s.oc]) ∧ ScR B w' s scn0 ∧ Fr w w' := by
  go_enter Tryz.func124, Tryz.ntmps124
  go_wp2
  refine bodyPost_ret (v := .agg #[.int .i64 1, .slice none 0 0, .slice none 0 0, .slice none 0 0, .slice none 0 0]) (by simp [results, Tryz.results124, go_sem]) rfl ⟨⟨1, none, 0, 0, none, 0, 0, none, 0, 0, none, 0, 0⟩, rfl, scR_new _ _, Fr.alloc _ _⟩

/-- The board of a new scene. -/
theorem boardNew_any (s : Sv) (w : World) (h : ScR (fun _ => False) w s scn0) :
    Calls Tryz.prog 39 #[.agg #[.int .i64 s.g, .slice s.lo s.ll s.lc, .slice s.co s.cl s.cc, .slice s.no s.nl s.nc, .slice s.oo s.ol s.oc]] w fun e w' => ∃ b b1 b2 b3 b4, e = .returned (.pointer (some ⟨b, 0, none⟩)) ∧ w.heap.size ≤ b1 ∧ (∀ lo u, Fr w' u → b < lo → lo ≤ u.heap.size → BoardW (0, lo) u b b1 b2 b3 b4 1048576 scn0) ∧ b < w'.heap.size ∧ Fr w w' := by
  obtain ⟨lvs, r1, e1, l1⟩ := h.lks
  refine (boardOf_any s scn0 lvs w h r1 e1 l1).mono ?_
  rintro e w' ⟨b, b1, b2, b3, b4, rfl, ⟨q0, q1, q2, q3, q4⟩, Bd, f⟩
  have M := boardM_of (B := fun _ => False) (by decide) (l1.fr f) h.sl h.sc h.sn h.so Bd
  refine ⟨b, b1, b2, b3, b4, rfl, q0, fun lo u g hl hs => ?_, (Array.getElem?_eq_some_iff.1 Bd.row).1, f⟩
  obtain ⟨fl, p1, p2⟩ := M.m1
  exact ⟨⟨Nat.zero_le _, hl, hs⟩, (g.block b (Array.getElem?_eq_some_iff.1 Bd.row).1 (by simp)).trans Bd.row, ⟨q1, q2, q3, q4⟩, ⟨fl, p1.fr g, fun o => ((p2 o).keep g (by simp)).mono (fun _ q => q.elim)⟩, M.m2.fr g, M.m3.fr g, M.m4.fr g⟩

/-- The iterator's making: two boxes. -/
theorem codes_any (b n c : Nat) (ao : Option Addr) (w : World) :
    Calls Tryz.prog 125 #[.pointer (some ⟨b, 0, none⟩), .slice ao n c] w fun e w' => e = .returned (.func (.func 162) #[] #[.pointer (some ⟨w.heap.size + 1, 0, none⟩), .pointer (some ⟨w.heap.size, 0, none⟩)]) ∧ w' = (w.alloc (.cells #[.pointer (some ⟨b, 0, none⟩)] 71)).alloc (.cells #[.slice ao n c] 39) := by
  go_enter Tryz.func125, Tryz.ntmps125
  go_wp2_with fail
  go_ret
  exact ⟨rfl, rfl⟩

set_option maxRecDepth 20000 in
set_option maxHeartbeats 4000000 in
theorem legalPartOf_any (ao : Option Addr) (n c : Nat) (es : List Ev) (w : World) (hn : es.length = n) (h : ReadsE w ao es) (hl : es.length ≤ 300) (hs : Shapes w) (hab : ∀ k, blk ao = some k → k < w.heap.size) :
    Calls Tryz.prog 61 #[.slice ao n c] w fun x w' => ∃ lo b b1 b2 b3 b4, x = .returned (.agg #[.int .i64 (legS scn0 es).2.1, .int .i64 (legS scn0 es).2.2, .pointer (some ⟨b, 0, none⟩)]) ∧ BoardW lo w' b b1 b2 b3 b4 2000000 (legS scn0 es).1 ∧ w.heap.size ≤ b1 ∧ Fr w w' := by
  subst hn
  have hsh : 0 < w.heap.size := World.block_lt_of_cell? w _ (hs 0 (by omega)).1
  refine (callsIn_wide (n := 6)).1 ?_
  have h1 : Fence.wide.fn 124 := trivial
  have h2 : Fence.wide.fn 39 := trivial
  have h3 : Fence.wide.fn 125 := trivial
  refine callsIn_of_wp_marks Tryz.func61 rfl trivial ?_ rfl
  simp only [Tryz.ntmps61, List.size_toArray, List.length_cons, List.length_nil, Nat.reduceAdd, Nat.reduceSub, Array.replicate_succ, Array.replicate_zero, List.push_toArray, List.append_toArray, List.nil_append, List.cons_append]
  gi_wp2_with (first
    | (gi_at_call 124; refine (callsIn_wide.2 (implNew_any (fun _ => False) _)).mono ?_; rintro x w1 ⟨s, rfl, S1, f1⟩)
    | (gi_at_call 39; refine (callsIn_wide.2 (boardNew_any s _ S1)).mono ?_; rintro x w2 ⟨b, b1, b2, b3, b4, rfl, hb1, hB, hb, f2⟩)
    | (gi_at_call 125; refine (callsIn_wide.2 (codes_any b es.length c ao _)).mono ?_; rintro x w3 ⟨rfl, rfl⟩))
  have f0 := Fr.alloc w (.cells #[.int .i64 0, .int .i64 0, .pointer none] 96)
  have r0 : (w.alloc (.cells #[.int .i64 0, .int .i64 0, .pointer none] 96)).heap[w.heap.size]? = some (.cells #[.int .i64 0, .int .i64 0, .pointer none] 96 (0, 0)) := heap_alloc_new w _
  have r0lt : w.heap.size < (w.alloc (.cells #[.int .i64 0, .int .i64 0, .pointer none] 96)).heap.size := (Array.getElem?_eq_some_iff.1 r0).1
  have g1 := Fr.alloc w2 (.cells #[.int .i64 0, .int .i64 0, .pointer (some ⟨b, 0, none⟩)] 96)
  have g2 := Fr.alloc (w2.alloc (.cells #[.int .i64 0, .int .i64 0, .pointer (some ⟨b, 0, none⟩)] 96)) (.cells #[.pointer (some ⟨b, 0, none⟩)] 71)
  have g3 := Fr.alloc ((w2.alloc (.cells #[.int .i64 0, .int .i64 0, .pointer (some ⟨b, 0, none⟩)] 96)).alloc (.cells #[.pointer (some ⟨b, 0, none⟩)] 71)) (.cells #[.slice ao es.length c] 39)
  have P0 : PartAt (((w2.alloc (.cells #[.int .i64 0, .int .i64 0, .pointer (some ⟨b, 0, none⟩)] 96)).alloc (.cells #[.pointer (some ⟨b, 0, none⟩)] 71)).alloc (.cells #[.slice ao es.length c] 39)) w2.heap.size 0 0 b :=
    ((g2.trans g3).block _ (by simp) (by simp)).trans (heap_alloc_new w2 _)
  have q0 : (((w2.alloc (.cells #[.int .i64 0, .int .i64 0, .pointer (some ⟨b, 0, none⟩)] 96)).alloc (.cells #[.pointer (some ⟨b, 0, none⟩)] 71)).alloc (.cells #[.slice ao es.length c] 39)).cell? ⟨w2.heap.size + 1, 0, none⟩ = some (.pointer (some ⟨b, 0, none⟩)) := by simp [go_sem]
  have x0 : (((w2.alloc (.cells #[.int .i64 0, .int .i64 0, .pointer (some ⟨b, 0, none⟩)] 96)).alloc (.cells #[.pointer (some ⟨b, 0, none⟩)] 71)).alloc (.cells #[.slice ao es.length c] 39)).cell? ⟨w2.heap.size + 1 + 1, 0, none⟩ = some (.slice ao es.length c) := by simp [go_sem]
  have z0 : (((w2.alloc (.cells #[.int .i64 0, .int .i64 0, .pointer (some ⟨b, 0, none⟩)] 96)).alloc (.cells #[.pointer (some ⟨b, 0, none⟩)] 71)).alloc (.cells #[.slice ao es.length c] 39)).heap.size = w2.heap.size + 3 := by simp
  have F3 := g1.trans (g2.trans g3)
  clear g1 g2 g3
  obtain ⟨W0, hW0⟩ : ∃ W0, W0 = (((w2.alloc (.cells #[.int .i64 0, .int .i64 0, .pointer (some ⟨b, 0, none⟩)] 96)).alloc (.cells #[.pointer (some ⟨b, 0, none⟩)] 71)).alloc (.cells #[.slice ao es.length c] 39)) := ⟨_, rfl⟩
  rw [← hW0] at P0 q0 x0 z0 F3 ⊢
  obtain ⟨rb, hrb⟩ : ∃ rb, rb = w.heap.size := ⟨_, rfl⟩
  rw [← hrb] at r0 r0lt ⊢
  obtain ⟨pb, hpb⟩ : ∃ pb, pb = w2.heap.size := ⟨_, rfl⟩
  rw [← hpb] at P0 q0 x0 z0 ⊢
  have FW := f0.trans (f1.trans (f2.trans F3))
  have R0 : W0.heap[rb]? = some (.cells #[.int .i64 0, .int .i64 0, .pointer none] 96 (0, 0)) := ((f1.trans (f2.trans F3)).block rb r0lt (by simp)).trans r0
  have hlt : rb < b1 ∧ b < pb := by
    have := f1.size
    omega
  have HE : Hid (ReadsE w ao es ∧ Shapes w) := ⟨h, hs⟩
  have HZ : Hid (W0.heap.size = pb + 3 ∧ pb = w2.heap.size ∧ rb = w.heap.size) := ⟨z0, hpb, hrb⟩
  have HLT : Hid ((b1 < b2 ∧ b2 < b3 ∧ b3 < b4 ∧ b4 < b) ∧ rb < b1 ∧ b < pb) := ⟨(hB (b + 1) w2 (Fr.refl w2) (by omega) (by omega)).lt, hlt⟩
  clear hW0 r0 r0lt f0 f1 h hs S1 z0 hpb hrb hlt hb1 hb f2
  refine wpIn_range (w := W0) rfl (by omega) (gf := 162) (lb := #[.pointer (some ⟨pb + 1 + 1, 0, none⟩), .pointer (some ⟨pb + 1, 0, none⟩)]) rfl trivial (enters_of Tryz.func162 (by kernel_rfl) rfl) (fun x : Int => #[.int .i64 x]) (fun _ => rfl)
    (fun x W => ∃ z c, PartAt W pb z c b ∧ 0 ≤ z ∧ z ≤ 1000000) (fun x W W' => RoundOf pb (W0.heap.size + 1) b x W W')
    (fun W => PartAt W pb (legS scn0 es).2.1 (legS scn0 es).2.2 b ∧ BoardW (0, pb + 5) W b b1 b2 b3 b4 (1048576 + 400) (legS scn0 es).1 ∧ W.heap[rb]? = some (.cells #[.int .i64 0, .int .i64 0, .pointer none] 96 (0, 0)) ∧ Fr w W)
    (fun x => { tmps := #[.slice ao es.length c, undef, .pointer (some ⟨rb, 0, none⟩), .pointer (some ⟨pb, 0, none⟩), .int .i64 x, .agg #[.int .i64 s.g, .slice s.lo s.ll s.lc, .slice s.co s.cl s.cc, .slice s.no s.nl s.nc, .slice s.oo s.ol s.oc], .pointer (some ⟨b, 0, none⟩), .agg #[.int .i64 0, .int .i64 0, .pointer (some ⟨b, 0, none⟩)], .pointer (some ⟨pb, 2, none⟩), .pointer (some ⟨b, 0, none⟩), .slice ao es.length c, .func (.func 162) #[] #[.pointer (some ⟨pb + 1 + 1, 0, none⟩), .pointer (some ⟨pb + 1, 0, none⟩)], .int .i64 x, undef, undef, undef, undef, undef, undef, undef, undef, undef], defers := [] }) ?assign ?body ?hPre ?hPost ?hit ?done
  case assign =>
    intro l x W K hK
    gi_wp2
    exact hK
  case hPre =>
    rintro x W o o' hl ⟨z, c, hp, hz⟩
    have hq := HZ.out
    exact ⟨z, c, (World.putObj_heap_other (by omega)).trans hp, hz⟩
  case hPost =>
    intro x W W3 o1 o3 hp z c h1
    have hq := HZ.out
    obtain ⟨p3, f3⟩ := hp z c ((World.putObj_heap_other (by omega)).trans h1)
    exact ⟨(World.putObj_heap_other (by omega)).trans p3, (grown_toS (grownBy_putObj' W _ o1) (.inr rfl)).trans (f3.trans (grown_toS (grownBy_putObj' W3 _ o3) (.inr rfl)))⟩
  case hit =>
    intro W1 Rec hb hs1 hR hRl hRt hY
    have hq := HZ.out
    have hlt := HLT.out
    have fb : Fr W0 W1 := ⟨hb.1, hb.2, hb.3, hb.4, fun k hk _ => hb.5 k hk⟩
    have hB1 := hB (pb + 5) W1 (F3.trans fb) (by omega) (by omega)
    have fw := FW.trans fb
    have c1 := codes1_in 5 (by omega) (W0.heap.size + 1) pb (pb + 1) (pb + 1 + 1) b b1 b2 b3 b4 (0, pb + 5) 1048576 ao c es W1 Rec (fun A B hA q1 q2 => hRl A B hA q1 q2) hR hRt hY hB1 (by omega) (HE.out.2.fr fw) ((fb.block pb P0.lt (by simp)).trans P0) (HE.out.1.fr fw) hl (fb.cell x0) (fb.cell q0) (by omega) (fun k hk => by have := hab k hk; omega) (by omega)
    refine CallsIn.mono c1 ?_
    rintro e W' ⟨hv, r1, p1, B1, f1⟩
    refine ⟨hv, r1, p1, B1, ?_, ?_⟩
    · refine (f1.block rb (by have := fb.size; omega) (fun q => ?_)).trans ((fb.block rb (by omega) (by simp)).trans R0)
      simp only [Kept, On] at q
      omega
    · refine fw.thenS f1 (fun j q => ?_)
      simp only [Kept, On] at q
      omega
  case body =>
    rintro l x W ⟨z, c, hp, hz⟩
    have c0 : W.cell? ⟨pb, 0, none⟩ = some (.int .i64 z) := cell_of_row W pb 0 _ _ _ hp
    have c1 : W.cell? ⟨pb, 1, none⟩ = some (.int .i64 c) := cell_of_row W pb 1 _ _ _ hp
    have j0 := frozen_of_row W pb 0 _ _ hp
    have j1 := frozen_of_row W pb 1 _ _ hp
    have hw : IntKind.i64.wrap (z + 1) = z + 1 := by rw [IntKind.wrap_i64]; omega
    have HP : Hid (PartAt W pb z c b) := hp
    clear hp
    by_cases hx : x = 0
    · have hxb : (x == 0) = true := by simpa using hx
      have HX : Hid (x = 0) := hx
      clear hx
      gi_wp2
      refine ⟨(KeepsOthers.setCell _ _ _).trans (KeepsOthers.setCell _ _ _), fun z' c' hp' => ?_⟩
      have e := (HP.out : W.heap[pb]? = _).symm.trans hp'
      simp at e
      obtain ⟨rfl, rfl⟩ := e
      rw [if_pos HX.out]
      have s1 := heap_setCell_same W pb 1 _ _ (.int .i64 x) HP.out
      exact ⟨heap_setCell_same _ pb 0 _ _ (.int .i64 (z + 1)) s1, (grown_toS (grown_set W pb 1 _) (.inl rfl)).trans (grown_toS (grown_set _ pb 0 _) (.inl rfl))⟩
    · have hxb : (x == 0) = false := by simpa using hx
      have HX : Hid (¬ x = 0) := hx
      clear hx
      gi_wp2
      refine ⟨KeepsOthers.setCell _ _ _, fun z' c' hp' => ?_⟩
      have e := (HP.out : W.heap[pb]? = _).symm.trans hp'
      simp at e
      obtain ⟨rfl, rfl⟩ := e
      rw [if_neg HX.out]
      exact ⟨heap_setCell_same W pb 1 _ _ (.int .i64 x) HP.out, grown_toS (grown_set W pb 1 _) (.inl rfl)⟩
  case done =>
    rintro W o ⟨p1, B1, r1, f1⟩ hK
    have hq := HZ.out
    have hlt := HLT.out
    have k1 : FrS (fun k => k = W0.heap.size + 1) W (W.putObj (W0.heap.size + 1) o) := grown_toS (grownBy_putObj' W _ o) rfl
    have p1 := p1.keepS k1 (by omega)
    have B1 := B1.keepS k1 (fun x q => ⟨fun q2 => by simp only [On] at q2; omega, by simp only; omega, by simp only; omega⟩)
    have r1 : (W.putObj (W0.heap.size + 1) o).heap[rb]? = some (.cells #[.int .i64 0, .int .i64 0, .pointer none] 96 (0, 0)) := (World.putObj_heap_other (by omega)).trans r1
    have f1 := f1.thenS k1 (fun j q => by omega)
    have hrp : rb ≠ pb := by omega
    have hrd : rb ≠ W0.heap.size := by omega
    have hrw : w.heap.size ≤ rb := by omega
    have hdw : w.heap.size ≤ W0.heap.size := by omega
    have hbr : rb < b1 := by omega
    have hbd : b < W0.heap.size ∧ W0.heap.size < pb + 5 := by omega
    have hbb := hlt.1
    have hrpb : rb < pb := by omega
    clear k1 hq hlt
    obtain ⟨V, hV⟩ : ∃ V, V = W.putObj (W0.heap.size + 1) o := ⟨_, rfl⟩
    rw [← hV] at p1 B1 r1 f1 hK ⊢
    clear hV
    obtain ⟨z, hz⟩ : ∃ z : Int, z = (legS scn0 es).2.1 := ⟨_, rfl⟩
    rw [← hz] at p1
    have Hz : Hid (z = (legS scn0 es).2.1) := hz
    obtain ⟨cc, hcc⟩ : ∃ z, z = (legS scn0 es).2.2 := ⟨_, rfl⟩
    rw [← hcc] at p1
    have Hc : Hid (cc = (legS scn0 es).2.2) := hcc
    clear hz hcc
    have c0 : V.cell? ⟨pb, 0, none⟩ = some (.int .i64 z) := cell_of_row V pb 0 _ _ _ p1
    have c1 : V.cell? ⟨pb, 1, none⟩ = some (.int .i64 cc) := cell_of_row V pb 1 _ _ _ p1
    have c2 : V.cell? ⟨pb, 2, none⟩ = some (.pointer (some ⟨b, 0, none⟩)) := cell_of_row V pb 2 _ _ _ p1
    have d0 : V.cell? ⟨rb, 0, none⟩ = some (.int .i64 0) := cell_of_row V rb 0 _ _ _ r1
    have d1 : V.cell? ⟨rb, 1, none⟩ = some (.int .i64 0) := cell_of_row V rb 1 _ _ _ r1
    have d2 : V.cell? ⟨rb, 2, none⟩ = some (.pointer none) := cell_of_row V rb 2 _ _ _ r1
    have jf := fun i => frozen_of_row V rb i _ _ r1
    gi_wp2
    clear c0 c1 c2 d0 d1 d2 jf
    have s0 := heap_setCell_same V rb 0 _ _ (.int .i64 z) r1
    have s1 := heap_setCell_same _ rb 1 _ _ (.int .i64 cc) s0
    have s2 := heap_setCell_same _ rb 2 _ _ (.pointer (some ⟨b, 0, none⟩)) s1
    have kU : FrS (fun k => k = rb) V (((V.setCell ⟨rb, 0, none⟩ (.int .i64 z)).setCell ⟨rb, 1, none⟩ (.int .i64 cc)).setCell ⟨rb, 2, none⟩ (.pointer (some ⟨b, 0, none⟩))) := ((grown_toS (S := fun k => k = rb) (grown_set V rb 0 _) rfl).trans (grown_toS (S := fun k => k = rb) (grown_set _ rb 1 _) rfl)).trans (grown_toS (S := fun k => k = rb) (grown_set _ rb 2 _) rfl)
    have R3 : (((V.setCell ⟨rb, 0, none⟩ (.int .i64 z)).setCell ⟨rb, 1, none⟩ (.int .i64 cc)).setCell ⟨rb, 2, none⟩ (.pointer (some ⟨b, 0, none⟩))).heap[rb]? = some (.cells #[.int .i64 z, .int .i64 cc, .pointer (some ⟨b, 0, none⟩)] 96 (0, 0)) := s2
    clear s0 s1 s2
    obtain ⟨U, hU⟩ : ∃ U, U = (((V.setCell ⟨rb, 0, none⟩ (.int .i64 z)).setCell ⟨rb, 1, none⟩ (.int .i64 cc)).setCell ⟨rb, 2, none⟩ (.pointer (some ⟨b, 0, none⟩))) := ⟨_, rfl⟩
    rw [← hU] at kU R3 ⊢
    clear hU
    have hKU : U.heap[W0.heap.size]? = some (.deferred (some [])) := (kU.block _ (Array.getElem?_eq_some_iff.1 hK).1 (fun q => hrd q.symm)).trans hK
    refine ⟨by simp, .inl ⟨_, _, rfl, run_takeDeferred hKU, ?_⟩⟩
    have kT : FrS (fun k => k = W0.heap.size) U (U.putObj W0.heap.size (.deferred none)) := grown_toS (grownBy_putObj' U _ _) rfl
    have R4 : (U.putObj W0.heap.size (.deferred none)).heap[rb]? = some (.cells #[.int .i64 z, .int .i64 cc, .pointer (some ⟨b, 0, none⟩)] 96 (0, 0)) := (kT.block rb (Array.getElem?_eq_some_iff.1 R3).1 hrd).trans R3
    have d0 : (U.putObj W0.heap.size (.deferred none)).cell? ⟨rb, 0, none⟩ = some (.int .i64 z) := cell_of_row _ rb 0 _ _ _ R4
    have d1 : (U.putObj W0.heap.size (.deferred none)).cell? ⟨rb, 1, none⟩ = some (.int .i64 cc) := cell_of_row _ rb 1 _ _ _ R4
    have d2 : (U.putObj W0.heap.size (.deferred none)).cell? ⟨rb, 2, none⟩ = some (.pointer (some ⟨b, 0, none⟩)) := cell_of_row _ rb 2 _ _ _ R4
    refine ⟨.agg #[.int .i64 z, .int .i64 cc, .pointer (some ⟨b, 0, none⟩)], by simp [results, Tryz.results61, go_sem, d0, d1, d2], (0, pb + 5), b, b1, b2, b3, b4, by rw [Hz.out, Hc.out], ?_, by omega, (f1.thenS kU (fun j q => by omega)).thenS kT (fun j q => by omega)⟩
    exact ((B1.keepS kU (fun x q => ⟨fun q2 => by simp only [On] at q2; omega, by simp only; omega, by simp only; omega⟩)).keepS kT (fun x q => ⟨fun q2 => by simp only [On] at q2; omega, by simp only; omega, by simp only; omega⟩)).mono (by omega)
end Go.Proofs.YtikjodbboljhjaaGreatDoor
