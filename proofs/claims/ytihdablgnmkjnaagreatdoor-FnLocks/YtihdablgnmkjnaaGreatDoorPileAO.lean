/-
  do: what an event makes of a board.
-/
import Derived.Test.YtihdablgnmkjnaaGreatDoorPileAN
import Derived.Test.YtihdablgnmkjnaaGreatDoorPileAF
import Derived.Test.YtihdablgnmkjnaaGreatDoorPileAA
import Derived.Laws.AppendOwnNone
namespace Go.Proofs.YtihdablgnmkjnaaGreatDoor
open Go.RowKit

/-- A lock without Readers put into its map. -/
theorem BoardW.putLk0 {w W w' : World} {lo : Nat × Nat} {b b1 b2 b3 b4 n : Nat} {m : Scn} {o wr : Int} {F : Int → Option Value} (h : BoardW lo w b b1 b2 b3 b4 n m) (hm : scB m = true) (f : Fr w W) (hF : ∀ o, LkAt (Off lo) w (F o) (m.ls.find? fun l => l.o == o))
    (k : W.grownBy w' (some b1)) (M : MapF w' b1 (n + 1) (putM F o (.agg #[.int .i64 o, .int .i64 wr, .slice none 0 0]))) (ho : I64 o) (hw : I64 wr) (hfree : lkFree ⟨o, wr, []⟩ = false) :
    BoardW lo w' b b1 b2 b3 b4 (n + 1) (setLk m ⟨o, wr, []⟩) := by
  refine (h.fr f).setL hm (Nat.le_succ n) k M fun fl _ _ o' => ?_
  unfold putM
  split
  · rename_i e
    rw [hfree]
    exact .inr ⟨⟨o, wr, []⟩, ⟨o, wr, none, 0, 0⟩, by simp, rfl, ⟨rfl, rfl, rfl, Reads.nil _ _, inB_none _, fun _ => rfl, by simp, ho, hw⟩⟩
  · exact ((hF o').keep f (by simp)).keep k (off_lt h.lt h.ge (.inr (.inl rfl)))
theorem i64_small {x : Int} (h : -1 ≤ x ∧ x ≤ 1000000000) : I64 x := ⟨by omega, by omega⟩

set_option maxRecDepth 20000 in
set_option maxHeartbeats 2000000 in
theorem do_rlock {lo : Nat × Nat} {b b1 b2 b3 b4 n : Nat} {m : Scn} (gr o wi l sz f t : Int) (w : World) (h : BoardW lo w b b1 b2 b3 b4 n m) (hm : scB m = true) (hn : n < 4000000) (ho : I64 o) (hg : I64 gr) :
    Calls Tryz.prog 104 #[.pointer (some ⟨b, 0, none⟩), .agg #[.int .i64 4, .int .i64 gr, .int .i64 o, .int .i64 wi, .int .i64 l, .int .i64 sz, .int .i64 f, .int .i64 t]] w fun y w' => y = .returned (.tuple #[]) ∧ BoardW lo w' b b1 b2 b3 b4 (n + 1) (setLk m ⟨o, -1, withL (lockZ m o).rd gr⟩) ∧ ∃ x, On b b1 b2 b3 b4 x ∧ w.grownBy w' (some x) := by
  have fW := Fr.alloc w (.cells #[.int .i64 4, .int .i64 gr, .int .i64 o, .int .i64 wi, .int .i64 l, .int .i64 sz, .int .i64 f, .int .i64 t] 31)
  have kE := EvB.new w ⟨4, gr, o, wi, l, sz, f, t⟩
  simp only at kE
  have c := addReader_any o gr _ (h.fr fW) hm hn ho hg
  clear h hm hn
  go_enter Tryz.func104, Tryz.ntmps104
  go_wp2_with fail
  refine c.mono ?_
  rintro y w2 ⟨rfl, B2, g2⟩
  clear c
  go_wp2_with fail
  first | refine bodyPost_ret (results_none rfl _ _ _) rfl ?_ | go_end0
  exact ⟨rfl, B2, b1, .inr (.inl rfl), grown_trans fW.wide g2⟩

set_option maxRecDepth 20000 in
set_option maxHeartbeats 2000000 in
theorem do_runlock {lo : Nat × Nat} {b b1 b2 b3 b4 n : Nat} {m : Scn} (gr o wi l sz f t : Int) (w : World) (h : BoardW lo w b b1 b2 b3 b4 n m) (hm : scB m = true) (hn : n < 4000000) (ho : I64 o) :
    Calls Tryz.prog 104 #[.pointer (some ⟨b, 0, none⟩), .agg #[.int .i64 5, .int .i64 gr, .int .i64 o, .int .i64 wi, .int .i64 l, .int .i64 sz, .int .i64 f, .int .i64 t]] w fun y w' => y = .returned (.tuple #[]) ∧ BoardW lo w' b b1 b2 b3 b4 (n + 1) (setLk m ⟨o, -1, outL (lockZ m o).rd gr⟩) ∧ ∃ x, On b b1 b2 b3 b4 x ∧ w.grownBy w' (some x) := by
  have fW := Fr.alloc w (.cells #[.int .i64 5, .int .i64 gr, .int .i64 o, .int .i64 wi, .int .i64 l, .int .i64 sz, .int .i64 f, .int .i64 t] 31)
  have kE := EvB.new w ⟨5, gr, o, wi, l, sz, f, t⟩
  simp only at kE
  have c := dropReader_any o gr _ (h.fr fW) hm hn ho
  clear h hm hn
  go_enter Tryz.func104, Tryz.ntmps104
  go_wp2_with fail
  refine c.mono ?_
  rintro y w2 ⟨rfl, B2, g2⟩
  clear c
  go_wp2_with fail
  first | refine bodyPost_ret (results_none rfl _ _ _) rfl ?_ | go_end0
  exact ⟨rfl, B2, b1, .inr (.inl rfl), grown_trans fW.wide g2⟩

set_option maxRecDepth 20000 in
set_option maxHeartbeats 2000000 in
theorem do_send {lo : Nat × Nat} {b b1 b2 b3 b4 n : Nat} {m : Scn} (gr o wi l sz f t : Int) (w : World) (h : BoardW lo w b b1 b2 b3 b4 n m) (hm : scB m = true) (hn : n < 4000000) (ho : I64 o) (hi : isChan m.cs o = true) :
    Calls Tryz.prog 104 #[.pointer (some ⟨b, 0, none⟩), .agg #[.int .i64 7, .int .i64 gr, .int .i64 o, .int .i64 wi, .int .i64 l, .int .i64 sz, .int .i64 f, .int .i64 t]] w fun y w' => y = .returned (.tuple #[]) ∧ BoardW lo w' b b1 b2 b3 b4 (n + 1) (setCh m (chanTo m ⟨7, gr, o, wi, l, sz, f, t⟩)) ∧ ∃ x, On b b1 b2 b3 b4 x ∧ w.grownBy w' (some x) := by
  have fW := Fr.alloc w (.cells #[.int .i64 7, .int .i64 gr, .int .i64 o, .int .i64 wi, .int .i64 l, .int .i64 sz, .int .i64 f, .int .i64 t] 31)
  have kE := EvB.new w ⟨7, gr, o, wi, l, sz, f, t⟩
  simp only at kE
  have c := useChan_any ⟨7, gr, o, wi, l, sz, f, t⟩ _ (by simp) (h.fr fW) hm hn ho hi
  clear h hm hn
  go_enter Tryz.func104, Tryz.ntmps104
  go_wp2_with fail
  refine c.mono ?_
  rintro y w2 ⟨rfl, B2, g2⟩
  clear c
  go_wp2_with fail
  first | refine bodyPost_ret (results_none rfl _ _ _) rfl ?_ | go_end0
  exact ⟨rfl, B2, b2, .inr (.inr (.inl rfl)), grown_trans fW.wide g2⟩

set_option maxRecDepth 20000 in
set_option maxHeartbeats 2000000 in
theorem do_recv {lo : Nat × Nat} {b b1 b2 b3 b4 n : Nat} {m : Scn} (gr o wi l sz f t : Int) (w : World) (h : BoardW lo w b b1 b2 b3 b4 n m) (hm : scB m = true) (hn : n < 4000000) (ho : I64 o) (hi : isChan m.cs o = true) :
    Calls Tryz.prog 104 #[.pointer (some ⟨b, 0, none⟩), .agg #[.int .i64 8, .int .i64 gr, .int .i64 o, .int .i64 wi, .int .i64 l, .int .i64 sz, .int .i64 f, .int .i64 t]] w fun y w' => y = .returned (.tuple #[]) ∧ BoardW lo w' b b1 b2 b3 b4 (n + 1) (setCh m (chanTo m ⟨8, gr, o, wi, l, sz, f, t⟩)) ∧ ∃ x, On b b1 b2 b3 b4 x ∧ w.grownBy w' (some x) := by
  have fW := Fr.alloc w (.cells #[.int .i64 8, .int .i64 gr, .int .i64 o, .int .i64 wi, .int .i64 l, .int .i64 sz, .int .i64 f, .int .i64 t] 31)
  have kE := EvB.new w ⟨8, gr, o, wi, l, sz, f, t⟩
  simp only at kE
  have c := useChan_any ⟨8, gr, o, wi, l, sz, f, t⟩ _ (by simp) (h.fr fW) hm hn ho hi
  clear h hm hn
  go_enter Tryz.func104, Tryz.ntmps104
  go_wp2_with fail
  refine c.mono ?_
  rintro y w2 ⟨rfl, B2, g2⟩
  clear c
  go_wp2_with fail
  first | refine bodyPost_ret (results_none rfl _ _ _) rfl ?_ | go_end0
  exact ⟨rfl, B2, b2, .inr (.inr (.inl rfl)), grown_trans fW.wide g2⟩

set_option maxRecDepth 20000 in
set_option maxHeartbeats 2000000 in
theorem do_close {lo : Nat × Nat} {b b1 b2 b3 b4 n : Nat} {m : Scn} (gr o wi l sz f t : Int) (w : World) (h : BoardW lo w b b1 b2 b3 b4 n m) (hm : scB m = true) (hn : n < 4000000) (ho : I64 o) (hi : isChan m.cs o = true) :
    Calls Tryz.prog 104 #[.pointer (some ⟨b, 0, none⟩), .agg #[.int .i64 10, .int .i64 gr, .int .i64 o, .int .i64 wi, .int .i64 l, .int .i64 sz, .int .i64 f, .int .i64 t]] w fun y w' => y = .returned (.tuple #[]) ∧ BoardW lo w' b b1 b2 b3 b4 (n + 1) (setCh m (chanTo m ⟨10, gr, o, wi, l, sz, f, t⟩)) ∧ ∃ x, On b b1 b2 b3 b4 x ∧ w.grownBy w' (some x) := by
  have fW := Fr.alloc w (.cells #[.int .i64 10, .int .i64 gr, .int .i64 o, .int .i64 wi, .int .i64 l, .int .i64 sz, .int .i64 f, .int .i64 t] 31)
  have kE := EvB.new w ⟨10, gr, o, wi, l, sz, f, t⟩
  simp only at kE
  have c := useChan_any ⟨10, gr, o, wi, l, sz, f, t⟩ _ (by simp) (h.fr fW) hm hn ho hi
  clear h hm hn
  go_enter Tryz.func104, Tryz.ntmps104
  go_wp2_with fail
  refine c.mono ?_
  rintro y w2 ⟨rfl, B2, g2⟩
  clear c
  go_wp2_with fail
  first | refine bodyPost_ret (results_none rfl _ _ _) rfl ?_ | go_end0
  exact ⟨rfl, B2, b2, .inr (.inr (.inl rfl)), grown_trans fW.wide g2⟩

set_option maxRecDepth 20000 in
set_option maxHeartbeats 2000000 in
theorem do_add {lo : Nat × Nat} {b b1 b2 b3 b4 n : Nat} {m : Scn} (gr o wi l sz f t : Int) (w : World) (h : BoardW lo w b b1 b2 b3 b4 n m) (hm : scB m = true) (hn : n < 4000000) (ho : I64 o) (hs : 1 ≤ sz ∧ sz ≤ 9) :
    Calls Tryz.prog 104 #[.pointer (some ⟨b, 0, none⟩), .agg #[.int .i64 12, .int .i64 gr, .int .i64 o, .int .i64 wi, .int .i64 l, .int .i64 sz, .int .i64 f, .int .i64 t]] w fun y w' => y = .returned (.tuple #[]) ∧ BoardW lo w' b b1 b2 b3 b4 (n + 1) (setCt m o (countOf m.gs o + sz)) ∧ ∃ x, On b b1 b2 b3 b4 x ∧ w.grownBy w' (some x) := by
  have fW := Fr.alloc w (.cells #[.int .i64 12, .int .i64 gr, .int .i64 o, .int .i64 wi, .int .i64 l, .int .i64 sz, .int .i64 f, .int .i64 t] 31)
  have kE := EvB.new w ⟨12, gr, o, wi, l, sz, f, t⟩
  simp only at kE
  have c := addCount_any o sz _ (h.fr fW) hm hn ho (by omega)
  clear h hm hn
  go_enter Tryz.func104, Tryz.ntmps104
  go_wp2_with fail
  refine c.mono ?_
  rintro y w2 ⟨rfl, B2, g2⟩
  clear c
  go_wp2_with fail
  first | refine bodyPost_ret (results_none rfl _ _ _) rfl ?_ | go_end0
  exact ⟨rfl, B2, b3, .inr (.inr (.inr (.inl rfl))), grown_trans fW.wide g2⟩

set_option maxRecDepth 20000 in
set_option maxHeartbeats 2000000 in
theorem do_done {lo : Nat × Nat} {b b1 b2 b3 b4 n : Nat} {m : Scn} (gr o wi l sz f t : Int) (w : World) (h : BoardW lo w b b1 b2 b3 b4 n m) (hm : scB m = true) (hn : n < 4000000) (ho : I64 o) :
    Calls Tryz.prog 104 #[.pointer (some ⟨b, 0, none⟩), .agg #[.int .i64 13, .int .i64 gr, .int .i64 o, .int .i64 wi, .int .i64 l, .int .i64 sz, .int .i64 f, .int .i64 t]] w fun y w' => y = .returned (.tuple #[]) ∧ BoardW lo w' b b1 b2 b3 b4 (n + 1) (setCt m o (countOf m.gs o + -1)) ∧ ∃ x, On b b1 b2 b3 b4 x ∧ w.grownBy w' (some x) := by
  have fW := Fr.alloc w (.cells #[.int .i64 13, .int .i64 gr, .int .i64 o, .int .i64 wi, .int .i64 l, .int .i64 sz, .int .i64 f, .int .i64 t] 31)
  have kE := EvB.new w ⟨13, gr, o, wi, l, sz, f, t⟩
  simp only at kE
  have c := addCount_any o (-1) _ (h.fr fW) hm hn ho (by omega)
  clear h hm hn
  go_enter Tryz.func104, Tryz.ntmps104
  go_wp2_with fail
  refine c.mono ?_
  rintro y w2 ⟨rfl, B2, g2⟩
  clear c
  go_wp2_with fail
  first | refine bodyPost_ret (results_none rfl _ _ _) rfl ?_ | go_end0
  exact ⟨rfl, B2, b3, .inr (.inr (.inr (.inl rfl))), grown_trans fW.wide g2⟩

set_option maxRecDepth 20000 in
set_option maxHeartbeats 2000000 in
theorem do_lock {lo : Nat × Nat} {b b1 b2 b3 b4 n : Nat} {m : Scn} (gr o wi l sz f t : Int) (w : World) (h : BoardW lo w b b1 b2 b3 b4 n m) (hm : scB m = true) (hn : n < 4000000) (ho : I64 o) (hg : 0 ≤ gr ∧ gr ≤ 1000000) :
    Calls Tryz.prog 104 #[.pointer (some ⟨b, 0, none⟩), .agg #[.int .i64 2, .int .i64 gr, .int .i64 o, .int .i64 wi, .int .i64 l, .int .i64 sz, .int .i64 f, .int .i64 t]] w fun y w' => y = .returned (.tuple #[]) ∧ BoardW lo w' b b1 b2 b3 b4 (n + 1) (setLk m ⟨o, gr, []⟩) ∧ ∃ x, On b b1 b2 b3 b4 x ∧ w.grownBy w' (some x) := by
  have fW := Fr.alloc w (.cells #[.int .i64 2, .int .i64 gr, .int .i64 o, .int .i64 wi, .int .i64 l, .int .i64 sz, .int .i64 f, .int .i64 t] 31)
  have kE := EvB.new w ⟨2, gr, o, wi, l, sz, f, t⟩
  simp only at kE
  have cM := h.toM.c1
  have hbl := h.blt
  have hlt := h.lt
  have HB : Hid (BoardW lo w b b1 b2 b3 b4 n m ∧ scB m = true) := ⟨h, hm⟩
  obtain ⟨F, M, hF⟩ := h.m1
  have HF : Hid (∀ o, LkAt (Off lo) w (F o) (m.ls.find? fun l => l.o == o)) := hF
  clear hF
  have _ := hn
  clear h hm
  go_enter Tryz.func104, Tryz.ntmps104
  go_wp2_with fail
  obtain ⟨W, hW⟩ : ∃ W, W = w.alloc (.cells #[.int .i64 2, .int .i64 gr, .int .i64 o, .int .i64 wi, .int .i64 l, .int .i64 sz, .int .i64 f, .int .i64 t] 31) := ⟨_, rfl⟩
  rw [← hW] at fW kE ⊢
  clear hW
  have hne : ¬ (some w.heap.size = some b1) := fun q => by simp only [Option.some.injEq] at q; omega
  have hne2 : ¬ (some b = some b1) := fun q => by simp only [Option.some.injEq] at q; omega
  obtain ⟨E, hE⟩ : ∃ E, E = w.heap.size := ⟨_, rfl⟩
  rw [← hE] at kE hne ⊢
  clear hE
  have cM := fW.cell cM
  obtain ⟨w1, hrun, M1, g1⟩ := ((M.fr fW).fr (Fr.drew W)).put Tryz.underlying130 (by unfold maxLen; omega) ho (.agg #[.int .i64 o, .int .i64 gr, .slice none 0 0])
  have gW : W.grownBy w1 (some b1) := grown_trans (grown_draw W 1 _) g1
  obtain ⟨y0, y1, y2, y3, y4, y5, y6, y7⟩ := kE.at
  obtain ⟨z0, z1, z2, z3, z4, z5, z6, z7⟩ := (kE.keep gW (fun q => hne q.symm)).at
  have x2 := gW.cell cM hne2
  simp only at y0 y1 y2 y3 y4 y5 y6 y7 z0 z1 z2 z3 z4 z5 z6 z7
  clear M kE
  go_region_held3 (fun u => u.cell? ⟨b, 1, none⟩ = some (.map (some b1)) ∧ u.cell? ⟨E, 0, none⟩ = some (.int .i64 2) ∧ u.cell? ⟨E, 1, none⟩ = some (.int .i64 gr) ∧ u.cell? ⟨E, 2, none⟩ = some (.int .i64 o) ∧ u.cell? ⟨E, 3, none⟩ = some (.int .i64 wi) ∧ u.cell? ⟨E, 4, none⟩ = some (.int .i64 l) ∧ u.cell? ⟨E, 5, none⟩ = some (.int .i64 sz) ∧ u.cell? ⟨E, 6, none⟩ = some (.int .i64 f) ∧ u.cell? ⟨E, 7, none⟩ = some (.int .i64 t)) (go_keep) (fail)
  first | refine bodyPost_ret (results_none rfl _ _ _) rfl ?_ | go_end0
  exact ⟨rfl, HB.out.1.putLk0 HB.out.2 fW HF.out gW M1 ho (i64_small (by omega)) (by simp [lkFree]; omega), b1, .inr (.inl rfl), grown_trans fW.wide gW⟩

set_option maxRecDepth 20000 in
set_option maxHeartbeats 2000000 in
theorem do_unlock {lo : Nat × Nat} {b b1 b2 b3 b4 n : Nat} {m : Scn} (gr o wi l sz f t : Int) (w : World) (h : BoardW lo w b b1 b2 b3 b4 n m) (hm : scB m = true) (hn : n < 4000000) (ho : I64 o) :
    Calls Tryz.prog 104 #[.pointer (some ⟨b, 0, none⟩), .agg #[.int .i64 3, .int .i64 gr, .int .i64 o, .int .i64 wi, .int .i64 l, .int .i64 sz, .int .i64 f, .int .i64 t]] w fun y w' => y = .returned (.tuple #[]) ∧ BoardW lo w' b b1 b2 b3 b4 (n + 1) (setLk m ⟨o, -1, []⟩) ∧ ∃ x, On b b1 b2 b3 b4 x ∧ w.grownBy w' (some x) := by
  have fW := Fr.alloc w (.cells #[.int .i64 3, .int .i64 gr, .int .i64 o, .int .i64 wi, .int .i64 l, .int .i64 sz, .int .i64 f, .int .i64 t] 31)
  have kE := EvB.new w ⟨3, gr, o, wi, l, sz, f, t⟩
  simp only at kE
  have cM := h.toM.c1
  have hbl := h.blt
  have hlt := h.lt
  have HB : Hid (BoardW lo w b b1 b2 b3 b4 n m ∧ scB m = true) := ⟨h, hm⟩
  obtain ⟨F, M, hF⟩ := h.m1
  have HF : Hid (∀ o, LkAt (Off lo) w (F o) (m.ls.find? fun l => l.o == o)) := hF
  clear hF
  have _ := hn
  clear h hm
  go_enter Tryz.func104, Tryz.ntmps104
  go_wp2_with fail
  obtain ⟨W, hW⟩ : ∃ W, W = w.alloc (.cells #[.int .i64 3, .int .i64 gr, .int .i64 o, .int .i64 wi, .int .i64 l, .int .i64 sz, .int .i64 f, .int .i64 t] 31) := ⟨_, rfl⟩
  rw [← hW] at fW kE ⊢
  clear hW
  have hne : ¬ (some w.heap.size = some b1) := fun q => by simp only [Option.some.injEq] at q; omega
  have hne2 : ¬ (some b = some b1) := fun q => by simp only [Option.some.injEq] at q; omega
  obtain ⟨E, hE⟩ : ∃ E, E = w.heap.size := ⟨_, rfl⟩
  rw [← hE] at kE hne ⊢
  clear hE
  have cM := fW.cell cM
  obtain ⟨w1, hrun, M1, g1⟩ := ((M.fr fW).fr (Fr.drew W)).del Tryz.underlying130 ho 0
  have gW : W.grownBy w1 (some b1) := grown_trans (grown_draw W 1 _) g1
  obtain ⟨y0, y1, y2, y3, y4, y5, y6, y7⟩ := kE.at
  obtain ⟨z0, z1, z2, z3, z4, z5, z6, z7⟩ := (kE.keep gW (fun q => hne q.symm)).at
  have x2 := gW.cell cM hne2
  simp only at y0 y1 y2 y3 y4 y5 y6 y7 z0 z1 z2 z3 z4 z5 z6 z7
  clear M kE
  go_region_held3 (fun u => u.cell? ⟨b, 1, none⟩ = some (.map (some b1)) ∧ u.cell? ⟨E, 0, none⟩ = some (.int .i64 3) ∧ u.cell? ⟨E, 1, none⟩ = some (.int .i64 gr) ∧ u.cell? ⟨E, 2, none⟩ = some (.int .i64 o) ∧ u.cell? ⟨E, 3, none⟩ = some (.int .i64 wi) ∧ u.cell? ⟨E, 4, none⟩ = some (.int .i64 l) ∧ u.cell? ⟨E, 5, none⟩ = some (.int .i64 sz) ∧ u.cell? ⟨E, 6, none⟩ = some (.int .i64 f) ∧ u.cell? ⟨E, 7, none⟩ = some (.int .i64 t)) (go_keep) (fail)
  first | refine bodyPost_ret (results_none rfl _ _ _) rfl ?_ | go_end0
  exact ⟨rfl, HB.out.1.delLk (l := ⟨o, -1, []⟩) HB.out.2 fW HF.out gW M1 (by simp [lkFree]), b1, .inr (.inl rfl), grown_trans fW.wide gW⟩

set_option maxRecDepth 20000 in
set_option maxHeartbeats 2000000 in
theorem do_make {lo : Nat × Nat} {b b1 b2 b3 b4 n : Nat} {m : Scn} (gr o wi l sz f t : Int) (w : World) (h : BoardW lo w b b1 b2 b3 b4 n m) (hm : scB m = true) (hn : n < 4000000) (ho : I64 o) :
    Calls Tryz.prog 104 #[.pointer (some ⟨b, 0, none⟩), .agg #[.int .i64 6, .int .i64 gr, .int .i64 o, .int .i64 wi, .int .i64 l, .int .i64 sz, .int .i64 f, .int .i64 t]] w fun y w' => y = .returned (.tuple #[]) ∧ BoardW lo w' b b1 b2 b3 b4 (n + 1) (setCh m ⟨o, sz, 0, 0, false⟩) ∧ ∃ x, On b b1 b2 b3 b4 x ∧ w.grownBy w' (some x) := by
  have fW := Fr.alloc w (.cells #[.int .i64 6, .int .i64 gr, .int .i64 o, .int .i64 wi, .int .i64 l, .int .i64 sz, .int .i64 f, .int .i64 t] 31)
  have kE := EvB.new w ⟨6, gr, o, wi, l, sz, f, t⟩
  simp only at kE
  have cM := h.toM.c2
  have hbl := h.blt
  have hlt := h.lt
  have HB : Hid (BoardW lo w b b1 b2 b3 b4 n m ∧ scB m = true) := ⟨h, hm⟩
  have M := h.m2
  have _ := hn
  clear h hm
  go_enter Tryz.func104, Tryz.ntmps104
  go_wp2_with fail
  obtain ⟨W, hW⟩ : ∃ W, W = w.alloc (.cells #[.int .i64 6, .int .i64 gr, .int .i64 o, .int .i64 wi, .int .i64 l, .int .i64 sz, .int .i64 f, .int .i64 t] 31) := ⟨_, rfl⟩
  rw [← hW] at fW kE ⊢
  clear hW
  have hne : ¬ (some w.heap.size = some b2) := fun q => by simp only [Option.some.injEq] at q; omega
  have hne2 : ¬ (some b = some b2) := fun q => by simp only [Option.some.injEq] at q; omega
  obtain ⟨E, hE⟩ : ∃ E, E = w.heap.size := ⟨_, rfl⟩
  rw [← hE] at kE hne ⊢
  clear hE
  have cM := fW.cell cM
  obtain ⟨w1, hrun, M1, g1⟩ := ((M.fr fW).fr (Fr.drew W)).put Tryz.underlying133 (by unfold maxLen; omega) ho (.agg #[.int .i64 o, .int .i64 sz, .int .i64 0, .int .i64 0, .bool false])
  have gW : W.grownBy w1 (some b2) := grown_trans (grown_draw W 1 _) g1
  obtain ⟨y0, y1, y2, y3, y4, y5, y6, y7⟩ := kE.at
  obtain ⟨z0, z1, z2, z3, z4, z5, z6, z7⟩ := (kE.keep gW (fun q => hne q.symm)).at
  have x2 := gW.cell cM hne2
  simp only at y0 y1 y2 y3 y4 y5 y6 y7 z0 z1 z2 z3 z4 z5 z6 z7
  clear M kE
  go_region_held3 (fun u => u.cell? ⟨b, 2, none⟩ = some (.map (some b2)) ∧ u.cell? ⟨E, 0, none⟩ = some (.int .i64 6) ∧ u.cell? ⟨E, 1, none⟩ = some (.int .i64 gr) ∧ u.cell? ⟨E, 2, none⟩ = some (.int .i64 o) ∧ u.cell? ⟨E, 3, none⟩ = some (.int .i64 wi) ∧ u.cell? ⟨E, 4, none⟩ = some (.int .i64 l) ∧ u.cell? ⟨E, 5, none⟩ = some (.int .i64 sz) ∧ u.cell? ⟨E, 6, none⟩ = some (.int .i64 f) ∧ u.cell? ⟨E, 7, none⟩ = some (.int .i64 t)) (go_keep) (fail)
  first | refine bodyPost_ret (results_none rfl _ _ _) rfl ?_ | go_end0
  exact ⟨rfl, (HB.out.1.fr fW).setC (c := ⟨o, sz, 0, 0, false⟩) HB.out.2 (Nat.le_succ n) gW M1, b2, .inr (.inr (.inl rfl)), grown_trans fW.wide gW⟩

set_option maxRecDepth 20000 in
set_option maxHeartbeats 2000000 in
theorem do_once {lo : Nat × Nat} {b b1 b2 b3 b4 n : Nat} {m : Scn} (gr o wi l sz f t : Int) (w : World) (h : BoardW lo w b b1 b2 b3 b4 n m) (hm : scB m = true) (hn : n < 4000000) (ho : I64 o) :
    Calls Tryz.prog 104 #[.pointer (some ⟨b, 0, none⟩), .agg #[.int .i64 15, .int .i64 gr, .int .i64 o, .int .i64 wi, .int .i64 l, .int .i64 sz, .int .i64 f, .int .i64 t]] w fun y w' => y = .returned (.tuple #[]) ∧ BoardW lo w' b b1 b2 b3 b4 (n + 1) ({ m with os := withL m.os o }) ∧ ∃ x, On b b1 b2 b3 b4 x ∧ w.grownBy w' (some x) := by
  have fW := Fr.alloc w (.cells #[.int .i64 15, .int .i64 gr, .int .i64 o, .int .i64 wi, .int .i64 l, .int .i64 sz, .int .i64 f, .int .i64 t] 31)
  have kE := EvB.new w ⟨15, gr, o, wi, l, sz, f, t⟩
  simp only at kE
  have cM := h.toM.c4
  have hbl := h.blt
  have hlt := h.lt
  have HB : Hid (BoardW lo w b b1 b2 b3 b4 n m ∧ scB m = true) := ⟨h, hm⟩
  have M := h.m4
  have _ := hn
  clear h hm
  go_enter Tryz.func104, Tryz.ntmps104
  go_wp2_with fail
  obtain ⟨W, hW⟩ : ∃ W, W = w.alloc (.cells #[.int .i64 15, .int .i64 gr, .int .i64 o, .int .i64 wi, .int .i64 l, .int .i64 sz, .int .i64 f, .int .i64 t] 31) := ⟨_, rfl⟩
  rw [← hW] at fW kE ⊢
  clear hW
  have hne : ¬ (some w.heap.size = some b4) := fun q => by simp only [Option.some.injEq] at q; omega
  have hne2 : ¬ (some b = some b4) := fun q => by simp only [Option.some.injEq] at q; omega
  obtain ⟨E, hE⟩ : ∃ E, E = w.heap.size := ⟨_, rfl⟩
  rw [← hE] at kE hne ⊢
  clear hE
  have cM := fW.cell cM
  obtain ⟨w1, hrun, M1, g1⟩ := ((M.fr fW).fr (Fr.drew W)).put Tryz.underlying139 (by unfold maxLen; omega) ho (.int .i64 o)
  have gW : W.grownBy w1 (some b4) := grown_trans (grown_draw W 1 _) g1
  obtain ⟨y0, y1, y2, y3, y4, y5, y6, y7⟩ := kE.at
  obtain ⟨z0, z1, z2, z3, z4, z5, z6, z7⟩ := (kE.keep gW (fun q => hne q.symm)).at
  have x2 := gW.cell cM hne2
  simp only at y0 y1 y2 y3 y4 y5 y6 y7 z0 z1 z2 z3 z4 z5 z6 z7
  clear M kE
  go_region_held3 (fun u => u.cell? ⟨b, 4, none⟩ = some (.map (some b4)) ∧ u.cell? ⟨E, 0, none⟩ = some (.int .i64 15) ∧ u.cell? ⟨E, 1, none⟩ = some (.int .i64 gr) ∧ u.cell? ⟨E, 2, none⟩ = some (.int .i64 o) ∧ u.cell? ⟨E, 3, none⟩ = some (.int .i64 wi) ∧ u.cell? ⟨E, 4, none⟩ = some (.int .i64 l) ∧ u.cell? ⟨E, 5, none⟩ = some (.int .i64 sz) ∧ u.cell? ⟨E, 6, none⟩ = some (.int .i64 f) ∧ u.cell? ⟨E, 7, none⟩ = some (.int .i64 t)) (go_keep) (fail)
  first | refine bodyPost_ret (results_none rfl _ _ _) rfl ?_ | go_end0
  exact ⟨rfl, (HB.out.1.fr fW).setO HB.out.2 (Nat.le_succ n) gW M1, b4, .inr (.inr (.inr (.inr rfl))), grown_trans fW.wide gW⟩

set_option maxRecDepth 20000 in
set_option maxHeartbeats 2000000 in
theorem do_go {lo : Nat × Nat} {b b1 b2 b3 b4 n : Nat} {m : Scn} (gr o wi l sz f t : Int) (w : World) (h : BoardW lo w b b1 b2 b3 b4 n m) (hm : scB m = true) (hn : n < 4000000) (hg : m.g ≤ 1000) :
    Calls Tryz.prog 104 #[.pointer (some ⟨b, 0, none⟩), .agg #[.int .i64 1, .int .i64 gr, .int .i64 o, .int .i64 wi, .int .i64 l, .int .i64 sz, .int .i64 f, .int .i64 t]] w fun y w' => y = .returned (.tuple #[]) ∧ BoardW lo w' b b1 b2 b3 b4 (n + 1) ({ m with g := m.g + 1 }) ∧ ∃ x, On b b1 b2 b3 b4 x ∧ w.grownBy w' (some x) := by
  have fW := Fr.alloc w (.cells #[.int .i64 1, .int .i64 gr, .int .i64 o, .int .i64 wi, .int .i64 l, .int .i64 sz, .int .i64 f, .int .i64 t] 31)
  have kE := EvB.new w ⟨1, gr, o, wi, l, sz, f, t⟩
  simp only at kE
  have g0 := h.toM.c0
  have hr := frozen_of_row w b 0 _ _ h.row
  have hg1 := ((scB_iff m).1 hm).1.1
  have HB : Hid (BoardW lo w b b1 b2 b3 b4 n m) := h
  have hbl := h.blt
  have _ := hn
  clear h hm
  obtain ⟨g, hgg⟩ : ∃ g, g = m.g := ⟨_, rfl⟩
  rw [← hgg] at g0 hg hg1
  have HG : Hid (g = m.g) := hgg
  clear hgg
  have hw : IntKind.i64.wrap (g + 1) = g + 1 := by rw [IntKind.wrap_i64]; omega
  go_enter Tryz.func104, Tryz.ntmps104
  go_wp2_with fail
  first | refine bodyPost_ret (results_none rfl _ _ _) rfl ?_ | go_end0
  refine ⟨rfl, ?_, b, .inl rfl, grown_trans (grown_set _ _ _ _) (Fr.alloc _ _).wide⟩
  have q := ((HB.out.setG (g + 1)).fr (Fr.alloc (w.setCell ⟨b, 0, none⟩ (.int .i64 (g + 1))) (.cells #[.int .i64 1, .int .i64 gr, .int .i64 o, .int .i64 wi, .int .i64 l, .int .i64 sz, .int .i64 f, .int .i64 t] 31))).mono (Nat.le_succ n)
  rw [HG.out] at q ⊢
  exact q

set_option maxRecDepth 20000 in
set_option maxHeartbeats 2000000 in
theorem do_none {lo : Nat × Nat} {b b1 b2 b3 b4 n : Nat} {m : Scn} (k gr o wi l sz f t : Int) (w : World) (h : BoardW lo w b b1 b2 b3 b4 n m) (hm : scB m = true) (hn : n < 4000000) (hk : k ≠ 1 ∧ k ≠ 2 ∧ k ≠ 3 ∧ k ≠ 4 ∧ k ≠ 5 ∧ k ≠ 6 ∧ k ≠ 7 ∧ k ≠ 8 ∧ k ≠ 10 ∧ k ≠ 12 ∧ k ≠ 13 ∧ k ≠ 15) :
    Calls Tryz.prog 104 #[.pointer (some ⟨b, 0, none⟩), .agg #[.int .i64 k, .int .i64 gr, .int .i64 o, .int .i64 wi, .int .i64 l, .int .i64 sz, .int .i64 f, .int .i64 t]] w fun y w' => y = .returned (.tuple #[]) ∧ BoardW lo w' b b1 b2 b3 b4 (n + 1) (m) ∧ ∃ x, On b b1 b2 b3 b4 x ∧ w.grownBy w' (some x) := by
  have fW := Fr.alloc w (.cells #[.int .i64 k, .int .i64 gr, .int .i64 o, .int .i64 wi, .int .i64 l, .int .i64 sz, .int .i64 f, .int .i64 t] 31)
  have kE := EvB.new w ⟨k, gr, o, wi, l, sz, f, t⟩
  simp only at kE
  obtain ⟨n1, n2, n3, n4, n5, n6, n7, n8, n10, n12, n13, n15⟩ := hk
  have q1 : (k == 1) = false := by simpa using n1
  have q2 : (k == 2) = false := by simpa using n2
  have q3 : (k == 3) = false := by simpa using n3
  have q4 : (k == 4) = false := by simpa using n4
  have q5 : (k == 5) = false := by simpa using n5
  have q6 : (k == 6) = false := by simpa using n6
  have q7 : (k == 7) = false := by simpa using n7
  have q8 : (k == 8) = false := by simpa using n8
  have q10 : (k == 10) = false := by simpa using n10
  have q12 : (k == 12) = false := by simpa using n12
  have q13 : (k == 13) = false := by simpa using n13
  have q15 : (k == 15) = false := by simpa using n15
  clear n1 n2 n3 n4 n5 n6 n7 n8 n10 n12 n13 n15
  have HB : Hid (BoardW lo w b b1 b2 b3 b4 n m) := h
  have _ := And.intro hn hm
  clear h hm hn
  go_enter Tryz.func104, Tryz.ntmps104
  go_wp2_with fail
  first | refine bodyPost_ret (results_none rfl _ _ _) rfl ?_ | go_end0
  exact ⟨rfl, (HB.out.fr fW).mono (Nat.le_succ n), b, .inl rfl, fW.wide⟩

theorem lockTo_2 {m : Scn} {e : Ev} (hm : scB m = true) (hR : restCode m e = 0) (hk : e.k = 2) : lockTo m e = ⟨e.o, e.g, []⟩ := by
  obtain ⟨lo, ll⟩ := lock_all hm e.o
  unfold restCode at hR
  rw [if_pos (by omega)] at hR
  unfold lockCode at hR
  unfold lockTo
  rw [if_pos hk] at hR ⊢
  generalize lockOf m.ls e.o = L at lo ll hR ⊢
  obtain ⟨o1, w1, r1⟩ := L
  split at hR
  · cases hR
  · rename_i q
    simp only at lo q ⊢
    have : r1 = [] := List.eq_nil_of_length_eq_zero (by omega)
    rw [lo, this]
theorem lockTo_3 {m : Scn} {e : Ev} (hm : scB m = true) (hE : evOk e = true) (hR : restCode m e = 0) (hk : e.k = 3) : lockTo m e = ⟨e.o, -1, []⟩ := by
  obtain ⟨lo, ll⟩ := lock_all hm e.o
  have hg := (evOk_k hE).2.1
  unfold restCode at hR
  rw [if_pos (by omega)] at hR
  unfold lockCode at hR
  unfold lockTo
  rw [if_neg (by omega), if_neg (by omega), if_pos hk] at hR
  rw [if_neg (by omega), if_pos hk]
  generalize lockOf m.ls e.o = L at lo ll hR ⊢
  obtain ⟨o1, w1, r1⟩ := L
  split at hR
  · rename_i q
    simp only at lo q ⊢
    have : r1 = [] := by
      rcases ll with h | h
      · cases h; rfl
      · obtain ⟨-, -, -, q4⟩ := (lkB_iff _ _).1 h
        simp only at q4
        rcases q4 with q4 | q4
        · exact q4.2
        · omega
    rw [lo, this]
  · cases hR
theorem lockZ_rdof {m : Scn} (hm : scB m = true) (o : Int) : (lockOf m.ls o).rd = (lockZ m o).rd := by
  rcases lock_in hm o with ⟨-, h2, h3⟩ | ⟨-, h2, -⟩
  · rw [h2, h3]
  · rw [h2]
theorem lockTo_4 {m : Scn} {e : Ev} (hm : scB m = true) (hR : restCode m e = 0) (hk : e.k = 4) : lockTo m e = ⟨e.o, -1, withL (lockZ m e.o).rd e.g⟩ := by
  obtain ⟨lo, ll⟩ := lock_all hm e.o
  rw [← lockZ_rdof hm]
  unfold restCode at hR
  rw [if_pos (by omega)] at hR
  unfold lockCode at hR
  unfold lockTo
  rw [if_neg (by omega), if_pos hk] at hR
  rw [if_neg (by omega), if_neg (by omega), if_pos hk]
  generalize lockOf m.ls e.o = L at lo ll hR ⊢
  obtain ⟨o1, w1, r1⟩ := L
  split at hR
  · cases hR
  · rename_i q
    simp only at lo q ⊢
    have : w1 = -1 := by
      rcases ll with h | h
      · cases h; rfl
      · obtain ⟨-, -, q3, -⟩ := (lkB_iff _ _).1 h
        simp only at q3
        omega
    rw [lo, this]
theorem lockTo_5 {m : Scn} {e : Ev} (hm : scB m = true) (hR : restCode m e = 0) (hk : e.k = 5) : lockTo m e = ⟨e.o, -1, outL (lockZ m e.o).rd e.g⟩ := by
  obtain ⟨lo, ll⟩ := lock_all hm e.o
  rw [← lockZ_rdof hm]
  unfold restCode at hR
  rw [if_pos (by omega)] at hR
  unfold lockCode at hR
  unfold lockTo
  rw [if_neg (by omega), if_neg (by omega), if_neg (by omega), if_pos hk] at hR
  rw [if_neg (by omega), if_neg (by omega), if_neg (by omega)]
  generalize lockOf m.ls e.o = L at lo ll hR ⊢
  obtain ⟨o1, w1, r1⟩ := L
  split at hR
  · rename_i q
    have hin := (memB_iff _ _).1 q
    simp only at lo hin ⊢
    have : w1 = -1 := by
      rcases ll with h | h
      · cases h; simp at hin
      · obtain ⟨-, -, q3, q4⟩ := (lkB_iff _ _).1 h
        simp only at q3 q4
        rcases q4 with q4 | q4
        · rw [q4.2] at hin; simp at hin
        · omega
    rw [lo, this]
  · cases hR
/-- The channel is there, but for a make. -/
theorem chan_had {m : Scn} {e : Ev} (hR : restCode m e = 0) (hk : e.k = 7 ∨ e.k = 8 ∨ e.k = 10) : isChan m.cs e.o = true := by
  unfold restCode at hR
  rw [if_neg (by omega), if_pos (by omega)] at hR
  unfold chanCode at hR
  cases q : isChan m.cs e.o
  · rw [q, if_pos (by simp; omega)] at hR
    cases hR
  · rfl
theorem chan_made {m : Scn} {e : Ev} (hR : restCode m e = 0) (hk : e.k = 6) : chanTo m e = ⟨e.o, e.s, 0, 0, false⟩ := by
  unfold restCode at hR
  rw [if_neg (by omega), if_pos (by omega)] at hR
  unfold chanCode at hR
  rcases chan_z m e.o with ⟨z1, z2, -⟩ | ⟨z1, z2⟩
  · unfold chanTo
    rw [if_pos hk, z2]
  · rw [z1, if_pos (by simp [hk])] at hR
    cases hR

set_option maxHeartbeats 1000000 in
theorem do_any {lo : Nat × Nat} {b b1 b2 b3 b4 n : Nat} {m : Scn} (e : Ev) (w : World) (h : BoardW lo w b b1 b2 b3 b4 n m) (hc : codeIn m e = 0) (hn : n < 4000000) :
    Calls Tryz.prog 104 #[.pointer (some ⟨b, 0, none⟩), .agg #[.int .i64 e.k, .int .i64 e.g, .int .i64 e.o, .int .i64 e.w, .int .i64 e.l, .int .i64 e.s, .int .i64 e.f, .int .i64 e.t]] w fun y w' => y = .returned (.tuple #[]) ∧ BoardW lo w' b b1 b2 b3 b4 (n + 1) (doS m e) ∧ ∃ x, On b b1 b2 b3 b4 x ∧ w.grownBy w' (some x) := by
  obtain ⟨hE, hm, hG, hR⟩ := code_parts hc
  obtain ⟨⟨k1, k2⟩, g1, g2⟩ := evOk_k hE
  have ho : I64 e.o := i64_small (by have := evOk_o hE; omega)
  have hg : I64 e.g := i64_small (by omega)
  have t2 := lockTo_2 hm hR
  have t3 := lockTo_3 hm hE hR
  have t4 := lockTo_4 hm hR
  have t5 := lockTo_5 hm hR
  have t6 := chan_made hR
  have th := chan_had hR
  have ta := evOk_add hE
  have hg16 := ((scB_iff m).1 hm).1.2
  clear hE hG hR hc
  unfold doS
  obtain ⟨k, gr, o, wi, l, sz, f, t⟩ := e
  simp only at *
  have hk : k = 1 ∨ k = 2 ∨ k = 3 ∨ k = 4 ∨ k = 5 ∨ k = 6 ∨ k = 7 ∨ k = 8 ∨ k = 10 ∨ k = 12 ∨ k = 13 ∨ k = 15 ∨ (k ≠ 1 ∧ k ≠ 2 ∧ k ≠ 3 ∧ k ≠ 4 ∧ k ≠ 5 ∧ k ≠ 6 ∧ k ≠ 7 ∧ k ≠ 8 ∧ k ≠ 10 ∧ k ≠ 12 ∧ k ≠ 13 ∧ k ≠ 15) := by omega
  rcases hk with rfl | rfl | rfl | rfl | rfl | rfl | rfl | rfl | rfl | rfl | rfl | rfl | hk
  · simpa using do_go gr o wi l sz f t w h hm hn (by omega)
  · rw [if_neg (by omega), if_pos (by omega), t2 rfl]
    exact do_lock gr o wi l sz f t w h hm hn ho (by omega)
  · rw [if_neg (by omega), if_pos (by omega), t3 rfl]
    exact do_unlock gr o wi l sz f t w h hm hn ho
  · rw [if_neg (by omega), if_pos (by omega), t4 rfl]
    exact do_rlock gr o wi l sz f t w h hm hn ho hg
  · rw [if_neg (by omega), if_pos (by omega), t5 rfl]
    exact do_runlock gr o wi l sz f t w h hm hn ho
  · rw [if_neg (by omega), if_neg (by omega), if_pos (by omega), t6 rfl]
    exact do_make gr o wi l sz f t w h hm hn ho
  · rw [if_neg (by omega), if_neg (by omega), if_pos (by omega)]
    exact do_send gr o wi l sz f t w h hm hn ho (th (by omega))
  · rw [if_neg (by omega), if_neg (by omega), if_pos (by omega)]
    exact do_recv gr o wi l sz f t w h hm hn ho (th (by omega))
  · rw [if_neg (by omega), if_neg (by omega), if_pos (by omega)]
    exact do_close gr o wi l sz f t w h hm hn ho (th (by omega))
  · rw [if_neg (by omega), if_neg (by omega), if_neg (by omega), if_pos rfl]
    exact do_add gr o wi l sz f t w h hm hn ho (ta rfl)
  · rw [if_neg (by omega), if_neg (by omega), if_neg (by omega), if_neg (by omega), if_pos rfl, Int.sub_eq_add_neg]
    exact do_done gr o wi l sz f t w h hm hn ho
  · rw [if_neg (by omega), if_neg (by omega), if_neg (by omega), if_neg (by omega), if_neg (by omega), if_pos rfl]
    exact do_once gr o wi l sz f t w h hm hn ho
  · rw [if_neg (by omega), if_neg (by omega), if_neg (by omega), if_neg (by omega), if_neg (by omega), if_neg (by omega)]
    exact do_none k gr o wi l sz f t w h hm hn hk
end Go.Proofs.YtihdablgnmkjnaaGreatDoor
/-
  try: an event on a board; the codes without a condition on the event's numbers.
-/
namespace Go.Proofs.YtihdablgnmkjnaaGreatDoor
open Go.RowKit

theorem codeM_all {B : Nat → Prop} {b b1 b2 b3 b4 n : Nat} {m : Scn} (e : Ev) (w : World) (h : BoardM B w b b1 b2 b3 b4 n m) (hm : scB m = true) (hs : Shapes w) :
    Calls Tryz.prog 48 #[.pointer (some ⟨b, 0, none⟩), .agg #[.int .i64 e.k, .int .i64 e.g, .int .i64 e.o, .int .i64 e.w, .int .i64 e.l, .int .i64 e.s, .int .i64 e.f, .int .i64 e.t]] w fun x w' => x = .returned (.int .i64 (codeIn m e)) ∧ Fr w w' := by
  cases hE : evOk e
  · have c := fun u (f : Fr w u) => implOk_any e u (hs.fr f)
    simp only [hE] at c
    have e1 : codeIn m e = codeC false false false false false false false false false false := by simp [codeIn, hE, codeC]
    rw [e1]
    exact codeFor_any b e w false false false false false false false false false false c (fun q => by cases q) (fun q => by cases q) (fun q => by cases q) (fun q => by cases q) (fun q => by cases q) (fun q => by cases q) (fun q => by cases q) (fun q => by cases q) (fun q => by cases q)
  · exact codeM_any e w h hm hs (i64_small (by have := evOk_o hE; omega))

set_option maxRecDepth 20000 in
set_option maxHeartbeats 1000000 in
theorem codeIn_all {B : Nat → Prop} (s : Sv) (m : Scn) (e : Ev) (w : World) (h : ScR B w s m) :
    Calls Tryz.prog 11 #[.agg #[.int .i64 s.g, .slice s.lo s.ll s.lc, .slice s.co s.cl s.cc, .slice s.no s.nl s.nc, .slice s.oo s.ol s.oc], .agg #[.int .i64 e.k, .int .i64 e.g, .int .i64 e.o, .int .i64 e.w, .int .i64 e.l, .int .i64 e.s, .int .i64 e.f, .int .i64 e.t]] w fun x w' => x = .returned (.int .i64 (codeIn m e)) ∧ Fr w w' := by
  cases hE : evOk e
  · have e1 : codeIn m e = 1 := by simp [codeIn, hE]
    rw [e1]
    obtain ⟨k1, k2, fW, hz⟩ := box2 w s e
    have cE := fun u => specOk_any e u
    simp only [hE] at cE
    clear hE e1 h
    obtain ⟨k, gr, o, wi, l, sz, f, t⟩ := e
    obtain ⟨sg, lo, ll, lc, co, cl, cc, no, nl, nc, oo, ol, oc⟩ := s
    simp only at k1 k2 fW hz cE ⊢
    go_enter Tryz.func11, Tryz.ntmps11
    go_wp2_with fail
    refine (cE _).mono ?_
    rintro x u1 ⟨rfl, f1⟩
    go_wp2_with fail
    go_ret
    exact ⟨rfl, fW.trans f1⟩
  · exact codeIn_any s m e w (i64_small (by have := evOk_o hE; omega)) h

/-- What an event leaves of a scene, be it done or not. -/
def stepS (m : Scn) (e : Ev) : Scn := if codeIn m e = 0 then doS m e else m
theorem step_ok {m : Scn} (hm : scB m = true) (e : Ev) : scB (stepS m e) = true := by
  unfold stepS
  split
  · rename_i h
    exact do_ok h
  · exact hm

set_option maxRecDepth 20000 in
set_option maxHeartbeats 1000000 in
theorem try_any {lo : Nat × Nat} {b b1 b2 b3 b4 n : Nat} {m : Scn} (e : Ev) (w : World) (h : BoardW lo w b b1 b2 b3 b4 n m) (hm : scB m = true) (hs : Shapes w) (hn : n < 4000000) :
    Calls Tryz.prog 41 #[.pointer (some ⟨b, 0, none⟩), .agg #[.int .i64 e.k, .int .i64 e.g, .int .i64 e.o, .int .i64 e.w, .int .i64 e.l, .int .i64 e.s, .int .i64 e.f, .int .i64 e.t]] w fun y w' => y = .returned (.int .i64 (codeIn m e)) ∧ BoardW lo w' b b1 b2 b3 b4 (n + 1) (stepS m e) ∧ ∃ x, On b b1 b2 b3 b4 x ∧ w.grownBy w' (some x) := by
  have fW := Fr.alloc w (.cells #[.int .i64 e.k, .int .i64 e.g, .int .i64 e.o, .int .i64 e.w, .int .i64 e.l, .int .i64 e.s, .int .i64 e.f, .int .i64 e.t] 31)
  have kE := EvAt.new w e 31
  have cC := fun u (f : Fr w u) => codeM_all e u (h.fr f).toM hm (hs.fr f)
  have cD := fun (hc : codeIn m e = 0) u (f : Fr w u) => do_any e u (h.fr f) hc hn
  have HB : Hid (BoardW lo w b b1 b2 b3 b4 n m) := h
  clear h hm hs hn
  have HS : Hid (codeIn m e = 0 → stepS m e = doS m e) := fun q => if_pos q
  have HT : Hid (¬ codeIn m e = 0 → stepS m e = m) := fun q => if_neg q
  obtain ⟨C, hC⟩ : ∃ C, C = codeIn m e := ⟨_, rfl⟩
  simp only [← hC] at cC cD HS HT
  obtain ⟨D, hD⟩ : ∃ D, D = doS m e := ⟨_, rfl⟩
  simp only [← hD] at cD HS
  obtain ⟨S, hS⟩ : ∃ D, D = stepS m e := ⟨_, rfl⟩
  simp only [← hS] at HS HT
  rw [← hC, ← hS]
  clear hC hD hS
  obtain ⟨k, gr, o, wi, l, sz, f, t⟩ := e
  simp only at fW kE cC cD ⊢
  go_enter Tryz.func41, Tryz.ntmps41
  go_wp2_with fail
  obtain ⟨W, hW⟩ : ∃ W, W = w.alloc (.cells #[.int .i64 k, .int .i64 gr, .int .i64 o, .int .i64 wi, .int .i64 l, .int .i64 sz, .int .i64 f, .int .i64 t] 31) := ⟨_, rfl⟩
  rw [← hW] at fW kE ⊢
  clear hW
  refine (cC _ fW).mono ?_
  rintro x u1 ⟨rfl, f1⟩
  clear cC
  have kE := kE.fr f1
  have F1 := fW.trans f1
  obtain ⟨c0, c1, c2, c3, c4, c5, c6, c7⟩ := kE
  simp only at c0 c1 c2 c3 c4 c5 c6 c7
  clear f1 fW
  by_cases hc : C = 0
  · have hcb : (C == 0) = true := by simpa using hc
    have cD := cD hc _ F1
    have HS := HS.out hc
    subst HS
    have HC : Hid (C = 0) := hc
    clear hc HT
    go_wp2_with fail
    refine cD.mono ?_
    rintro x u2 ⟨rfl, B2, y, o2, g2⟩
    clear cD
    go_wp2_with fail
    go_ret
    exact ⟨rfl, B2, y, o2, grown_trans F1.wide g2⟩
  · have hcb : (C == 0) = false := by simpa using hc
    have HT := HT.out hc
    subst HT
    clear hc HS cD
    go_wp2_with fail
    go_ret
    exact ⟨rfl, (HB.out.fr F1).mono (Nat.le_succ n), b, .inl rfl, F1.wide⟩
end Go.Proofs.YtihdablgnmkjnaaGreatDoor
/-
  Slices of bytes in memory, as Ints has them of int64: reading one, owning one, a copy (toByteS), comparing two (eqByteS), marks in one (markByteS, heldByteS), appending to one.
-/
namespace Go.Proofs.YtihdablgnmkjnaaGreatDoor
open Go.RowKit

/-- A byte. -/
def U8 (x : Int) : Prop := 0 ≤ x ∧ x ≤ 255

/-- A slice at the address ao reads as the numbers xs. -/
structure ReadsB (w : World) (ao : Option Addr) (xs : List Int) : Prop where
  len : xs.length ≤ 4294967296
  bd : ∀ x ∈ xs, U8 x
  at_ : ∀ i, i < xs.length → ∃ b off, ao = some ⟨b, off, none⟩ ∧ ∀ j, j < xs.length → w.cell? ⟨b, off + j, none⟩ = some (.int .u8 (xs.getD j 0))

theorem ReadsB.nil (w : World) (ao : Option Addr) : ReadsB w ao [] := ⟨by simp, by simp, by simp⟩

theorem ReadsB.bdAt {w : World} {ao : Option Addr} {xs : List Int} (h : ReadsB w ao xs) (i : Nat) : U8 (xs.getD i 0) := by
  by_cases hi : i < xs.length
  · rw [List.getD_eq_getElem?_getD, List.getElem?_eq_getElem hi]; exact h.bd _ (List.getElem_mem hi)
  · rw [List.getD_eq_getElem?_getD, List.getElem?_eq_none (by omega)]; exact ⟨by decide, by decide⟩

theorem ReadsB.keep {w w' : World} {ao : Option Addr} {xs : List Int} {row : Option Nat} (h : ReadsB w ao xs) (k : w.grownBy w' row) (hne : row = none ∨ blk ao ≠ row) : ReadsB w' ao xs := by
  refine ⟨h.len, h.bd, fun i hi => ?_⟩
  obtain ⟨b, off, e, hc⟩ := h.at_ i hi
  refine ⟨b, off, e, fun j hj => k.cell (hc j hj) ?_⟩
  rcases hne with rfl | hne
  · simp
  · intro hh
    apply hne
    rw [e, ← hh]
    rfl
theorem ReadsB.fr {w w' : World} {ao : Option Addr} {xs : List Int} (h : ReadsB w ao xs) (k : Fr w w') : ReadsB w' ao xs := h.keep k (.inl rfl)

/-- A slice that came in, as the frame of a law tells it, reads as its first numbers. -/
theorem readsB_of_row {w : World} {a : Option Addr} {len cap : Nat} {zs : List Int}
    (h : (a = none ∧ len = 0 ∧ cap = 0 ∧ zs = []) ∨ ∃ x, a = some x ∧ len ≤ cap ∧ cap ≤ maxLen ∧ zs.length = cap ∧ (∀ i, i < zs.length → w.cell? (x.add i) = some (.int .u8 (zs.getD i 0))) ∧ ∀ n ∈ zs, (Lit.int .u8 n).wf = true)
    (hl : len ≤ 4294967296) : ReadsB w a (zs.take len) ∧ (zs.take len).length = len := by
  rcases h with ⟨rfl, rfl, rfl, rfl⟩ | ⟨x, rfl, h1, h2, h3, h4, h5⟩
  · exact ⟨ReadsB.nil _ _, rfl⟩
  · have hlen : (zs.take len).length = len := by simp; omega
    refine ⟨⟨by omega, fun x hx => ?_, fun i hi => ?_⟩, hlen⟩
    · have := bounds_u8 (h5 x (List.mem_of_mem_take hx))
      exact ⟨by omega, by omega⟩
    · rw [hlen] at hi
      obtain ⟨b, off, spot⟩ := x
      have hc := h4 0 (by omega)
      have hspot : spot = none := by
        have := World.cell?_spot hc
        simpa [Addr.add] using this
      subst hspot
      refine ⟨b, off, rfl, fun j hj => ?_⟩
      rw [hlen] at hj
      have := h4 j (by omega)
      simp only [List.getD_eq_getElem?_getD, List.getElem?_take, if_pos hj] at this ⊢
      have e : (⟨b, off, none⟩ : Addr).add j = ⟨b, off + j, none⟩ := by
        by_cases h0 : j = 0
        · subst h0; rfl
        · simp [Addr.add, h0]
      rwa [e] at this

/-- The slice of xs that a call owns: it begins at the head of the block g, which lies from base on. -/
def OwnB (w : World) (base : Nat) (v : Value) (xs : List Int) : Prop :=
  w.ownsRow base 5 1 v xs.length (xs.map (Value.int .u8)) ∧ xs.length ≤ 4294967296 ∧ ∀ x ∈ xs, U8 x

theorem OwnB.reads {w : World} {base : Nat} {g n cap : Nat} {xs : List Int} (h : OwnB w base (.slice (some ⟨g, 0, none⟩) n cap) xs) : ReadsB w (some ⟨g, 0, none⟩) xs := by
  obtain ⟨ho, hl, hb⟩ := h
  have hn : n = xs.length := by
    rcases ho.2 with ⟨e, _⟩ | ⟨g', c', cur, e, _⟩
    · simp at e
    · simp at e; exact e.2.1
  subst hn
  refine ⟨hl, hb, fun i _ => ⟨g, 0, rfl, fun j hj => ?_⟩⟩
  have := ho.cellAt j (by simpa using hj)
  simp only [Nat.zero_add]
  rw [this]
  simp [List.getElem?_eq_getElem hj, List.getD]

theorem Tryz.info5 : (Tryz.prog.info? 5).map (fun i => (i.zero, i.size, i.bytes)) = some (some (.int .u8 0), 1, 1) := by kernel_rfl
end Go.Proofs.YtihdablgnmkjnaaGreatDoor
/-
  Numbers as bytes: what is put of a number, what is read at a place, and that the two are one.
-/
namespace Go.Proofs.YtihdablgnmkjnaaGreatDoor
open Go.RowKit

/-- The bytes of a number from 0 to 128 ^ (f + 1) - 1. -/
def putF : Nat → Int → List Int
  | 0, n => [n]
  | f + 1, n => if n < 128 then [n] else (n % 128 + 128) :: putF f (n / 128)

/-- The number at the place p: s where it began, u the worth of the next byte, acc what was read. -/
def rdG (bs : List Int) (s : Nat) : Nat → Nat → Int → Int → Option (Int × Nat)
  | 0, _, _, _ => none
  | f + 1, p, u, acc => match bs[p]? with
    | none => none
    | some b => if 128 ≤ b then rdG bs s f (p + 1) (u * 128) (acc + (b - 128) * u) else if b = 0 ∧ s < p then none else some (acc + b * u, p + 1)

def putL (n : Int) : List Int := putF 5 n
def rdN (bs : List Int) (p : Nat) : Option (Int × Nat) := rdG bs p 6 p 1 0

theorem putF_small {f : Nat} {n : Int} (h : n < 128) : putF f n = [n] := by
  cases f with
  | zero => rfl
  | succ f => rw [putF, if_pos h]
theorem putF_big {f : Nat} {n : Int} (h : ¬ n < 128) : putF (f + 1) n = (n % 128 + 128) :: putF f (n / 128) := by rw [putF, if_neg h]
theorem putF_ne (f : Nat) (n : Int) : putF f n ≠ [] := by
  cases f with
  | zero => simp [putF]
  | succ f => by_cases h : n < 128 <;> simp [putF, h]
theorem putF_len (f : Nat) (n : Int) : 1 ≤ (putF f n).length ∧ (putF f n).length ≤ f + 1 := by
  induction f generalizing n with
  | zero => simp [putF]
  | succ f ih =>
    by_cases h : n < 128
    · rw [putF_small h]; simp
    · rw [putF_big h]; have := ih (n / 128); simp; omega
theorem putF_u8 (f : Nat) (n : Int) (h0 : 0 ≤ n) (h1 : n < 128 ^ (f + 1)) : ∀ x ∈ putF f n, U8 x := by
  induction f generalizing n with
  | zero => intro x hx; simp [putF] at hx; subst hx; exact ⟨by omega, by omega⟩
  | succ f ih =>
    by_cases h : n < 128
    · rw [putF_small h]; intro x hx; simp at hx; subst hx; exact ⟨by omega, by omega⟩
    · rw [putF_big h]
      intro x hx
      rcases List.mem_cons.1 hx with rfl | hx
      · exact ⟨by omega, by omega⟩
      · refine ih (n / 128) (by omega) ?_ x hx
        rw [Int.pow_succ] at h1
        omega

theorem getElem?_drop0 {bs : List Int} {p : Nat} {x : Int} {l : List Int} (h : bs.drop p = x :: l) : bs[p]? = some x ∧ bs.drop (p + 1) = l := by
  have h0 := congrArg (fun l => l[0]?) h
  simp at h0
  refine ⟨h0, ?_⟩
  have := congrArg (List.drop 1) h
  simpa using this

theorem rd_put (bs : List Int) (s : Nat) (rest : List Int) (f : Nat) (n u acc : Int) (p : Nat) (h0 : 0 ≤ n) (h1 : n < 128 ^ (f + 1)) (hb : bs.drop p = putF f n ++ rest) (hs : s < p → 0 < n) :
    rdG bs s (f + 1) p u acc = some (acc + n * u, p + (putF f n).length) := by
  have small : n < 128 → rdG bs s (f + 1) p u acc = some (acc + n * u, p + (putF f n).length) := by
    intro h
    rw [putF_small h] at hb ⊢
    obtain ⟨e, -⟩ := getElem?_drop0 hb
    simp only [rdG, e]
    rw [if_neg (by omega), if_neg (by omega)]
    rfl
  induction f generalizing n u acc p with
  | zero => exact small (by simpa using h1)
  | succ f ih =>
    by_cases h : n < 128
    · exact small h
    · rw [putF_big h] at hb ⊢
      obtain ⟨e, e2⟩ := getElem?_drop0 (l := putF f (n / 128) ++ rest) hb
      have h2 : n / 128 < 128 ^ (f + 1) := by rw [Int.pow_succ] at h1; omega
      have step := ih (n / 128) (u * 128) (acc + (n % 128 + 128 - 128) * u) (p + 1) (by omega) h2 e2 (by omega) (by
        intro h
        rw [putF_small h] at e2 ⊢
        obtain ⟨e, -⟩ := getElem?_drop0 e2
        simp only [rdG, e]
        rw [if_neg (by omega), if_neg (by omega)]
        rfl)
      rw [rdG, e]
      simp only []
      rw [if_pos (by omega), step]
      have e3 : acc + (n % 128 + 128 - 128) * u + n / 128 * (u * 128) = acc + n * u := by
        have hn : n = n % 128 + 128 * (n / 128) := by omega
        have : n % 128 + 128 - 128 = n % 128 := by omega
        rw [this]
        conv => rhs; rw [hn]
        rw [Int.add_mul, Int.mul_comm u 128, ← Int.mul_assoc, Int.mul_comm (n / 128) 128, Int.add_assoc]
      rw [e3]
      simp
      omega

theorem rd_cut (bs : List Int) (s : Nat) (f : Nat) (n u acc : Int) (p : Nat) (h0 : 0 ≤ n) (hb : bs.drop p = (putF f n).dropLast) : rdG bs s (f + 1) p u acc = none := by
  induction f generalizing n u acc p with
  | zero =>
    simp [putF] at hb
    simp only [rdG]
    rw [List.getElem?_eq_none (by omega)]
  | succ f ih =>
    by_cases h : n < 128
    · rw [putF_small h] at hb
      simp at hb
      rw [rdG, List.getElem?_eq_none (by omega)]
    · rw [putF_big h, List.dropLast_cons_of_ne_nil (putF_ne _ _)] at hb
      obtain ⟨e, e2⟩ := getElem?_drop0 hb
      rw [rdG, e]
      simp only []
      rw [if_pos (by omega)]
      exact ih (n / 128) _ _ (p + 1) (by omega) e2

theorem put_rd (bs : List Int) (s : Nat) (hu : ∀ x ∈ bs, U8 x) (f : Nat) (u acc : Int) (p : Nat) (m : Int) (q : Nat) (hsp : s ≤ p) (h : rdG bs s (f + 1) p u acc = some (m, q)) :
    ∃ n, 0 ≤ n ∧ n < 128 ^ (f + 1) ∧ m = acc + n * u ∧ q = p + (putF f n).length ∧ bs.drop p = putF f n ++ bs.drop q ∧ (s < p → 0 < n) := by
  induction f generalizing u acc p with
  | zero =>
    rw [rdG] at h
    cases e : bs[p]? with
    | none => rw [e] at h; cases h
    | some b =>
      have hb := hu b (List.mem_of_getElem? e)
      have hl := (List.getElem?_eq_some_iff.1 e)
      obtain ⟨hl, hv⟩ := hl
      rw [e] at h
      simp only at h
      by_cases h1 : 128 ≤ b
      · rw [if_pos h1, rdG] at h; cases h
      · rw [if_neg h1] at h
        by_cases h2 : b = 0 ∧ s < p
        · rw [if_pos h2] at h; cases h
        · rw [if_neg h2] at h
          simp only [Option.some.injEq, Prod.mk.injEq] at h
          refine ⟨b, hb.1, by simpa using (by omega : b < 128), h.1.symm, by simp [putF]; omega, ?_, fun hs => ?_⟩
          · rw [List.drop_eq_getElem_cons hl, hv, ← h.2]; rfl
          · have : b ≠ 0 := fun h0 => h2 ⟨h0, hs⟩
            have := hb.1
            omega
  | succ f ih =>
    rw [rdG] at h
    cases e : bs[p]? with
    | none => rw [e] at h; cases h
    | some b =>
      have hb := hu b (List.mem_of_getElem? e)
      obtain ⟨hl, hv⟩ := List.getElem?_eq_some_iff.1 e
      obtain ⟨hb0, hb1⟩ := hb
      rw [e] at h
      simp only at h
      by_cases h1 : 128 ≤ b
      · rw [if_pos h1] at h
        obtain ⟨n, n0, n1, hm, hq, hd, hs⟩ := ih _ _ _ (by omega) h
        have hn : 0 < n := hs (by omega)
        refine ⟨128 * n + (b - 128), by omega, ?_, ?_, ?_, ?_, fun _ => by omega⟩
        · rw [Int.pow_succ]; omega
        · rw [hm, Int.add_mul, Int.mul_comm u 128, ← Int.mul_assoc, Int.mul_comm n 128]; omega
        · rw [putF_big (by omega), hq]
          have : (128 * n + (b - 128)) / 128 = n := by omega
          rw [this]; simp; omega
        · rw [putF_big (by omega)]
          have e1 : (128 * n + (b - 128)) / 128 = n := by omega
          have e2 : (128 * n + (b - 128)) % 128 + 128 = b := by omega
          rw [e1, e2, List.drop_eq_getElem_cons hl, hv, hd]
          rfl
      · rw [if_neg h1] at h
        by_cases h2 : b = 0 ∧ s < p
        · rw [if_pos h2] at h; cases h
        · rw [if_neg h2] at h
          simp only [Option.some.injEq, Prod.mk.injEq] at h
          refine ⟨b, hb0, ?_, h.1.symm, by rw [putF_small (by omega)]; simp; omega, ?_, fun hs => ?_⟩
          · have := Int.pow_pos (n := 128) (m := f + 1) (by omega)
            rw [Int.pow_succ]; omega
          · rw [putF_small (by omega), List.drop_eq_getElem_cons hl, hv, ← h.2]; rfl
          · have : b ≠ 0 := fun h0 => h2 ⟨h0, hs⟩
            omega
end Go.Proofs.YtihdablgnmkjnaaGreatDoor
