/-
  do: what an event makes of a board.
-/
import Derived.Test.YtikjodbboljhjaaGreatDoorPackAI
import Derived.Test.YtikjodbboljhjaaGreatDoorPackAG
import Derived.Test.YtikjodbboljhjaaGreatDoorPackAF
import Derived.Test.YtikjodbboljhjaaGreatDoorPackAC
namespace Go.Proofs.YtikjodbboljhjaaGreatDoor
open Go.RowKit

/-- A lock without Readers put into its map. -/
theorem BoardW.putLk0 {w W w' : World} {lo : Nat × Nat} {b b1 b2 b3 b4 n : Nat} {m : Scn} {o wr : Int} {F : Int → Option Value} (h : BoardW lo w b b1 b2 b3 b4 n m) (hm : scB m = true) (f : Fr w W) (hF : ∀ o, LkAt (Off lo) w (F o) (m.ls.find? fun l => l.o == o))
    (k : W.grownBy w' (some b1)) (M : MapF w' b1 (n + 1) (putM F o (.agg #[.int .i64 o, .int .i64 wr, .slice none 0 0]))) (ho : I64 o) (hw : I64 wr) (hfree : lkFree ⟨o, wr, []⟩ = false) :
    BoardW lo w' b b1 b2 b3 b4 (n + 1) (setLk m ⟨o, wr, []⟩) := by
  refine (h.fr f).setL hm (Nat.le_succ n) k M fun fl _ _ o' => ?_
  unfold putM
  split
  · rename_i e
    rw [hfree]
    exact .inr ⟨⟨o, wr, []⟩, ⟨o, wr, none, 0, 0⟩, by simp, rfl, ⟨rfl, rfl, rfl, Reads.nil _ _, inB_none _, fun _ => rfl, by simp, ho, hw⟩⟩
  · exact ((hF o').keep f (by simp)).keep k (off_lt h.lt h.ge (.inr (.inl rfl)))
theorem i64_small {x : Int} (h : -1 ≤ x ∧ x ≤ 1000000000) : I64 x := ⟨by omega, by omega⟩

set_option maxRecDepth 20000 in
set_option maxHeartbeats 2000000 in
theorem do_rlock {lo : Nat × Nat} {b b1 b2 b3 b4 n : Nat} {m : Scn} (gr o wi l sz f t : Int) (w : World) (h : BoardW lo w b b1 b2 b3 b4 n m) (hm : scB m = true) (hn : n < 4000000) (ho : I64 o) (hg : I64 gr) :
    Calls Tryz.prog 99 #[.pointer (some ⟨b, 0, none⟩), .agg #[.int .i64 4, .int .i64 gr, .int .i64 o, .int .i64 wi, .int .i64 l, .int .i64 sz, .int .i64 f, .int .i64 t]] w fun y w' => y = .returned (.tuple #[]) ∧ BoardW lo w' b b1 b2 b3 b4 (n + 1) (setLk m ⟨o, -1, withL (lockZ m o).rd gr⟩) ∧ ∃ x, On b b1 b2 b3 b4 x ∧ w.grownBy w' (some x) := by
  have fW := Fr.alloc w (.cells #[.int .i64 4, .int .i64 gr, .int .i64 o, .int .i64 wi, .int .i64 l, .int .i64 sz, .int .i64 f, .int .i64 t] 31)
  have kE := EvB.new w ⟨4, gr, o, wi, l, sz, f, t⟩
  simp only at kE
  have c := addReader_any o gr _ (h.fr fW) hm hn ho hg
  clear h hm hn
  go_enter Tryz.func99, Tryz.ntmps99
  go_wp2_with fail
  refine c.mono ?_
  rintro y w2 ⟨rfl, B2, g2⟩
  clear c
  go_wp2_with fail
  first | refine bodyPost_ret (results_none rfl _ _ _) rfl ?_ | go_end0
  exact ⟨rfl, B2, b1, .inr (.inl rfl), grown_trans fW.wide g2⟩

set_option maxRecDepth 20000 in
set_option maxHeartbeats 2000000 in
theorem do_runlock {lo : Nat × Nat} {b b1 b2 b3 b4 n : Nat} {m : Scn} (gr o wi l sz f t : Int) (w : World) (h : BoardW lo w b b1 b2 b3 b4 n m) (hm : scB m = true) (hn : n < 4000000) (ho : I64 o) :
    Calls Tryz.prog 99 #[.pointer (some ⟨b, 0, none⟩), .agg #[.int .i64 5, .int .i64 gr, .int .i64 o, .int .i64 wi, .int .i64 l, .int .i64 sz, .int .i64 f, .int .i64 t]] w fun y w' => y = .returned (.tuple #[]) ∧ BoardW lo w' b b1 b2 b3 b4 (n + 1) (setLk m ⟨o, -1, outL (lockZ m o).rd gr⟩) ∧ ∃ x, On b b1 b2 b3 b4 x ∧ w.grownBy w' (some x) := by
  have fW := Fr.alloc w (.cells #[.int .i64 5, .int .i64 gr, .int .i64 o, .int .i64 wi, .int .i64 l, .int .i64 sz, .int .i64 f, .int .i64 t] 31)
  have kE := EvB.new w ⟨5, gr, o, wi, l, sz, f, t⟩
  simp only at kE
  have c := dropReader_any o gr _ (h.fr fW) hm hn ho
  clear h hm hn
  go_enter Tryz.func99, Tryz.ntmps99
  go_wp2_with fail
  refine c.mono ?_
  rintro y w2 ⟨rfl, B2, g2⟩
  clear c
  go_wp2_with fail
  first | refine bodyPost_ret (results_none rfl _ _ _) rfl ?_ | go_end0
  exact ⟨rfl, B2, b1, .inr (.inl rfl), grown_trans fW.wide g2⟩

set_option maxRecDepth 20000 in
set_option maxHeartbeats 2000000 in
theorem do_send {lo : Nat × Nat} {b b1 b2 b3 b4 n : Nat} {m : Scn} (gr o wi l sz f t : Int) (w : World) (h : BoardW lo w b b1 b2 b3 b4 n m) (hm : scB m = true) (hn : n < 4000000) (ho : I64 o) (hi : isChan m.cs o = true) :
    Calls Tryz.prog 99 #[.pointer (some ⟨b, 0, none⟩), .agg #[.int .i64 7, .int .i64 gr, .int .i64 o, .int .i64 wi, .int .i64 l, .int .i64 sz, .int .i64 f, .int .i64 t]] w fun y w' => y = .returned (.tuple #[]) ∧ BoardW lo w' b b1 b2 b3 b4 (n + 1) (setCh m (chanTo m ⟨7, gr, o, wi, l, sz, f, t⟩)) ∧ ∃ x, On b b1 b2 b3 b4 x ∧ w.grownBy w' (some x) := by
  have fW := Fr.alloc w (.cells #[.int .i64 7, .int .i64 gr, .int .i64 o, .int .i64 wi, .int .i64 l, .int .i64 sz, .int .i64 f, .int .i64 t] 31)
  have kE := EvB.new w ⟨7, gr, o, wi, l, sz, f, t⟩
  simp only at kE
  have c := useChan_any ⟨7, gr, o, wi, l, sz, f, t⟩ _ (by simp) (h.fr fW) hm hn ho hi
  clear h hm hn
  go_enter Tryz.func99, Tryz.ntmps99
  go_wp2_with fail
  refine c.mono ?_
  rintro y w2 ⟨rfl, B2, g2⟩
  clear c
  go_wp2_with fail
  first | refine bodyPost_ret (results_none rfl _ _ _) rfl ?_ | go_end0
  exact ⟨rfl, B2, b2, .inr (.inr (.inl rfl)), grown_trans fW.wide g2⟩

set_option maxRecDepth 20000 in
set_option maxHeartbeats 2000000 in
theorem do_recv {lo : Nat × Nat} {b b1 b2 b3 b4 n : Nat} {m : Scn} (gr o wi l sz f t : Int) (w : World) (h : BoardW lo w b b1 b2 b3 b4 n m) (hm : scB m = true) (hn : n < 4000000) (ho : I64 o) (hi : isChan m.cs o = true) :
    Calls Tryz.prog 99 #[.pointer (some ⟨b, 0, none⟩), .agg #[.int .i64 8, .int .i64 gr, .int .i64 o, .int .i64 wi, .int .i64 l, .int .i64 sz, .int .i64 f, .int .i64 t]] w fun y w' => y = .returned (.tuple #[]) ∧ BoardW lo w' b b1 b2 b3 b4 (n + 1) (setCh m (chanTo m ⟨8, gr, o, wi, l, sz, f, t⟩)) ∧ ∃ x, On b b1 b2 b3 b4 x ∧ w.grownBy w' (some x) := by
  have fW := Fr.alloc w (.cells #[.int .i64 8, .int .i64 gr, .int .i64 o, .int .i64 wi, .int .i64 l, .int .i64 sz, .int .i64 f, .int .i64 t] 31)
  have kE := EvB.new w ⟨8, gr, o, wi, l, sz, f, t⟩
  simp only at kE
  have c := useChan_any ⟨8, gr, o, wi, l, sz, f, t⟩ _ (by simp) (h.fr fW) hm hn ho hi
  clear h hm hn
  go_enter Tryz.func99, Tryz.ntmps99
  go_wp2_with fail
  refine c.mono ?_
  rintro y w2 ⟨rfl, B2, g2⟩
  clear c
  go_wp2_with fail
  first | refine bodyPost_ret (results_none rfl _ _ _) rfl ?_ | go_end0
  exact ⟨rfl, B2, b2, .inr (.inr (.inl rfl)), grown_trans fW.wide g2⟩

set_option maxRecDepth 20000 in
set_option maxHeartbeats 2000000 in
theorem do_close {lo : Nat × Nat} {b b1 b2 b3 b4 n : Nat} {m : Scn} (gr o wi l sz f t : Int) (w : World) (h : BoardW lo w b b1 b2 b3 b4 n m) (hm : scB m = true) (hn : n < 4000000) (ho : I64 o) (hi : isChan m.cs o = true) :
    Calls Tryz.prog 99 #[.pointer (some ⟨b, 0, none⟩), .agg #[.int .i64 10, .int .i64 gr, .int .i64 o, .int .i64 wi, .int .i64 l, .int .i64 sz, .int .i64 f, .int .i64 t]] w fun y w' => y = .returned (.tuple #[]) ∧ BoardW lo w' b b1 b2 b3 b4 (n + 1) (setCh m (chanTo m ⟨10, gr, o, wi, l, sz, f, t⟩)) ∧ ∃ x, On b b1 b2 b3 b4 x ∧ w.grownBy w' (some x) := by
  have fW := Fr.alloc w (.cells #[.int .i64 10, .int .i64 gr, .int .i64 o, .int .i64 wi, .int .i64 l, .int .i64 sz, .int .i64 f, .int .i64 t] 31)
  have kE := EvB.new w ⟨10, gr, o, wi, l, sz, f, t⟩
  simp only at kE
  have c := useChan_any ⟨10, gr, o, wi, l, sz, f, t⟩ _ (by simp) (h.fr fW) hm hn ho hi
  clear h hm hn
  go_enter Tryz.func99, Tryz.ntmps99
  go_wp2_with fail
  refine c.mono ?_
  rintro y w2 ⟨rfl, B2, g2⟩
  clear c
  go_wp2_with fail
  first | refine bodyPost_ret (results_none rfl _ _ _) rfl ?_ | go_end0
  exact ⟨rfl, B2, b2, .inr (.inr (.inl rfl)), grown_trans fW.wide g2⟩

set_option maxRecDepth 20000 in
set_option maxHeartbeats 2000000 in
theorem do_add {lo : Nat × Nat} {b b1 b2 b3 b4 n : Nat} {m : Scn} (gr o wi l sz f t : Int) (w : World) (h : BoardW lo w b b1 b2 b3 b4 n m) (hm : scB m = true) (hn : n < 4000000) (ho : I64 o) (hs : 1 ≤ sz ∧ sz ≤ 9) :
    Calls Tryz.prog 99 #[.pointer (some ⟨b, 0, none⟩), .agg #[.int .i64 12, .int .i64 gr, .int .i64 o, .int .i64 wi, .int .i64 l, .int .i64 sz, .int .i64 f, .int .i64 t]] w fun y w' => y = .returned (.tuple #[]) ∧ BoardW lo w' b b1 b2 b3 b4 (n + 1) (setCt m o (countOf m.gs o + sz)) ∧ ∃ x, On b b1 b2 b3 b4 x ∧ w.grownBy w' (some x) := by
  have fW := Fr.alloc w (.cells #[.int .i64 12, .int .i64 gr, .int .i64 o, .int .i64 wi, .int .i64 l, .int .i64 sz, .int .i64 f, .int .i64 t] 31)
  have kE := EvB.new w ⟨12, gr, o, wi, l, sz, f, t⟩
  simp only at kE
  have c := addCount_any o sz _ (h.fr fW) hm hn ho (by omega)
  clear h hm hn
  go_enter Tryz.func99, Tryz.ntmps99
  go_wp2_with fail
  refine c.mono ?_
  rintro y w2 ⟨rfl, B2, g2⟩
  clear c
  go_wp2_with fail
  first | refine bodyPost_ret (results_none rfl _ _ _) rfl ?_ | go_end0
  exact ⟨rfl, B2, b3, .inr (.inr (.inr (.inl rfl))), grown_trans fW.wide g2⟩

set_option maxRecDepth 20000 in
set_option maxHeartbeats 2000000 in
theorem do_done {lo : Nat × Nat} {b b1 b2 b3 b4 n : Nat} {m : Scn} (gr o wi l sz f t : Int) (w : World) (h : BoardW lo w b b1 b2 b3 b4 n m) (hm : scB m = true) (hn : n < 4000000) (ho : I64 o) :
    Calls Tryz.prog 99 #[.pointer (some ⟨b, 0, none⟩), .agg #[.int .i64 13, .int .i64 gr, .int .i64 o, .int .i64 wi, .int .i64 l, .int .i64 sz, .int .i64 f, .int .i64 t]] w fun y w' => y = .returned (.tuple #[]) ∧ BoardW lo w' b b1 b2 b3 b4 (n + 1) (setCt m o (countOf m.gs o + -1)) ∧ ∃ x, On b b1 b2 b3 b4 x ∧ w.grownBy w' (some x) := by
  have fW := Fr.alloc w (.cells #[.int .i64 13, .int .i64 gr, .int .i64 o, .int .i64 wi, .int .i64 l, .int .i64 sz, .int .i64 f, .int .i64 t] 31)
  have kE := EvB.new w ⟨13, gr, o, wi, l, sz, f, t⟩
  simp only at kE
  have c := addCount_any o (-1) _ (h.fr fW) hm hn ho (by omega)
  clear h hm hn
  go_enter Tryz.func99, Tryz.ntmps99
  go_wp2_with fail
  refine c.mono ?_
  rintro y w2 ⟨rfl, B2, g2⟩
  clear c
  go_wp2_with fail
  first | refine bodyPost_ret (results_none rfl _ _ _) rfl ?_ | go_end0
  exact ⟨rfl, B2, b3, .inr (.inr (.inr (.inl rfl))), grown_trans fW.wide g2⟩

set_option maxRecDepth 20000 in
set_option maxHeartbeats 2000000 in
theorem do_lock {lo : Nat × Nat} {b b1 b2 b3 b4 n : Nat} {m : Scn} (gr o wi l sz f t : Int) (w : World) (h : BoardW lo w b b1 b2 b3 b4 n m) (hm : scB m = true) (hn : n < 4000000) (ho : I64 o) (hg : 0 ≤ gr ∧ gr ≤ 1000000) :
    Calls Tryz.prog 99 #[.pointer (some ⟨b, 0, none⟩), .agg #[.int .i64 2, .int .i64 gr, .int .i64 o, .int .i64 wi, .int .i64 l, .int .i64 sz, .int .i64 f, .int .i64 t]] w fun y w' => y = .returned (.tuple #[]) ∧ BoardW lo w' b b1 b2 b3 b4 (n + 1) (setLk m ⟨o, gr, []⟩) ∧ ∃ x, On b b1 b2 b3 b4 x ∧ w.grownBy w' (some x) := by
  have fW := Fr.alloc w (.cells #[.int .i64 2, .int .i64 gr, .int .i64 o, .int .i64 wi, .int .i64 l, .int .i64 sz, .int .i64 f, .int .i64 t] 31)
  have kE := EvB.new w ⟨2, gr, o, wi, l, sz, f, t⟩
  simp only at kE
  have cM := h.toM.c1
  have hbl := h.blt
  have hlt := h.lt
  have HB : Hid (BoardW lo w b b1 b2 b3 b4 n m ∧ scB m = true) := ⟨h, hm⟩
  obtain ⟨F, M, hF⟩ := h.m1
  have HF : Hid (∀ o, LkAt (Off lo) w (F o) (m.ls.find? fun l => l.o == o)) := hF
  clear hF
  have _ := hn
  clear h hm
  go_enter Tryz.func99, Tryz.ntmps99
  go_wp2_with fail
  obtain ⟨W, hW⟩ : ∃ W, W = w.alloc (.cells #[.int .i64 2, .int .i64 gr, .int .i64 o, .int .i64 wi, .int .i64 l, .int .i64 sz, .int .i64 f, .int .i64 t] 31) := ⟨_, rfl⟩
  rw [← hW] at fW kE ⊢
  clear hW
  have hne : ¬ (some w.heap.size = some b1) := fun q => by simp only [Option.some.injEq] at q; omega
  have hne2 : ¬ (some b = some b1) := fun q => by simp only [Option.some.injEq] at q; omega
  obtain ⟨E, hE⟩ : ∃ E, E = w.heap.size := ⟨_, rfl⟩
  rw [← hE] at kE hne ⊢
  clear hE
  have cM := fW.cell cM
  obtain ⟨w1, hrun, M1, g1⟩ := ((M.fr fW).fr (Fr.drew W)).put Tryz.underlying125 (by unfold maxLen; omega) ho (.agg #[.int .i64 o, .int .i64 gr, .slice none 0 0])
  have gW : W.grownBy w1 (some b1) := grown_trans (grown_draw W 1 _) g1
  obtain ⟨y0, y1, y2, y3, y4, y5, y6, y7⟩ := kE.at
  obtain ⟨z0, z1, z2, z3, z4, z5, z6, z7⟩ := (kE.keep gW (fun q => hne q.symm)).at
  have x2 := gW.cell cM hne2
  simp only at y0 y1 y2 y3 y4 y5 y6 y7 z0 z1 z2 z3 z4 z5 z6 z7
  clear M kE
  go_region_held3 (fun u => u.cell? ⟨b, 1, none⟩ = some (.map (some b1)) ∧ u.cell? ⟨E, 0, none⟩ = some (.int .i64 2) ∧ u.cell? ⟨E, 1, none⟩ = some (.int .i64 gr) ∧ u.cell? ⟨E, 2, none⟩ = some (.int .i64 o) ∧ u.cell? ⟨E, 3, none⟩ = some (.int .i64 wi) ∧ u.cell? ⟨E, 4, none⟩ = some (.int .i64 l) ∧ u.cell? ⟨E, 5, none⟩ = some (.int .i64 sz) ∧ u.cell? ⟨E, 6, none⟩ = some (.int .i64 f) ∧ u.cell? ⟨E, 7, none⟩ = some (.int .i64 t)) (go_keep) (fail)
  first | refine bodyPost_ret (results_none rfl _ _ _) rfl ?_ | go_end0
  exact ⟨rfl, HB.out.1.putLk0 HB.out.2 fW HF.out gW M1 ho (i64_small (by omega)) (by simp [lkFree]; omega), b1, .inr (.inl rfl), grown_trans fW.wide gW⟩

set_option maxRecDepth 20000 in
set_option maxHeartbeats 2000000 in
theorem do_unlock {lo : Nat × Nat} {b b1 b2 b3 b4 n : Nat} {m : Scn} (gr o wi l sz f t : Int) (w : World) (h : BoardW lo w b b1 b2 b3 b4 n m) (hm : scB m = true) (hn : n < 4000000) (ho : I64 o) :
    Calls Tryz.prog 99 #[.pointer (some ⟨b, 0, none⟩), .agg #[.int .i64 3, .int .i64 gr, .int .i64 o, .int .i64 wi, .int .i64 l, .int .i64 sz, .int .i64 f, .int .i64 t]] w fun y w' => y = .returned (.tuple #[]) ∧ BoardW lo w' b b1 b2 b3 b4 (n + 1) (setLk m ⟨o, -1, []⟩) ∧ ∃ x, On b b1 b2 b3 b4 x ∧ w.grownBy w' (some x) := by
  have fW := Fr.alloc w (.cells #[.int .i64 3, .int .i64 gr, .int .i64 o, .int .i64 wi, .int .i64 l, .int .i64 sz, .int .i64 f, .int .i64 t] 31)
  have kE := EvB.new w ⟨3, gr, o, wi, l, sz, f, t⟩
  simp only at kE
  have cM := h.toM.c1
  have hbl := h.blt
  have hlt := h.lt
  have HB : Hid (BoardW lo w b b1 b2 b3 b4 n m ∧ scB m = true) := ⟨h, hm⟩
  obtain ⟨F, M, hF⟩ := h.m1
  have HF : Hid (∀ o, LkAt (Off lo) w (F o) (m.ls.find? fun l => l.o == o)) := hF
  clear hF
  have _ := hn
  clear h hm
  go_enter Tryz.func99, Tryz.ntmps99
  go_wp2_with fail
  obtain ⟨W, hW⟩ : ∃ W, W = w.alloc (.cells #[.int .i64 3, .int .i64 gr, .int .i64 o, .int .i64 wi, .int .i64 l, .int .i64 sz, .int .i64 f, .int .i64 t] 31) := ⟨_, rfl⟩
  rw [← hW] at fW kE ⊢
  clear hW
  have hne : ¬ (some w.heap.size = some b1) := fun q => by simp only [Option.some.injEq] at q; omega
  have hne2 : ¬ (some b = some b1) := fun q => by simp only [Option.some.injEq] at q; omega
  obtain ⟨E, hE⟩ : ∃ E, E = w.heap.size := ⟨_, rfl⟩
  rw [← hE] at kE hne ⊢
  clear hE
  have cM := fW.cell cM
  obtain ⟨w1, hrun, M1, g1⟩ := ((M.fr fW).fr (Fr.drew W)).del Tryz.underlying125 ho 0
  have gW : W.grownBy w1 (some b1) := grown_trans (grown_draw W 1 _) g1
  obtain ⟨y0, y1, y2, y3, y4, y5, y6, y7⟩ := kE.at
  obtain ⟨z0, z1, z2, z3, z4, z5, z6, z7⟩ := (kE.keep gW (fun q => hne q.symm)).at
  have x2 := gW.cell cM hne2
  simp only at y0 y1 y2 y3 y4 y5 y6 y7 z0 z1 z2 z3 z4 z5 z6 z7
  clear M kE
  go_region_held3 (fun u => u.cell? ⟨b, 1, none⟩ = some (.map (some b1)) ∧ u.cell? ⟨E, 0, none⟩ = some (.int .i64 3) ∧ u.cell? ⟨E, 1, none⟩ = some (.int .i64 gr) ∧ u.cell? ⟨E, 2, none⟩ = some (.int .i64 o) ∧ u.cell? ⟨E, 3, none⟩ = some (.int .i64 wi) ∧ u.cell? ⟨E, 4, none⟩ = some (.int .i64 l) ∧ u.cell? ⟨E, 5, none⟩ = some (.int .i64 sz) ∧ u.cell? ⟨E, 6, none⟩ = some (.int .i64 f) ∧ u.cell? ⟨E, 7, none⟩ = some (.int .i64 t)) (go_keep) (fail)
  first | refine bodyPost_ret (results_none rfl _ _ _) rfl ?_ | go_end0
  exact ⟨rfl, HB.out.1.delLk (l := ⟨o, -1, []⟩) HB.out.2 fW HF.out gW M1 (by simp [lkFree]), b1, .inr (.inl rfl), grown_trans fW.wide gW⟩

set_option maxRecDepth 20000 in
set_option maxHeartbeats 2000000 in
theorem do_make {lo : Nat × Nat} {b b1 b2 b3 b4 n : Nat} {m : Scn} (gr o wi l sz f t : Int) (w : World) (h : BoardW lo w b b1 b2 b3 b4 n m) (hm : scB m = true) (hn : n < 4000000) (ho : I64 o) :
    Calls Tryz.prog 99 #[.pointer (some ⟨b, 0, none⟩), .agg #[.int .i64 6, .int .i64 gr, .int .i64 o, .int .i64 wi, .int .i64 l, .int .i64 sz, .int .i64 f, .int .i64 t]] w fun y w' => y = .returned (.tuple #[]) ∧ BoardW lo w' b b1 b2 b3 b4 (n + 1) (setCh m ⟨o, sz, 0, 0, false⟩) ∧ ∃ x, On b b1 b2 b3 b4 x ∧ w.grownBy w' (some x) := by
  have fW := Fr.alloc w (.cells #[.int .i64 6, .int .i64 gr, .int .i64 o, .int .i64 wi, .int .i64 l, .int .i64 sz, .int .i64 f, .int .i64 t] 31)
  have kE := EvB.new w ⟨6, gr, o, wi, l, sz, f, t⟩
  simp only at kE
  have cM := h.toM.c2
  have hbl := h.blt
  have hlt := h.lt
  have HB : Hid (BoardW lo w b b1 b2 b3 b4 n m ∧ scB m = true) := ⟨h, hm⟩
  have M := h.m2
  have _ := hn
  clear h hm
  go_enter Tryz.func99, Tryz.ntmps99
  go_wp2_with fail
  obtain ⟨W, hW⟩ : ∃ W, W = w.alloc (.cells #[.int .i64 6, .int .i64 gr, .int .i64 o, .int .i64 wi, .int .i64 l, .int .i64 sz, .int .i64 f, .int .i64 t] 31) := ⟨_, rfl⟩
  rw [← hW] at fW kE ⊢
  clear hW
  have hne : ¬ (some w.heap.size = some b2) := fun q => by simp only [Option.some.injEq] at q; omega
  have hne2 : ¬ (some b = some b2) := fun q => by simp only [Option.some.injEq] at q; omega
  obtain ⟨E, hE⟩ : ∃ E, E = w.heap.size := ⟨_, rfl⟩
  rw [← hE] at kE hne ⊢
  clear hE
  have cM := fW.cell cM
  obtain ⟨w1, hrun, M1, g1⟩ := ((M.fr fW).fr (Fr.drew W)).put Tryz.underlying128 (by unfold maxLen; omega) ho (.agg #[.int .i64 o, .int .i64 sz, .int .i64 0, .int .i64 0, .bool false])
  have gW : W.grownBy w1 (some b2) := grown_trans (grown_draw W 1 _) g1
  obtain ⟨y0, y1, y2, y3, y4, y5, y6, y7⟩ := kE.at
  obtain ⟨z0, z1, z2, z3, z4, z5, z6, z7⟩ := (kE.keep gW (fun q => hne q.symm)).at
  have x2 := gW.cell cM hne2
  simp only at y0 y1 y2 y3 y4 y5 y6 y7 z0 z1 z2 z3 z4 z5 z6 z7
  clear M kE
  go_region_held3 (fun u => u.cell? ⟨b, 2, none⟩ = some (.map (some b2)) ∧ u.cell? ⟨E, 0, none⟩ = some (.int .i64 6) ∧ u.cell? ⟨E, 1, none⟩ = some (.int .i64 gr) ∧ u.cell? ⟨E, 2, none⟩ = some (.int .i64 o) ∧ u.cell? ⟨E, 3, none⟩ = some (.int .i64 wi) ∧ u.cell? ⟨E, 4, none⟩ = some (.int .i64 l) ∧ u.cell? ⟨E, 5, none⟩ = some (.int .i64 sz) ∧ u.cell? ⟨E, 6, none⟩ = some (.int .i64 f) ∧ u.cell? ⟨E, 7, none⟩ = some (.int .i64 t)) (go_keep) (fail)
  first | refine bodyPost_ret (results_none rfl _ _ _) rfl ?_ | go_end0
  exact ⟨rfl, (HB.out.1.fr fW).setC (c := ⟨o, sz, 0, 0, false⟩) HB.out.2 (Nat.le_succ n) gW M1, b2, .inr (.inr (.inl rfl)), grown_trans fW.wide gW⟩

set_option maxRecDepth 20000 in
set_option maxHeartbeats 2000000 in
theorem do_once {lo : Nat × Nat} {b b1 b2 b3 b4 n : Nat} {m : Scn} (gr o wi l sz f t : Int) (w : World) (h : BoardW lo w b b1 b2 b3 b4 n m) (hm : scB m = true) (hn : n < 4000000) (ho : I64 o) :
    Calls Tryz.prog 99 #[.pointer (some ⟨b, 0, none⟩), .agg #[.int .i64 15, .int .i64 gr, .int .i64 o, .int .i64 wi, .int .i64 l, .int .i64 sz, .int .i64 f, .int .i64 t]] w fun y w' => y = .returned (.tuple #[]) ∧ BoardW lo w' b b1 b2 b3 b4 (n + 1) ({ m with os := withL m.os o }) ∧ ∃ x, On b b1 b2 b3 b4 x ∧ w.grownBy w' (some x) := by
  have fW := Fr.alloc w (.cells #[.int .i64 15, .int .i64 gr, .int .i64 o, .int .i64 wi, .int .i64 l, .int .i64 sz, .int .i64 f, .int .i64 t] 31)
  have kE := EvB.new w ⟨15, gr, o, wi, l, sz, f, t⟩
  simp only at kE
  have cM := h.toM.c4
  have hbl := h.blt
  have hlt := h.lt
  have HB : Hid (BoardW lo w b b1 b2 b3 b4 n m ∧ scB m = true) := ⟨h, hm⟩
  have M := h.m4
  have _ := hn
  clear h hm
  go_enter Tryz.func99, Tryz.ntmps99
  go_wp2_with fail
  obtain ⟨W, hW⟩ : ∃ W, W = w.alloc (.cells #[.int .i64 15, .int .i64 gr, .int .i64 o, .int .i64 wi, .int .i64 l, .int .i64 sz, .int .i64 f, .int .i64 t] 31) := ⟨_, rfl⟩
  rw [← hW] at fW kE ⊢
  clear hW
  have hne : ¬ (some w.heap.size = some b4) := fun q => by simp only [Option.some.injEq] at q; omega
  have hne2 : ¬ (some b = some b4) := fun q => by simp only [Option.some.injEq] at q; omega
  obtain ⟨E, hE⟩ : ∃ E, E = w.heap.size := ⟨_, rfl⟩
  rw [← hE] at kE hne ⊢
  clear hE
  have cM := fW.cell cM
  obtain ⟨w1, hrun, M1, g1⟩ := ((M.fr fW).fr (Fr.drew W)).put Tryz.underlying134 (by unfold maxLen; omega) ho (.int .i64 o)
  have gW : W.grownBy w1 (some b4) := grown_trans (grown_draw W 1 _) g1
  obtain ⟨y0, y1, y2, y3, y4, y5, y6, y7⟩ := kE.at
  obtain ⟨z0, z1, z2, z3, z4, z5, z6, z7⟩ := (kE.keep gW (fun q => hne q.symm)).at
  have x2 := gW.cell cM hne2
  simp only at y0 y1 y2 y3 y4 y5 y6 y7 z0 z1 z2 z3 z4 z5 z6 z7
  clear M kE
  go_region_held3 (fun u => u.cell? ⟨b, 4, none⟩ = some (.map (some b4)) ∧ u.cell? ⟨E, 0, none⟩ = some (.int .i64 15) ∧ u.cell? ⟨E, 1, none⟩ = some (.int .i64 gr) ∧ u.cell? ⟨E, 2, none⟩ = some (.int .i64 o) ∧ u.cell? ⟨E, 3, none⟩ = some (.int .i64 wi) ∧ u.cell? ⟨E, 4, none⟩ = some (.int .i64 l) ∧ u.cell? ⟨E, 5, none⟩ = some (.int .i64 sz) ∧ u.cell? ⟨E, 6, none⟩ = some (.int .i64 f) ∧ u.cell? ⟨E, 7, none⟩ = some (.int .i64 t)) (go_keep) (fail)
  first | refine bodyPost_ret (results_none rfl _ _ _) rfl ?_ | go_end0
  exact ⟨rfl, (HB.out.1.fr fW).setO HB.out.2 (Nat.le_succ n) gW M1, b4, .inr (.inr (.inr (.inr rfl))), grown_trans fW.wide gW⟩

set_option maxRecDepth 20000 in
set_option maxHeartbeats 2000000 in
theorem do_go {lo : Nat × Nat} {b b1 b2 b3 b4 n : Nat} {m : Scn} (gr o wi l sz f t : Int) (w : World) (h : BoardW lo w b b1 b2 b3 b4 n m) (hm : scB m = true) (hn : n < 4000000) (hg : m.g ≤ 1000) :
    Calls Tryz.prog 99 #[.pointer (some ⟨b, 0, none⟩), .agg #[.int .i64 1, .int .i64 gr, .int .i64 o, .int .i64 wi, .int .i64 l, .int .i64 sz, .int .i64 f, .int .i64 t]] w fun y w' => y = .returned (.tuple #[]) ∧ BoardW lo w' b b1 b2 b3 b4 (n + 1) ({ m with g := m.g + 1 }) ∧ ∃ x, On b b1 b2 b3 b4 x ∧ w.grownBy w' (some x) := by
  have fW := Fr.alloc w (.cells #[.int .i64 1, .int .i64 gr, .int .i64 o, .int .i64 wi, .int .i64 l, .int .i64 sz, .int .i64 f, .int .i64 t] 31)
  have kE := EvB.new w ⟨1, gr, o, wi, l, sz, f, t⟩
  simp only at kE
  have g0 := h.toM.c0
  have hr := frozen_of_row w b 0 _ _ h.row
  have hg1 := ((scB_iff m).1 hm).1.1
  have HB : Hid (BoardW lo w b b1 b2 b3 b4 n m) := h
  have hbl := h.blt
  have _ := hn
  clear h hm
  obtain ⟨g, hgg⟩ : ∃ g, g = m.g := ⟨_, rfl⟩
  rw [← hgg] at g0 hg hg1
  have HG : Hid (g = m.g) := hgg
  clear hgg
  have hw : IntKind.i64.wrap (g + 1) = g + 1 := by rw [IntKind.wrap_i64]; omega
  go_enter Tryz.func99, Tryz.ntmps99
  go_wp2_with fail
  first | refine bodyPost_ret (results_none rfl _ _ _) rfl ?_ | go_end0
  refine ⟨rfl, ?_, b, .inl rfl, grown_trans (grown_set _ _ _ _) (Fr.alloc _ _).wide⟩
  have q := ((HB.out.setG (g + 1)).fr (Fr.alloc (w.setCell ⟨b, 0, none⟩ (.int .i64 (g + 1))) (.cells #[.int .i64 1, .int .i64 gr, .int .i64 o, .int .i64 wi, .int .i64 l, .int .i64 sz, .int .i64 f, .int .i64 t] 31))).mono (Nat.le_succ n)
  rw [HG.out] at q ⊢
  exact q

set_option maxRecDepth 20000 in
set_option maxHeartbeats 2000000 in
theorem do_none {lo : Nat × Nat} {b b1 b2 b3 b4 n : Nat} {m : Scn} (k gr o wi l sz f t : Int) (w : World) (h : BoardW lo w b b1 b2 b3 b4 n m) (hm : scB m = true) (hn : n < 4000000) (hk : k ≠ 1 ∧ k ≠ 2 ∧ k ≠ 3 ∧ k ≠ 4 ∧ k ≠ 5 ∧ k ≠ 6 ∧ k ≠ 7 ∧ k ≠ 8 ∧ k ≠ 10 ∧ k ≠ 12 ∧ k ≠ 13 ∧ k ≠ 15) :
    Calls Tryz.prog 99 #[.pointer (some ⟨b, 0, none⟩), .agg #[.int .i64 k, .int .i64 gr, .int .i64 o, .int .i64 wi, .int .i64 l, .int .i64 sz, .int .i64 f, .int .i64 t]] w fun y w' => y = .returned (.tuple #[]) ∧ BoardW lo w' b b1 b2 b3 b4 (n + 1) (m) ∧ ∃ x, On b b1 b2 b3 b4 x ∧ w.grownBy w' (some x) := by
  have fW := Fr.alloc w (.cells #[.int .i64 k, .int .i64 gr, .int .i64 o, .int .i64 wi, .int .i64 l, .int .i64 sz, .int .i64 f, .int .i64 t] 31)
  have kE := EvB.new w ⟨k, gr, o, wi, l, sz, f, t⟩
  simp only at kE
  obtain ⟨n1, n2, n3, n4, n5, n6, n7, n8, n10, n12, n13, n15⟩ := hk
  have q1 : (k == 1) = false := by simpa using n1
  have q2 : (k == 2) = false := by simpa using n2
  have q3 : (k == 3) = false := by simpa using n3
  have q4 : (k == 4) = false := by simpa using n4
  have q5 : (k == 5) = false := by simpa using n5
  have q6 : (k == 6) = false := by simpa using n6
  have q7 : (k == 7) = false := by simpa using n7
  have q8 : (k == 8) = false := by simpa using n8
  have q10 : (k == 10) = false := by simpa using n10
  have q12 : (k == 12) = false := by simpa using n12
  have q13 : (k == 13) = false := by simpa using n13
  have q15 : (k == 15) = false := by simpa using n15
  clear n1 n2 n3 n4 n5 n6 n7 n8 n10 n12 n13 n15
  have HB : Hid (BoardW lo w b b1 b2 b3 b4 n m) := h
  have _ := And.intro hn hm
  clear h hm hn
  go_enter Tryz.func99, Tryz.ntmps99
  go_wp2_with fail
  first | refine bodyPost_ret (results_none rfl _ _ _) rfl ?_ | go_end0
  exact ⟨rfl, (HB.out.fr fW).mono (Nat.le_succ n), b, .inl rfl, fW.wide⟩

theorem lockTo_2 {m : Scn} {e : Ev} (hm : scB m = true) (hR : restCode m e = 0) (hk : e.k = 2) : lockTo m e = ⟨e.o, e.g, []⟩ := by
  obtain ⟨lo, ll⟩ := lock_all hm e.o
  unfold restCode at hR
  rw [if_pos (by omega)] at hR
  unfold lockCode at hR
  unfold lockTo
  rw [if_pos hk] at hR ⊢
  generalize lockOf m.ls e.o = L at lo ll hR ⊢
  obtain ⟨o1, w1, r1⟩ := L
  split at hR
  · cases hR
  · rename_i q
    simp only at lo q ⊢
    have : r1 = [] := List.eq_nil_of_length_eq_zero (by omega)
    rw [lo, this]
theorem lockTo_3 {m : Scn} {e : Ev} (hm : scB m = true) (hE : evOk e = true) (hR : restCode m e = 0) (hk : e.k = 3) : lockTo m e = ⟨e.o, -1, []⟩ := by
  obtain ⟨lo, ll⟩ := lock_all hm e.o
  have hg := (evOk_k hE).2.1
  unfold restCode at hR
  rw [if_pos (by omega)] at hR
  unfold lockCode at hR
  unfold lockTo
  rw [if_neg (by omega), if_neg (by omega), if_pos hk] at hR
  rw [if_neg (by omega), if_pos hk]
  generalize lockOf m.ls e.o = L at lo ll hR ⊢
  obtain ⟨o1, w1, r1⟩ := L
  split at hR
  · rename_i q
    simp only at lo q ⊢
    have : r1 = [] := by
      rcases ll with h | h
      · cases h; rfl
      · obtain ⟨-, -, -, q4⟩ := (lkB_iff _ _).1 h
        simp only at q4
        rcases q4 with q4 | q4
        · exact q4.2
        · omega
    rw [lo, this]
  · cases hR
theorem lockZ_rdof {m : Scn} (hm : scB m = true) (o : Int) : (lockOf m.ls o).rd = (lockZ m o).rd := by
  rcases lock_in hm o with ⟨-, h2, h3⟩ | ⟨-, h2, -⟩
  · rw [h2, h3]
  · rw [h2]
theorem lockTo_4 {m : Scn} {e : Ev} (hm : scB m = true) (hR : restCode m e = 0) (hk : e.k = 4) : lockTo m e = ⟨e.o, -1, withL (lockZ m e.o).rd e.g⟩ := by
  obtain ⟨lo, ll⟩ := lock_all hm e.o
  rw [← lockZ_rdof hm]
  unfold restCode at hR
  rw [if_pos (by omega)] at hR
  unfold lockCode at hR
  unfold lockTo
  rw [if_neg (by omega), if_pos hk] at hR
  rw [if_neg (by omega), if_neg (by omega), if_pos hk]
  generalize lockOf m.ls e.o = L at lo ll hR ⊢
  obtain ⟨o1, w1, r1⟩ := L
  split at hR
  · cases hR
  · rename_i q
    simp only at lo q ⊢
    have : w1 = -1 := by
      rcases ll with h | h
      · cases h; rfl
      · obtain ⟨-, -, q3, -⟩ := (lkB_iff _ _).1 h
        simp only at q3
        omega
    rw [lo, this]
theorem lockTo_5 {m : Scn} {e : Ev} (hm : scB m = true) (hR : restCode m e = 0) (hk : e.k = 5) : lockTo m e = ⟨e.o, -1, outL (lockZ m e.o).rd e.g⟩ := by
  obtain ⟨lo, ll⟩ := lock_all hm e.o
  rw [← lockZ_rdof hm]
  unfold restCode at hR
  rw [if_pos (by omega)] at hR
  unfold lockCode at hR
  unfold lockTo
  rw [if_neg (by omega), if_neg (by omega), if_neg (by omega), if_pos hk] at hR
  rw [if_neg (by omega), if_neg (by omega), if_neg (by omega)]
  generalize lockOf m.ls e.o = L at lo ll hR ⊢
  obtain ⟨o1, w1, r1⟩ := L
  split at hR
  · rename_i q
    have hin := (memB_iff _ _).1 q
    simp only at lo hin ⊢
    have : w1 = -1 := by
      rcases ll with h | h
      · cases h; simp at hin
      · obtain ⟨-, -, q3, q4⟩ := (lkB_iff _ _).1 h
        simp only at q3 q4
        rcases q4 with q4 | q4
        · rw [q4.2] at hin; simp at hin
        · omega
    rw [lo, this]
  · cases hR
/-- The channel is there, but for a make. -/
theorem chan_had {m : Scn} {e : Ev} (hR : restCode m e = 0) (hk : e.k = 7 ∨ e.k = 8 ∨ e.k = 10) : isChan m.cs e.o = true := by
  unfold restCode at hR
  rw [if_neg (by omega), if_pos (by omega)] at hR
  unfold chanCode at hR
  cases q : isChan m.cs e.o
  · rw [q, if_pos (by simp; omega)] at hR
    cases hR
  · rfl
theorem chan_made {m : Scn} {e : Ev} (hR : restCode m e = 0) (hk : e.k = 6) : chanTo m e = ⟨e.o, e.s, 0, 0, false⟩ := by
  unfold restCode at hR
  rw [if_neg (by omega), if_pos (by omega)] at hR
  unfold chanCode at hR
  rcases chan_z m e.o with ⟨z1, z2, -⟩ | ⟨z1, z2⟩
  · unfold chanTo
    rw [if_pos hk, z2]
  · rw [z1, if_pos (by simp [hk])] at hR
    cases hR

set_option maxHeartbeats 1000000 in
theorem do_any {lo : Nat × Nat} {b b1 b2 b3 b4 n : Nat} {m : Scn} (e : Ev) (w : World) (h : BoardW lo w b b1 b2 b3 b4 n m) (hc : codeIn m e = 0) (hn : n < 4000000) :
    Calls Tryz.prog 99 #[.pointer (some ⟨b, 0, none⟩), .agg #[.int .i64 e.k, .int .i64 e.g, .int .i64 e.o, .int .i64 e.w, .int .i64 e.l, .int .i64 e.s, .int .i64 e.f, .int .i64 e.t]] w fun y w' => y = .returned (.tuple #[]) ∧ BoardW lo w' b b1 b2 b3 b4 (n + 1) (doS m e) ∧ ∃ x, On b b1 b2 b3 b4 x ∧ w.grownBy w' (some x) := by
  obtain ⟨hE, hm, hG, hR⟩ := code_parts hc
  obtain ⟨⟨k1, k2⟩, g1, g2⟩ := evOk_k hE
  have ho : I64 e.o := i64_small (by have := evOk_o hE; omega)
  have hg : I64 e.g := i64_small (by omega)
  have t2 := lockTo_2 hm hR
  have t3 := lockTo_3 hm hE hR
  have t4 := lockTo_4 hm hR
  have t5 := lockTo_5 hm hR
  have t6 := chan_made hR
  have th := chan_had hR
  have ta := evOk_add hE
  have hg16 := ((scB_iff m).1 hm).1.2
  clear hE hG hR hc
  unfold doS
  obtain ⟨k, gr, o, wi, l, sz, f, t⟩ := e
  simp only at *
  have hk : k = 1 ∨ k = 2 ∨ k = 3 ∨ k = 4 ∨ k = 5 ∨ k = 6 ∨ k = 7 ∨ k = 8 ∨ k = 10 ∨ k = 12 ∨ k = 13 ∨ k = 15 ∨ (k ≠ 1 ∧ k ≠ 2 ∧ k ≠ 3 ∧ k ≠ 4 ∧ k ≠ 5 ∧ k ≠ 6 ∧ k ≠ 7 ∧ k ≠ 8 ∧ k ≠ 10 ∧ k ≠ 12 ∧ k ≠ 13 ∧ k ≠ 15) := by omega
  rcases hk with rfl | rfl | rfl | rfl | rfl | rfl | rfl | rfl | rfl | rfl | rfl | rfl | hk
  · simpa using do_go gr o wi l sz f t w h hm hn (by omega)
  · rw [if_neg (by omega), if_pos (by omega), t2 rfl]
    exact do_lock gr o wi l sz f t w h hm hn ho (by omega)
  · rw [if_neg (by omega), if_pos (by omega), t3 rfl]
    exact do_unlock gr o wi l sz f t w h hm hn ho
  · rw [if_neg (by omega), if_pos (by omega), t4 rfl]
    exact do_rlock gr o wi l sz f t w h hm hn ho hg
  · rw [if_neg (by omega), if_pos (by omega), t5 rfl]
    exact do_runlock gr o wi l sz f t w h hm hn ho
  · rw [if_neg (by omega), if_neg (by omega), if_pos (by omega), t6 rfl]
    exact do_make gr o wi l sz f t w h hm hn ho
  · rw [if_neg (by omega), if_neg (by omega), if_pos (by omega)]
    exact do_send gr o wi l sz f t w h hm hn ho (th (by omega))
  · rw [if_neg (by omega), if_neg (by omega), if_pos (by omega)]
    exact do_recv gr o wi l sz f t w h hm hn ho (th (by omega))
  · rw [if_neg (by omega), if_neg (by omega), if_pos (by omega)]
    exact do_close gr o wi l sz f t w h hm hn ho (th (by omega))
  · rw [if_neg (by omega), if_neg (by omega), if_neg (by omega), if_pos rfl]
    exact do_add gr o wi l sz f t w h hm hn ho (ta rfl)
  · rw [if_neg (by omega), if_neg (by omega), if_neg (by omega), if_neg (by omega), if_pos rfl, Int.sub_eq_add_neg]
    exact do_done gr o wi l sz f t w h hm hn ho
  · rw [if_neg (by omega), if_neg (by omega), if_neg (by omega), if_neg (by omega), if_neg (by omega), if_pos rfl]
    exact do_once gr o wi l sz f t w h hm hn ho
  · rw [if_neg (by omega), if_neg (by omega), if_neg (by omega), if_neg (by omega), if_neg (by omega), if_neg (by omega)]
    exact do_none k gr o wi l sz f t w h hm hn hk
end Go.Proofs.YtikjodbboljhjaaGreatDoor
/-
  try: an event on a board; the codes without a condition on the event's numbers.
-/
namespace Go.Proofs.YtikjodbboljhjaaGreatDoor
open Go.RowKit

theorem codeM_all {B : Nat → Prop} {b b1 b2 b3 b4 n : Nat} {m : Scn} (e : Ev) (w : World) (h : BoardM B w b b1 b2 b3 b4 n m) (hm : scB m = true) (hs : Shapes w) :
    Calls Tryz.prog 47 #[.pointer (some ⟨b, 0, none⟩), .agg #[.int .i64 e.k, .int .i64 e.g, .int .i64 e.o, .int .i64 e.w, .int .i64 e.l, .int .i64 e.s, .int .i64 e.f, .int .i64 e.t]] w fun x w' => x = .returned (.int .i64 (codeIn m e)) ∧ Fr w w' := by
  cases hE : evOk e
  · have c := fun u (f : Fr w u) => implOk_any e u (hs.fr f)
    simp only [hE] at c
    have e1 : codeIn m e = codeC false false false false false false false false false false := by simp [codeIn, hE, codeC]
    rw [e1]
    exact codeFor_any b e w false false false false false false false false false false c (fun q => by cases q) (fun q => by cases q) (fun q => by cases q) (fun q => by cases q) (fun q => by cases q) (fun q => by cases q) (fun q => by cases q) (fun q => by cases q) (fun q => by cases q)
  · exact codeM_any e w h hm hs (i64_small (by have := evOk_o hE; omega))

set_option maxRecDepth 20000 in
set_option maxHeartbeats 1000000 in
theorem codeIn_all {B : Nat → Prop} (s : Sv) (m : Scn) (e : Ev) (w : World) (h : ScR B w s m) :
    Calls Tryz.prog 11 #[.agg #[.int .i64 s.g, .slice s.lo s.ll s.lc, .slice s.co s.cl s.cc, .slice s.no s.nl s.nc, .slice s.oo s.ol s.oc], .agg #[.int .i64 e.k, .int .i64 e.g, .int .i64 e.o, .int .i64 e.w, .int .i64 e.l, .int .i64 e.s, .int .i64 e.f, .int .i64 e.t]] w fun x w' => x = .returned (.int .i64 (codeIn m e)) ∧ Fr w w' := by
  cases hE : evOk e
  · have e1 : codeIn m e = 1 := by simp [codeIn, hE]
    rw [e1]
    obtain ⟨k1, k2, fW, hz⟩ := box2 w s e
    have cE := fun u => specOk_any e u
    simp only [hE] at cE
    clear hE e1 h
    obtain ⟨k, gr, o, wi, l, sz, f, t⟩ := e
    obtain ⟨sg, lo, ll, lc, co, cl, cc, no, nl, nc, oo, ol, oc⟩ := s
    simp only at k1 k2 fW hz cE ⊢
    go_enter Tryz.func11, Tryz.ntmps11
    go_wp2_with fail
    refine (cE _).mono ?_
    rintro x u1 ⟨rfl, f1⟩
    go_wp2_with fail
    go_ret
    exact ⟨rfl, fW.trans f1⟩
  · exact codeIn_any s m e w (i64_small (by have := evOk_o hE; omega)) h

/-- What an event leaves of a scene, be it done or not. -/
def stepS (m : Scn) (e : Ev) : Scn := if codeIn m e = 0 then doS m e else m
theorem step_ok {m : Scn} (hm : scB m = true) (e : Ev) : scB (stepS m e) = true := by
  unfold stepS
  split
  · rename_i h
    exact do_ok h
  · exact hm

set_option maxRecDepth 20000 in
set_option maxHeartbeats 1000000 in
theorem try_any {lo : Nat × Nat} {b b1 b2 b3 b4 n : Nat} {m : Scn} (e : Ev) (w : World) (h : BoardW lo w b b1 b2 b3 b4 n m) (hm : scB m = true) (hs : Shapes w) (hn : n < 4000000) :
    Calls Tryz.prog 40 #[.pointer (some ⟨b, 0, none⟩), .agg #[.int .i64 e.k, .int .i64 e.g, .int .i64 e.o, .int .i64 e.w, .int .i64 e.l, .int .i64 e.s, .int .i64 e.f, .int .i64 e.t]] w fun y w' => y = .returned (.int .i64 (codeIn m e)) ∧ BoardW lo w' b b1 b2 b3 b4 (n + 1) (stepS m e) ∧ ∃ x, On b b1 b2 b3 b4 x ∧ w.grownBy w' (some x) := by
  have fW := Fr.alloc w (.cells #[.int .i64 e.k, .int .i64 e.g, .int .i64 e.o, .int .i64 e.w, .int .i64 e.l, .int .i64 e.s, .int .i64 e.f, .int .i64 e.t] 31)
  have kE := EvAt.new w e 31
  have cC := fun u (f : Fr w u) => codeM_all e u (h.fr f).toM hm (hs.fr f)
  have cD := fun (hc : codeIn m e = 0) u (f : Fr w u) => do_any e u (h.fr f) hc hn
  have HB : Hid (BoardW lo w b b1 b2 b3 b4 n m) := h
  clear h hm hs hn
  have HS : Hid (codeIn m e = 0 → stepS m e = doS m e) := fun q => if_pos q
  have HT : Hid (¬ codeIn m e = 0 → stepS m e = m) := fun q => if_neg q
  obtain ⟨C, hC⟩ : ∃ C, C = codeIn m e := ⟨_, rfl⟩
  simp only [← hC] at cC cD HS HT
  obtain ⟨D, hD⟩ : ∃ D, D = doS m e := ⟨_, rfl⟩
  simp only [← hD] at cD HS
  obtain ⟨S, hS⟩ : ∃ D, D = stepS m e := ⟨_, rfl⟩
  simp only [← hS] at HS HT
  rw [← hC, ← hS]
  clear hC hD hS
  obtain ⟨k, gr, o, wi, l, sz, f, t⟩ := e
  simp only at fW kE cC cD ⊢
  go_enter Tryz.func40, Tryz.ntmps40
  go_wp2_with fail
  obtain ⟨W, hW⟩ : ∃ W, W = w.alloc (.cells #[.int .i64 k, .int .i64 gr, .int .i64 o, .int .i64 wi, .int .i64 l, .int .i64 sz, .int .i64 f, .int .i64 t] 31) := ⟨_, rfl⟩
  rw [← hW] at fW kE ⊢
  clear hW
  refine (cC _ fW).mono ?_
  rintro x u1 ⟨rfl, f1⟩
  clear cC
  have kE := kE.fr f1
  have F1 := fW.trans f1
  obtain ⟨c0, c1, c2, c3, c4, c5, c6, c7⟩ := kE
  simp only at c0 c1 c2 c3 c4 c5 c6 c7
  clear f1 fW
  by_cases hc : C = 0
  · have hcb : (C == 0) = true := by simpa using hc
    have cD := cD hc _ F1
    have HS := HS.out hc
    subst HS
    have HC : Hid (C = 0) := hc
    clear hc HT
    go_wp2_with fail
    refine cD.mono ?_
    rintro x u2 ⟨rfl, B2, y, o2, g2⟩
    clear cD
    go_wp2_with fail
    go_ret
    exact ⟨rfl, B2, y, o2, grown_trans F1.wide g2⟩
  · have hcb : (C == 0) = false := by simpa using hc
    have HT := HT.out hc
    subst HT
    clear hc HS cD
    go_wp2_with fail
    go_ret
    exact ⟨rfl, (HB.out.fr F1).mono (Nat.le_succ n), b, .inl rfl, F1.wide⟩
end Go.Proofs.YtikjodbboljhjaaGreatDoor
/-
  One object of a scene put in its place: a scene's own block; 'append' at counts, channels and locks; l4SetCount.
-/
namespace Go.Proofs.YtikjodbboljhjaaGreatDoor
open Go.RowKit

theorem Tryz.infoN : (Tryz.prog.info? 85).map (fun i => (i.zero, i.size, i.bytes)) = some (some (.agg #[.int .i64 0, .int .i64 0]), 2, 16) := by kernel_rfl
theorem Tryz.infoC : (Tryz.prog.info? 82).map (fun i => (i.zero, i.size, i.bytes)) = some (some (.agg #[.int .i64 0, .int .i64 0, .int .i64 0, .int .i64 0, .bool false]), 5, 40) := by kernel_rfl
theorem Tryz.infoL : (Tryz.prog.info? 47).map (fun i => (i.zero, i.size, i.bytes)) = some (some (.agg #[.int .i64 0, .int .i64 0, .slice none 0 0]), 3, 40) := by kernel_rfl

theorem newN (w : World) (c : Ct) (k : Nat) (hk : k < 2) : (w.alloc (.cells #[.int .i64 c.o, .int .i64 c.n] 85)).cell? ⟨w.heap.size, k, none⟩ = (layN.cs c)[k]? := by
  match k, hk with
  | 0, _ => simp [go_sem, layN]
  | 1, _ => simp [go_sem, layN]
theorem newC (w : World) (c : Ch) (k : Nat) (hk : k < 5) : (w.alloc (.cells #[.int .i64 c.o, .int .i64 c.cap, .int .i64 c.sent, .int .i64 c.got, .bool c.cl] 82)).cell? ⟨w.heap.size, k, none⟩ = (layC.cs c)[k]? := by
  match k, hk with
  | 0, _ => simp [go_sem, layC]
  | 1, _ => simp [go_sem, layC]
  | 2, _ => simp [go_sem, layC]
  | 3, _ => simp [go_sem, layC]
  | 4, _ => simp [go_sem, layC]
theorem newL (w : World) (c : Lv) (k : Nat) (hk : k < 3) : (w.alloc (.cells #[.int .i64 c.o, .int .i64 c.wr, .slice c.ro c.rn c.rc] 47)).cell? ⟨w.heap.size, k, none⟩ = (layL.cs c)[k]? := by
  match k, hk with
  | 0, _ => simp [go_sem, layL]
  | 1, _ => simp [go_sem, layL]
  | 2, _ => simp [go_sem, layL]

theorem appN (w : World) {ops : Array Oper} {rest : List Oper} {o : Oper} {a : Act} {Q : Exit → Act → World → Prop} (hgd : o.guard = none) (s x : Operand)
    (ho : o.op = .call { callee := .builtin .append, args := #[s, x], argTypes := #[26, 26] }) (base : Nat) (v : Value) (xs : List Ct) (e : Ct) (hs : a.eval s = v)
    (hown : OwnG layN w base v xs) (hx : a.eval x = .slice (some ⟨w.heap.size, 0, none⟩) 1 1) (hlen : xs.length ≤ 16777215) (hbase : base ≤ w.heap.size)
    (h : ∀ v' w', OwnG layN w' base v' (xs ++ [e]) → (w.alloc (.cells #[.int .i64 e.o, .int .i64 e.n] 85)).grownBy w' v.ownBlock → wpList Tryz.prog ops Q rest (a.put o.dst v') w') :
    wpList Tryz.prog ops Q (o :: rest) a (w.alloc (.cells #[.int .i64 e.o, .int .i64 e.n] 85)) :=
  appG layN _ hgd s x _ _ _ ho Tryz.underlying26 Tryz.infoN rfl (by decide) base v xs e hs (hown.fr (Fr.alloc _ _)) _ _ hx (newN w e) hlen (Nat.le_trans hbase (Fr.alloc w _).size) (fun v' w' a b _ => h v' w' a b)
theorem appC (w : World) {ops : Array Oper} {rest : List Oper} {o : Oper} {a : Act} {Q : Exit → Act → World → Prop} (hgd : o.guard = none) (s x : Operand)
    (ho : o.op = .call { callee := .builtin .append, args := #[s, x], argTypes := #[25, 25] }) (base : Nat) (v : Value) (xs : List Ch) (e : Ch) (hs : a.eval s = v)
    (hown : OwnG layC w base v xs) (hx : a.eval x = .slice (some ⟨w.heap.size, 0, none⟩) 1 1) (hlen : xs.length ≤ 16777215) (hbase : base ≤ w.heap.size)
    (h : ∀ v' w', OwnG layC w' base v' (xs ++ [e]) → (w.alloc (.cells #[.int .i64 e.o, .int .i64 e.cap, .int .i64 e.sent, .int .i64 e.got, .bool e.cl] 82)).grownBy w' v.ownBlock → wpList Tryz.prog ops Q rest (a.put o.dst v') w') :
    wpList Tryz.prog ops Q (o :: rest) a (w.alloc (.cells #[.int .i64 e.o, .int .i64 e.cap, .int .i64 e.sent, .int .i64 e.got, .bool e.cl] 82)) :=
  appG layC _ hgd s x _ _ _ ho Tryz.underlying25 Tryz.infoC rfl (by decide) base v xs e hs (hown.fr (Fr.alloc _ _)) _ _ hx (newC w e) hlen (Nat.le_trans hbase (Fr.alloc w _).size) (fun v' w' a b _ => h v' w' a b)
theorem appL (w : World) {ops : Array Oper} {rest : List Oper} {o : Oper} {a : Act} {Q : Exit → Act → World → Prop} (hgd : o.guard = none) (s x : Operand)
    (ho : o.op = .call { callee := .builtin .append, args := #[s, x], argTypes := #[24, 24] }) (base : Nat) (v : Value) (xs : List Lv) (e : Lv) (hs : a.eval s = v)
    (hown : OwnG layL w base v xs) (hx : a.eval x = .slice (some ⟨w.heap.size, 0, none⟩) 1 1) (hlen : xs.length ≤ 16777215) (hbase : base ≤ w.heap.size)
    (h : ∀ v' w', OwnG layL w' base v' (xs ++ [e]) → (w.alloc (.cells #[.int .i64 e.o, .int .i64 e.wr, .slice e.ro e.rn e.rc] 47)).grownBy w' v.ownBlock → wpList Tryz.prog ops Q rest (a.put o.dst v') w') :
    wpList Tryz.prog ops Q (o :: rest) a (w.alloc (.cells #[.int .i64 e.o, .int .i64 e.wr, .slice e.ro e.rn e.rc] 47)) :=
  appG layL _ hgd s x _ _ _ ho Tryz.underlying24 Tryz.infoL rfl (by decide) base v xs e hs (hown.fr (Fr.alloc _ _)) _ _ hx (newL w e) hlen (Nat.le_trans hbase (Fr.alloc w _).size) (fun v' w' a b _ => h v' w' a b)

theorem setL_mem {α : Type} (key : α → Int) (x : α) (put : Bool) (xs : List α) : ∀ y ∈ setL key x put xs, y ∈ xs ∨ y = x := by
  have hP : ∀ (ys : List α) (a : List α × Bool), (∀ y ∈ (ys.foldl (setS key x) a).1, y ∈ a.1 ∨ y ∈ ys ∨ y = x) := by
    intro ys
    induction ys with
    | nil => intro a y hy; exact .inl hy
    | cons z zs ih =>
      intro a y hy
      rcases ih _ y hy with h | h | h
      · unfold setS at h
        dsimp only at h
        split at h <;> split at h <;> grind
      · exact .inr (.inl (List.mem_cons_of_mem _ h))
      · exact .inr (.inr h)
  intro y hy
  unfold setL at hy
  split at hy
  · rcases hP xs _ y hy with h | h | h
    · simp at h
    · exact .inl h
    · exact .inr h
  · rcases List.mem_append.1 hy with hy | hy
    · rcases hP xs _ y hy with h | h | h
      · simp at h
      · exact .inl h
      · exact .inr h
    · exact .inr (by simpa using hy)
theorem setL_len {α : Type} (key : α → Int) (x : α) (put : Bool) (xs : List α) : (setL key x put xs).length ≤ 2 * xs.length + 1 := by
  have := setP_len key x put xs xs.length (Nat.le_refl _)
  rw [List.take_length] at this
  unfold setL
  split
  · omega
  · simp; omega
theorem setL_in {α : Type} {key : α → Int} {x : α} {put : Bool} {xs ys : List α} (h : setP key x put xs = (ys, true)) : setL key x put xs = ys := by
  unfold setL; rw [h]; rfl
theorem setL_end {α : Type} {key : α → Int} {x : α} {put : Bool} {xs ys : List α} (h : setP key x put xs = (ys, false)) : setL key x put xs = ys ++ [x] := by
  unfold setL; rw [h]; rfl

/-- A boxed scene, another boxed argument, the answer's cell. -/
theorem box3 (w : World) (s : Sv) (o : Obj) :
    ScK (((w.alloc (.cells #[.int .i64 s.g, .slice s.lo s.ll s.lc, .slice s.co s.cl s.cc, .slice s.no s.nl s.nc, .slice s.oo s.ol s.oc] 29)).alloc o).alloc (.cells #[.int .i64 0, .slice none 0 0, .slice none 0 0, .slice none 0 0, .slice none 0 0] 29)) w.heap.size s ∧
    ScK (((w.alloc (.cells #[.int .i64 s.g, .slice s.lo s.ll s.lc, .slice s.co s.cl s.cc, .slice s.no s.nl s.nc, .slice s.oo s.ol s.oc] 29)).alloc o).alloc (.cells #[.int .i64 0, .slice none 0 0, .slice none 0 0, .slice none 0 0, .slice none 0 0] 29)) (w.heap.size + 2) ⟨0, none, 0, 0, none, 0, 0, none, 0, 0, none, 0, 0⟩ ∧
    Fr w (((w.alloc (.cells #[.int .i64 s.g, .slice s.lo s.ll s.lc, .slice s.co s.cl s.cc, .slice s.no s.nl s.nc, .slice s.oo s.ol s.oc] 29)).alloc o).alloc (.cells #[.int .i64 0, .slice none 0 0, .slice none 0 0, .slice none 0 0, .slice none 0 0] 29)) ∧
    (((w.alloc (.cells #[.int .i64 s.g, .slice s.lo s.ll s.lc, .slice s.co s.cl s.cc, .slice s.no s.nl s.nc, .slice s.oo s.ol s.oc] 29)).alloc o).alloc (.cells #[.int .i64 0, .slice none 0 0, .slice none 0 0, .slice none 0 0, .slice none 0 0] 29)).heap.size = w.heap.size + 3 ∧
    Fr ((w.alloc (.cells #[.int .i64 s.g, .slice s.lo s.ll s.lc, .slice s.co s.cl s.cc, .slice s.no s.nl s.nc, .slice s.oo s.ol s.oc] 29)).alloc o) (((w.alloc (.cells #[.int .i64 s.g, .slice s.lo s.ll s.lc, .slice s.co s.cl s.cc, .slice s.no s.nl s.nc, .slice s.oo s.ol s.oc] 29)).alloc o).alloc (.cells #[.int .i64 0, .slice none 0 0, .slice none 0 0, .slice none 0 0, .slice none 0 0] 29)) := by
  have f1 := Fr.alloc w (.cells #[.int .i64 s.g, .slice s.lo s.ll s.lc, .slice s.co s.cl s.cc, .slice s.no s.nl s.nc, .slice s.oo s.ol s.oc] 29)
  have f2 := Fr.alloc (w.alloc (.cells #[.int .i64 s.g, .slice s.lo s.ll s.lc, .slice s.co s.cl s.cc, .slice s.no s.nl s.nc, .slice s.oo s.ol s.oc] 29)) o
  have f3 := Fr.alloc ((w.alloc (.cells #[.int .i64 s.g, .slice s.lo s.ll s.lc, .slice s.co s.cl s.cc, .slice s.no s.nl s.nc, .slice s.oo s.ol s.oc] 29)).alloc o) (.cells #[.int .i64 0, .slice none 0 0, .slice none 0 0, .slice none 0 0, .slice none 0 0] 29)
  refine ⟨(ScK.new w s).fr (f2.trans f3), ?_, (f1.trans f2).trans f3, by simp, f3⟩
  have := ScK.new ((w.alloc (.cells #[.int .i64 s.g, .slice s.lo s.ll s.lc, .slice s.co s.cl s.cc, .slice s.no s.nl s.nc, .slice s.oo s.ol s.oc] 29)).alloc o) ⟨0, none, 0, 0, none, 0, 0, none, 0, 0, none, 0, 0⟩
  simpa using this

/-- The end of a setting: a field of the boxed scene is written, then the answer's cell. -/
theorem set_fin {α : Type} {L : Lay α} {w W w4 : World} {b0 rb i : Nat} {v x v0 v1 v2 v3 v4 : Value} {xs : List α} (fW : Fr w W) (f4 : Fr W w4) (hb : w.heap.size ≤ b0) (hr : w.heap.size ≤ rb) (hb2 : b0 < W.heap.size) (hr2 : rb < W.heap.size) (ho : OwnG L w4 W.heap.size v xs) :
    Fr w ((((((w4.setCell ⟨b0, i, none⟩ x).setCell ⟨rb, 0, none⟩ v0).setCell ⟨rb, 1, none⟩ v1).setCell ⟨rb, 2, none⟩ v2).setCell ⟨rb, 3, none⟩ v3).setCell ⟨rb, 4, none⟩ v4) ∧
    OwnG L ((((((w4.setCell ⟨b0, i, none⟩ x).setCell ⟨rb, 0, none⟩ v0).setCell ⟨rb, 1, none⟩ v1).setCell ⟨rb, 2, none⟩ v2).setCell ⟨rb, 3, none⟩ v3).setCell ⟨rb, 4, none⟩ v4) W.heap.size v xs := by
  have k1 := grown_set w4 b0 i x
  have k2 := put5 (w4.setCell ⟨b0, i, none⟩ x) rb v0 v1 v2 v3 v4
  have hk := ho.blk
  refine ⟨((fW.trans f4).then k1 (one_blk hb)).then k2 (one_blk hr), (ho.keep k1 ?_).keep k2 ?_⟩
  · intro e; have := hk _ e; omega
  · intro e; have := hk _ e; omega
theorem OwnG.at {α : Type} {L : Lay α} {w : World} {base g n cap : Nat} {xs : List α} (h : OwnG L w base (.slice (some ⟨g, 0, none⟩) n cap) xs) : ReadsG L w (some ⟨g, 0, none⟩) xs ∧ n = xs.length ∧ base ≤ g := by
  have hk := h.blk g rfl
  obtain ⟨g', cap', e, ho, hl⟩ := h
  simp at e
  obtain ⟨rfl, rfl, rfl⟩ := e
  exact ⟨own_readsG ho hl, rfl, hk⟩

/-- A scene with other counts, other channels, other locks. -/
theorem ScR.counts {B : Nat → Prop} {w w' : World} {s : Sv} {m : Scn} {o n : Int} {c g l : Nat} (h : ScR B w s m) (f : Fr w w') (hB : B g) (ho : I64 o) (hn : I64 n) (hl : m.gs.length ≤ 1000)
    (hr : ReadsG layN w' (some ⟨g, 0, none⟩) (setCt m o n).gs) (hlen : l = (setCt m o n).gs.length) : ScR B w' { s with no := some ⟨g, 0, none⟩, nl := l, nc := c } (setCt m o n) := by
  have h' := h.fr f
  have h2 := setL_len Ct.o ⟨o, n⟩ (n == 0) m.gs
  have h3 := setL_mem Ct.o ⟨o, n⟩ (n == 0) m.gs
  refine { h' with cts := hr, nl := hlen, bn := ?_, sn := ?_, inn := ?_ }
  · intro b hb
    simp only [blk, Option.map_some, Option.some.injEq] at hb
    subst hb
    exact hB
  · show (setL Ct.o ⟨o, n⟩ (n == 0) m.gs).length ≤ 1048576
    omega
  · intro y hy
    rcases h3 y hy with hy | rfl
    · exact h.inn y hy
    · exact ⟨ho, hn⟩
end Go.Proofs.YtikjodbboljhjaaGreatDoor
