/-
  useChan and addCount on a board.
-/
import Derived.Test.YtikjodbboljhjaaGreatDoorScBw
import Derived.Deep.RegionHeld3
namespace Go.Proofs.YtikjodbboljhjaaGreatDoor
open Go.RowKit

theorem field_n (a c : Int) (u : World) : Sem.run Tryz.prog (Instr.field 85 (.agg #[.int .i64 a, .int .i64 c]) 1) u = .ok (.int .i64 c) u := by
  have hu := run_underlying (w := u) Tryz.underlying85
  simp [Instr.field, asAgg, hu, go_sem]

theorem wp_del {w : World} {ops : Array Oper} {rest : List Oper} {o : Oper} {a : Act} {Q : Exit → Act → World → Prop} (hg : o.guard = none) (m x : Operand) (t : TypeId) (hop : o.op = .call { callee := .builtin .delete, args := #[m, x], argTypes := #[t, 2] })
    {e : TypeId} (ht : Tryz.prog.underlying t = some (.map 2 e)) (b n : Nat) (f : Int → Option Value) (i : Int) (hm : a.eval m = .map (some b)) (hx : a.eval x = .int .i64 i) (h : MapF w b n f) (hi : I64 i)
    (hK : ∀ w', MapF w' b n (delF f i) → w.grownBy w' (some b) → wpList Tryz.prog ops Q rest (a.put o.dst (.tuple #[])) w') : wpList Tryz.prog ops Q (o :: rest) a w := by
  refine wpList_plain hg fun K' hK' => ?_
  obtain ⟨w', hrun, r1, r2⟩ := h.del ht hi o.type
  unfold Oper.wp
  simp [execOp, hop, resolve, invoke, builtin, hm, hx, hrun, Result.andThen]
  exact hK' _ _ (hK w' r1 r2)

set_option maxRecDepth 20000 in
set_option maxHeartbeats 1000000 in
theorem addCount_any {lo : Nat × Nat} {b b1 b2 b3 b4 n : Nat} {m : Scn} (o x : Int) (w : World) (h : BoardW lo w b b1 b2 b3 b4 n m) (hm : scB m = true) (hn : n < 4000000) (ho : I64 o) (hx : -1 ≤ x ∧ x ≤ 1000) :
    Calls Tryz.prog 151 #[.pointer (some ⟨b, 0, none⟩), .int .i64 o, .int .i64 x] w fun y w' => y = .returned (.tuple #[]) ∧ BoardW lo w' b b1 b2 b3 b4 (n + 1) (setCt m o (countOf m.gs o + x)) ∧ w.grownBy w' (some b3) := by
  have hL := h.toM.lookN ho w (Fr.refl w)
  have hc := count_in hm o
  rw [(count_z hm o).1] at hc ⊢
  have c3 := h.toM.c3
  have M := h.m3
  have HD : Hid (∀ w' x n' f', n ≤ n' → w.grownBy w' (some b3) → MapF w' b3 n' f' → (f' = if x = 0 then delF (fun o => (m.gs.find? fun c => c.o == o).map valN) o else putM (fun o => (m.gs.find? fun c => c.o == o).map valN) o (valN ⟨o, x⟩)) → BoardW lo w' b b1 b2 b3 b4 n' (setCt m o x)) := fun w' x n' f' q1 q2 q3 q4 => h.setN hm q1 q2 q3 q4
  clear h hm
  obtain ⟨F, hF⟩ : ∃ F, F = fun o => (m.gs.find? fun c => c.o == o).map valN := ⟨_, rfl⟩
  rw [← hF] at M HD
  clear hF
  obtain ⟨C, hC⟩ : ∃ C, C = countZ m o := ⟨_, rfl⟩
  rw [← hC] at hL hc ⊢
  clear hC
  obtain ⟨co, cn⟩ := C
  simp only at hL hc ⊢
  have hf := fun u => field_n co cn u
  have hw : IntKind.i64.wrap (cn + x) = cn + x := by rw [IntKind.wrap_i64]; omega
  by_cases hs : cn + x = 0
  · have hb : (cn + x == 0) = true := by simp; omega
    have HS : Hid (cn + x = 0) := hs
    clear hs
    go_enter Tryz.func151, Tryz.ntmps151
    go_wp2_with (at_delete; refine wp_del rfl _ _ _ rfl Tryz.underlying131 b3 n F o rfl rfl M ho ?_; intro w1 M1 g1)
    first | refine bodyPost_ret (results_none rfl _ _ _) rfl ?_ | go_end0
    exact ⟨rfl, HD.out w1 (cn + x) (n + 1) _ (by omega) g1 (M1.mono (by omega)) (by rw [if_pos HS.out]), g1⟩
  · have hb : (cn + x == 0) = false := by simp; omega
    have HS : Hid (¬ cn + x = 0) := hs
    clear hs
    go_enter Tryz.func151, Tryz.ntmps151
    go_wp2_with (at_mapUpdate; refine wp_put rfl _ _ _ _ rfl Tryz.underlying131 b3 n F o (.agg #[.int .i64 o, .int .i64 (cn + x)]) rfl rfl rfl M (by unfold maxLen; omega) ho ?_; intro w1 M1 g1)
    first | refine bodyPost_ret (results_none rfl _ _ _) rfl ?_ | go_end0
    exact ⟨rfl, HD.out w1 (cn + x) (n + 1) _ (by omega) g1 M1 (by rw [if_neg HS.out]; rfl), g1⟩

set_option maxRecDepth 20000 in
set_option maxHeartbeats 1000000 in
theorem useChan_any {lo : Nat × Nat} {b b1 b2 b3 b4 n : Nat} {m : Scn} (e : Ev) (w : World) (hk : e.k = 7 ∨ e.k = 8 ∨ e.k = 10) (h : BoardW lo w b b1 b2 b3 b4 n m) (hm : scB m = true) (hn : n < 4000000) (ho : I64 e.o) (hi : isChan m.cs e.o = true) :
    Calls Tryz.prog 150 #[.pointer (some ⟨b, 0, none⟩), .int .i64 e.o, .int .i64 e.k] w fun y w' => y = .returned (.tuple #[]) ∧ BoardW lo w' b b1 b2 b3 b4 (n + 1) (setCh m (chanTo m e)) ∧ w.grownBy w' (some b2) := by
  have hL := h.toM.lookC ho w (Fr.refl w)
  have hc := chanZ_in hm e.o
  have hco := chan_o m.cs e.o
  unfold chanTo
  rcases chan_z m e.o with ⟨z1, z2, -⟩ | ⟨z1, z2⟩
  · rw [hi] at z1; cases z1
  rw [z2] at hco ⊢
  have c2 := h.toM.c2
  have hbl := h.blt
  have hlt := h.lt
  have HD : Hid (∀ W w' c n', Fr w W → n ≤ n' → W.grownBy w' (some b2) → MapF w' b2 n' (putM (fun o => (m.cs.find? fun c => c.o == o).map valC) c.o (valC c)) → BoardW lo w' b b1 b2 b3 b4 n' (setCh m c)) := fun W w' c n' f q1 q2 q3 => (h.fr f).setC hm q1 q2 q3
  have M := h.m2
  clear h hm hi
  obtain ⟨F, hF⟩ : ∃ F, F = fun o => (m.cs.find? fun c => c.o == o).map valC := ⟨_, rfl⟩
  rw [← hF] at M HD
  clear hF z1 z2
  obtain ⟨C, hC⟩ : ∃ C, C = chanZ m e.o := ⟨_, rfl⟩
  rw [← hC] at hL hc hco ⊢
  clear hC
  obtain ⟨k, gr, o, wi, l, sz, f, t⟩ := e
  obtain ⟨co, cap, sent, got, cl⟩ := C
  simp only at hL hc hco hk ho ⊢
  subst hco
  rcases hk with rfl | rfl | rfl
  · have hw : IntKind.i64.wrap (sent + 1) = sent + 1 := by rw [IntKind.wrap_i64]; omega
    have fW := Fr.alloc w (.cells #[.int .i64 co, .int .i64 cap, .int .i64 (sent + 1), .int .i64 got, .bool cl] 82)
    have kC := ChK.new w ⟨co, cap, (sent + 1), got, cl⟩
    simp only at kC
    go_enter Tryz.func150, Tryz.ntmps150
    go_wp2_with fail
    obtain ⟨W, hW⟩ : ∃ W, W = w.alloc (.cells #[.int .i64 co, .int .i64 cap, .int .i64 (sent + 1), .int .i64 got, .bool cl] 82) := ⟨_, rfl⟩
    rw [← hW] at fW kC ⊢
    clear hW
    have hne : ¬ (some w.heap.size = some b2) := fun q => by simp only [Option.some.injEq] at q; omega
    have hne2 : ¬ (some b = some b2) := fun q => by simp only [Option.some.injEq] at q; omega
    obtain ⟨C, hC⟩ : ∃ C, C = w.heap.size := ⟨_, rfl⟩
    rw [← hC] at kC hne ⊢
    clear hC hL
    have c2 := fW.cell c2
    obtain ⟨w1, hrun, M1, g1⟩ := ((M.fr fW).fr (Fr.drew W)).put Tryz.underlying128 (by unfold maxLen; omega) ho (.agg #[.int .i64 co, .int .i64 cap, .int .i64 (sent + 1), .int .i64 got, .bool cl])
    have gW : W.grownBy w1 (some b2) := grown_trans (grown_draw W 1 _) g1
    obtain ⟨y0, y1, y2, y3, y4⟩ := kC.at
    obtain ⟨z0, z1, z2, z3, z4⟩ := (kC.keep gW (fun q => hne q.symm)).at
    have x2 := gW.cell c2 hne2
    simp only at y0 y1 y2 y3 y4 z0 z1 z2 z3 z4
    clear M kC
    go_region_held3 (fun u => u.cell? ⟨b, 2, none⟩ = some (.map (some b2)) ∧ u.cell? ⟨C, 0, none⟩ = some (.int .i64 co) ∧ u.cell? ⟨C, 1, none⟩ = some (.int .i64 cap) ∧ u.cell? ⟨C, 2, none⟩ = some (.int .i64 (sent + 1)) ∧ u.cell? ⟨C, 3, none⟩ = some (.int .i64 got) ∧ u.cell? ⟨C, 4, none⟩ = some (.bool cl)) (go_keep) (fail)
    first | refine bodyPost_ret (results_none rfl _ _ _) rfl ?_ | go_end0
    exact ⟨rfl, HD.out W w1 ⟨co, cap, (sent + 1), got, cl⟩ (n + 1) fW (by omega) gW M1, grown_trans fW.wide gW⟩
  · have hw : IntKind.i64.wrap (got + 1) = got + 1 := by rw [IntKind.wrap_i64]; omega
    have fW := Fr.alloc w (.cells #[.int .i64 co, .int .i64 cap, .int .i64 sent, .int .i64 (got + 1), .bool cl] 82)
    have kC := ChK.new w ⟨co, cap, sent, (got + 1), cl⟩
    simp only at kC
    go_enter Tryz.func150, Tryz.ntmps150
    go_wp2_with fail
    obtain ⟨W, hW⟩ : ∃ W, W = w.alloc (.cells #[.int .i64 co, .int .i64 cap, .int .i64 sent, .int .i64 (got + 1), .bool cl] 82) := ⟨_, rfl⟩
    rw [← hW] at fW kC ⊢
    clear hW
    have hne : ¬ (some w.heap.size = some b2) := fun q => by simp only [Option.some.injEq] at q; omega
    have hne2 : ¬ (some b = some b2) := fun q => by simp only [Option.some.injEq] at q; omega
    obtain ⟨C, hC⟩ : ∃ C, C = w.heap.size := ⟨_, rfl⟩
    rw [← hC] at kC hne ⊢
    clear hC hL
    have c2 := fW.cell c2
    obtain ⟨w1, hrun, M1, g1⟩ := ((M.fr fW).fr (Fr.drew W)).put Tryz.underlying128 (by unfold maxLen; omega) ho (.agg #[.int .i64 co, .int .i64 cap, .int .i64 sent, .int .i64 (got + 1), .bool cl])
    have gW : W.grownBy w1 (some b2) := grown_trans (grown_draw W 1 _) g1
    obtain ⟨y0, y1, y2, y3, y4⟩ := kC.at
    obtain ⟨z0, z1, z2, z3, z4⟩ := (kC.keep gW (fun q => hne q.symm)).at
    have x2 := gW.cell c2 hne2
    simp only at y0 y1 y2 y3 y4 z0 z1 z2 z3 z4
    clear M kC
    go_region_held3 (fun u => u.cell? ⟨b, 2, none⟩ = some (.map (some b2)) ∧ u.cell? ⟨C, 0, none⟩ = some (.int .i64 co) ∧ u.cell? ⟨C, 1, none⟩ = some (.int .i64 cap) ∧ u.cell? ⟨C, 2, none⟩ = some (.int .i64 sent) ∧ u.cell? ⟨C, 3, none⟩ = some (.int .i64 (got + 1)) ∧ u.cell? ⟨C, 4, none⟩ = some (.bool cl)) (go_keep) (fail)
    first | refine bodyPost_ret (results_none rfl _ _ _) rfl ?_ | go_end0
    exact ⟨rfl, HD.out W w1 ⟨co, cap, sent, (got + 1), cl⟩ (n + 1) fW (by omega) gW M1, grown_trans fW.wide gW⟩
  · have fW := Fr.alloc w (.cells #[.int .i64 co, .int .i64 cap, .int .i64 sent, .int .i64 got, .bool true] 82)
    have kC := ChK.new w ⟨co, cap, sent, got, true⟩
    simp only at kC
    go_enter Tryz.func150, Tryz.ntmps150
    go_wp2_with fail
    obtain ⟨W, hW⟩ : ∃ W, W = w.alloc (.cells #[.int .i64 co, .int .i64 cap, .int .i64 sent, .int .i64 got, .bool true] 82) := ⟨_, rfl⟩
    rw [← hW] at fW kC ⊢
    clear hW
    have hne : ¬ (some w.heap.size = some b2) := fun q => by simp only [Option.some.injEq] at q; omega
    have hne2 : ¬ (some b = some b2) := fun q => by simp only [Option.some.injEq] at q; omega
    obtain ⟨C, hC⟩ : ∃ C, C = w.heap.size := ⟨_, rfl⟩
    rw [← hC] at kC hne ⊢
    clear hC hL
    have c2 := fW.cell c2
    obtain ⟨w1, hrun, M1, g1⟩ := ((M.fr fW).fr (Fr.drew W)).put Tryz.underlying128 (by unfold maxLen; omega) ho (.agg #[.int .i64 co, .int .i64 cap, .int .i64 sent, .int .i64 got, .bool true])
    have gW : W.grownBy w1 (some b2) := grown_trans (grown_draw W 1 _) g1
    obtain ⟨y0, y1, y2, y3, y4⟩ := kC.at
    obtain ⟨z0, z1, z2, z3, z4⟩ := (kC.keep gW (fun q => hne q.symm)).at
    have x2 := gW.cell c2 hne2
    simp only at y0 y1 y2 y3 y4 z0 z1 z2 z3 z4
    clear M kC
    go_region_held3 (fun u => u.cell? ⟨b, 2, none⟩ = some (.map (some b2)) ∧ u.cell? ⟨C, 0, none⟩ = some (.int .i64 co) ∧ u.cell? ⟨C, 1, none⟩ = some (.int .i64 cap) ∧ u.cell? ⟨C, 2, none⟩ = some (.int .i64 sent) ∧ u.cell? ⟨C, 3, none⟩ = some (.int .i64 got) ∧ u.cell? ⟨C, 4, none⟩ = some (.bool true)) (go_keep) (fail)
    first | refine bodyPost_ret (results_none rfl _ _ _) rfl ?_ | go_end0
    exact ⟨rfl, HD.out W w1 ⟨co, cap, sent, got, true⟩ (n + 1) fW (by omega) gW M1, grown_trans fW.wide gW⟩
end Go.Proofs.YtikjodbboljhjaaGreatDoor
