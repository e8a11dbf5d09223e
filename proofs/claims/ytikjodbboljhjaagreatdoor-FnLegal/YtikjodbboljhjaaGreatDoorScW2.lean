/-
  addReader and dropReader on a board.
-/
import Derived.Test.YtikjodbboljhjaaGreatDoorScW1
import Derived.Test.YtikjodbboljhjaaGreatDoorScSort
namespace Go.Proofs.YtikjodbboljhjaaGreatDoor
open Go.RowKit

theorem field_rd (a b : Int) (ro : Option Addr) (rn rc : Nat) (u : World) : Sem.run Tryz.prog (Instr.field 47 (.agg #[.int .i64 a, .int .i64 b, .slice ro rn rc]) 2) u = .ok (.slice ro rn rc) u := by
  have hu := run_underlying (w := u) Tryz.underlying47
  simp [Instr.field, asAgg, hu, go_sem]

/-- Sorted with one more is 'with it'. -/
theorem sort_with (xs : List Int) (x : Int) (h : xs.Pairwise (· < ·)) : (([x] ++ xs).mergeSort fun a b => decide (a ≤ b)) = withL xs x := by
  have hw : (withL xs x).Pairwise (fun a b => (decide (a ≤ b)) = true) := by
    rw [withL_eq xs x h, List.append_assoc, List.pairwise_append]
    have h' : xs.Pairwise (fun a b => (decide (a ≤ b)) = true) := h.imp fun q => by simpa using Int.le_of_lt q
    refine ⟨h'.sublist List.filter_sublist, ?_, fun a ha b hb => ?_⟩
    · rw [List.singleton_append, List.pairwise_cons]
      exact ⟨fun b hb => by have := (List.mem_filter.1 hb).2; simp at this ⊢; omega, h'.sublist List.filter_sublist⟩
    · have ha2 := (List.mem_filter.1 ha).2
      simp only [decide_eq_true_eq] at ha2
      rcases List.mem_append.1 hb with hb | hb
      · rw [List.mem_singleton.1 hb]; simpa using ha2
      · have hb := (List.mem_filter.1 hb).2
        simp at hb ⊢
        omega
  refine List.Perm.eq_of_pairwise (le := fun a b => (decide (a ≤ b)) = true) (fun a b _ _ h1 h2 => by simp at h1 h2; omega) (List.pairwise_mergeSort (fun a b c h1 h2 => by simp at h1 h2 ⊢; omega) (fun a b => by simp; omega) _) hw ?_
  refine (List.mergeSort_perm _ _).trans ?_
  rw [withL_eq xs x h, List.append_assoc, List.singleton_append]
  have e1 : xs.filter (fun y => decide (x < y)) = xs.filter (fun y => !decide (y ≤ x)) := List.filter_congr fun y _ => by
    by_cases q : y ≤ x
    · have : ¬ x < y := by omega
      simp [q, this]
    · have : x < y := by omega
      simp [q, this]
  rw [e1]
  exact ((List.filter_append_perm (fun y => decide (y ≤ x)) xs).symm.cons x).trans List.perm_middle.symm
/-- Rising numbers of a range are no more than it has. -/
theorem rise_len : ∀ (xs : List Int) (lo hi : Int), xs.Pairwise (· < ·) → (∀ x ∈ xs, lo ≤ x ∧ x ≤ hi) → lo ≤ hi + 1 → (xs.length : Int) ≤ hi - lo + 1
  | [], lo, hi, _, _, h => by simp; omega
  | x :: xs, lo, hi, h, hb, hl => by
    rw [List.pairwise_cons] at h
    obtain ⟨q1, q2⟩ := hb x (List.mem_cons_self ..)
    have := rise_len xs (x + 1) hi h.2 (fun y hy => by have := h.1 y hy; have := (hb y (List.mem_cons_of_mem _ hy)).2; omega) (by omega)
    rw [List.length_cons]
    omega
theorem lockZ_rd {m : Scn} (h : scB m = true) (o : Int) : (lockZ m o).rd.Pairwise (· < ·) ∧ (∀ x ∈ (lockZ m o).rd, 0 ≤ x ∧ x ≤ 15) ∧ (lockZ m o).rd.length ≤ 16 := by
  have hs := (scB_iff m).1 h
  have q : (lockZ m o).rd.Pairwise (· < ·) ∧ (∀ x ∈ (lockZ m o).rd, 0 ≤ x ∧ x ≤ 15) := by
    unfold lockZ
    cases hf : m.ls.find? fun l => l.o == o with
    | none => simp
    | some l =>
      obtain ⟨⟨q1, q2⟩, -⟩ := (lkB_iff _ _).1 (hs.2.1.1 l (List.mem_of_find?_eq_some hf))
      exact ⟨q2, fun x hx => by have := q1 x hx; omega⟩
  refine ⟨q.1, q.2, ?_⟩
  have := rise_len _ 0 15 q.1 q.2 (by omega)
  omega

/-- A lock put into its map. -/
theorem BoardW.putLk {w W w' : World} {lo : Nat × Nat} {b b1 b2 b3 b4 n : Nat} {m : Scn} {o wr : Int} {g rc : Nat} {rd : List Int} {F : Int → Option Value} (h : BoardW lo w b b1 b2 b3 b4 n m) (hm : scB m = true) (f : Fr w W) (hF : ∀ o, LkAt (Off lo) w (F o) (m.ls.find? fun l => l.o == o))
    (k : W.grownBy w' (some b1)) (M : MapF w' b1 (n + 1) (putM F o (.agg #[.int .i64 o, .int .i64 wr, .slice (some ⟨g, 0, none⟩) rd.length rc]))) (R : Reads W (some ⟨g, 0, none⟩) rd) (hg : w.heap.size ≤ g) (hl : rd.length ≤ 1048576) (ho : I64 o) (hw : I64 wr) (hfree : lkFree ⟨o, wr, rd⟩ = false) :
    BoardW lo w' b b1 b2 b3 b4 (n + 1) (setLk m ⟨o, wr, rd⟩) := by
  have hb := h.blt
  have hlt := h.lt
  refine (h.fr f).setL hm (Nat.le_succ n) k M fun fl _ _ o' => ?_
  unfold putM
  have e1 : g ≠ b1 := by omega
  split
  · rename_i e
    rw [hfree]
    refine .inr ⟨⟨o, wr, rd⟩, ⟨o, wr, some ⟨g, 0, none⟩, rd.length, rc⟩, by simp, rfl, ⟨rfl, rfl, rfl, R.keep k (.inr (by simp [blk]; omega)), fun b' hb' => ?_, fun q => by simp at q, hl, ho, hw⟩⟩
    simp only [blk, Option.map_some, Option.some.injEq] at hb'
    unfold Off
    have := h.ge.2.2
    omega
  · exact ((hF o').keep f (by simp)).keep k (off_lt h.lt h.ge (.inr (.inl rfl)))
/-- A lock struck from its map. -/
theorem BoardW.delLk {w W w' : World} {lo : Nat × Nat} {b b1 b2 b3 b4 n : Nat} {m : Scn} {l : Lk} {F : Int → Option Value} (h : BoardW lo w b b1 b2 b3 b4 n m) (hm : scB m = true) (f : Fr w W) (hF : ∀ o, LkAt (Off lo) w (F o) (m.ls.find? fun l => l.o == o))
    (k : W.grownBy w' (some b1)) (M : MapF w' b1 n (delF F l.o)) (hfree : lkFree l = true) : BoardW lo w' b b1 b2 b3 b4 (n + 1) (setLk m l) := by
  refine (h.fr f).setL hm (Nat.le_succ n) k (M.mono (Nat.le_succ n)) fun fl _ _ o' => ?_
  unfold delF
  split
  · exact .inl ⟨by simp, rfl⟩
  · exact ((hF o').keep f (by simp)).keep k (off_lt h.lt h.ge (.inr (.inl rfl)))

set_option maxRecDepth 20000 in
set_option maxHeartbeats 1000000 in
theorem addReader_any {lo : Nat × Nat} {b b1 b2 b3 b4 n : Nat} {m : Scn} (o g : Int) (w : World) (h : BoardW lo w b b1 b2 b3 b4 n m) (hm : scB m = true) (hn : n < 4000000) (ho : I64 o) (hg : I64 g) :
    Calls Tryz.prog 148 #[.pointer (some ⟨b, 0, none⟩), .int .i64 o, .int .i64 g] w fun y w' => y = .returned (.tuple #[]) ∧ BoardW lo w' b b1 b2 b3 b4 (n + 1) (setLk m ⟨o, -1, withL (lockZ m o).rd g⟩) ∧ w.grownBy w' (some b1) := by
  obtain ⟨lq, ro, rn, rc, l1, l2, l3, ⟨l4, l5⟩, -, hL⟩ := h.toM.lookL ho
  obtain ⟨r1, r2, r3⟩ := lockZ_rd hm o
  have HS : Hid (([g] ++ (lockZ m o).rd).mergeSort (fun a b => decide (a ≤ b)) = withL (lockZ m o).rd g) := sort_with _ _ r1
  have HL : Hid ((withL (lockZ m o).rd g).length ≤ 1000 ∧ lkFree ⟨o, -1, withL (lockZ m o).rd g⟩ = false) := by
    have e1 : (withL (lockZ m o).rd g).length = (lockZ m o).rd.length + 1 := by
      rw [← HS.out, List.length_mergeSort]; simp
    refine ⟨by omega, ?_⟩
    simp [lkFree]
    intro q
    rw [q] at e1
    simp at e1
  have c1 := h.toM.c1
  have hbl := h.blt
  have hlt := h.lt
  have HB : Hid (BoardW lo w b b1 b2 b3 b4 n m ∧ scB m = true) := ⟨h, hm⟩
  obtain ⟨F, M, hF⟩ := h.m1
  have HF : Hid (∀ o, LkAt (Off lo) w (F o) (m.ls.find? fun l => l.o == o)) := hF
  clear h hm hF r1 r2 l4
  obtain ⟨wr, hwr⟩ : ∃ L, L = (lockZ m o).wr := ⟨_, rfl⟩
  obtain ⟨rd, hrd⟩ : ∃ L, L = (lockZ m o).rd := ⟨_, rfl⟩
  simp only [← hwr] at hL
  rw [← hrd] at HS HL l1 l3 r3 ⊢
  clear hwr hrd
  have hf := fun u => field_rd lq wr ro rn rc u
  have fW := Fr.alloc w (.cells #[.int .i64 g] 2)
  have c1' := fW.cell c1
  have hLW := hL _ fW
  have v0 : OwnS (w.alloc (.cells #[.int .i64 g] 2)) w.heap.size (.slice (some ⟨w.heap.size, 0, none⟩) 1 1) [g] :=
    ⟨w.heap.size, 1, rfl, ⟨by simp, .inr ⟨w.heap.size, 1, #[.int .i64 g], rfl, Nat.le_refl _, heap_alloc_new w _, by simp, by unfold maxLen; omega, by simp, by simp⟩⟩, by simp, by simpa using hg⟩
  have l3 := l3.fr fW
  go_enter Tryz.func148, Tryz.ntmps148
  go_wp2_with (at_builtin; refine appI _ rfl _ _ rfl w.heap.size _ _ rd rfl v0 ro rn rc rfl l1 l5 l3 (by simp; omega) (by simp) ?_; intro v1 w2 hv1 hg1)
  have f2 : Fr w w2 := fW.then hg1 v0.blk
  clear hg1 v0 hLW c1' fW l3
  have hblk := hv1.blk
  refine (sort_any v1 ([g] ++ rd) w.heap.size w2 hv1).mono ?_
  rintro x w3 ⟨rfl, hv3, hg3⟩
  rw [HS.out] at hv3
  have f3 : Fr w w3 := f2.then hg3 hblk
  clear hg3 hblk hv1 f2
  have hb3 := hv3.blk
  obtain ⟨g3, cap3, rfl, ho3⟩ := hv3
  have hb3 := hb3 g3 rfl
  obtain ⟨zs, hzs⟩ : ∃ zs, zs = withL rd g := ⟨_, rfl⟩
  rw [← hzs] at HL ho3 ⊢
  have HZ : Hid (zs = withL rd g) := hzs
  clear hzs HS
  have HR : Hid (Reads w3 (some ⟨g3, 0, none⟩) zs) := ho3.reads
  clear ho3 hL hf
  have c1' := f3.cell c1
  have M := M.fr f3
  go_wp2_with (at_mapUpdate; refine wp_put rfl _ _ _ _ rfl Tryz.underlying125 b1 n F o (.agg #[.int .i64 o, .int .i64 (-1), .slice (some ⟨g3, 0, none⟩) zs.length cap3]) rfl rfl rfl M (by unfold maxLen; omega) ho ?_; intro w4 M4 g4)
  first | refine bodyPost_ret (results_none rfl _ _ _) rfl ?_ | go_end0
  exact ⟨rfl, by rw [← HZ.out]; exact HB.out.1.putLk HB.out.2 f3 HF.out g4 M4 HR.out hb3 (by have := HL.out.1; omega) ho i64_m1 HL.out.2, grown_trans f3.wide g4⟩

set_option maxRecDepth 20000 in
set_option maxHeartbeats 1000000 in
theorem dropReader_any {lo : Nat × Nat} {b b1 b2 b3 b4 n : Nat} {m : Scn} (o g : Int) (w : World) (h : BoardW lo w b b1 b2 b3 b4 n m) (hm : scB m = true) (hn : n < 4000000) (ho : I64 o) :
    Calls Tryz.prog 149 #[.pointer (some ⟨b, 0, none⟩), .int .i64 o, .int .i64 g] w fun y w' => y = .returned (.tuple #[]) ∧ BoardW lo w' b b1 b2 b3 b4 (n + 1) (setLk m ⟨o, -1, outL (lockZ m o).rd g⟩) ∧ w.grownBy w' (some b1) := by
  obtain ⟨lq, ro, rn, rc, l1, l2, l3, -, -, hL⟩ := h.toM.lookL ho
  obtain ⟨r1, r2, r3⟩ := lockZ_rd hm o
  have c1 := h.toM.c1
  have HB : Hid (BoardW lo w b b1 b2 b3 b4 n m ∧ scB m = true) := ⟨h, hm⟩
  obtain ⟨F, M, hF⟩ := h.m1
  have HF : Hid (∀ o, LkAt (Off lo) w (F o) (m.ls.find? fun l => l.o == o)) := hF
  have HM : Hid (MapF w b1 n F) := M
  clear h hm hF r1 r2 M
  obtain ⟨wr, hwr⟩ : ∃ L, L = (lockZ m o).wr := ⟨_, rfl⟩
  obtain ⟨xs, hrd⟩ : ∃ L, L = (lockZ m o).rd := ⟨_, rfl⟩
  simp only [← hwr] at hL
  rw [← hrd] at l1 l3 r3 ⊢
  clear hwr hrd
  subst l1
  have hf := fun u => field_rd lq wr ro xs.length rc u
  have fW := Fr.alloc w (.cells #[] 2)
  have c1' := fW.cell c1
  have hLW := hL _ fW
  go_enter Tryz.func149, Tryz.ntmps149
  go_wp2_with fail
  go_loopw [6, 18] (fun u i wr => ∃ k : Nat, k ≤ xs.length ∧ i = .int .i64 k ∧ OwnS wr w.heap.size u (outL (xs.take k) g) ∧ Fr w wr) (fun _ i _ => xs.length - (intOf i).toNat)
  case atStart => exact ⟨0, Nat.zero_le _, rfl, own_empty w _ (Nat.le_refl _), Fr.alloc w _⟩
  case round =>
    obtain ⟨k, hk, rfl, ho2, hf2⟩ := hrel
    have hs := hf2.size
    clear c1' hLW
    by_cases hlt : k < xs.length
    · obtain ⟨b, off, rfl, hc⟩ := (l3.fr hf2).at_ k hlt
      have hck := hc k hlt
      rw [getD_at hlt] at hck
      have hI := l3.bd _ (List.getElem_mem hlt)
      have hll := outL_len (xs.take k) g
      have hlk : (xs.take k).length ≤ k := by simp; omega
      cases hb : (xs[k] == g)
      · have HN : Hid (outL (xs.take (k + 1)) g = outL (xs.take k) g ++ [xs[k]]) := outL_yes xs g k hlt hb
        obtain ⟨z, hz⟩ : ∃ z, z = xs[k] := ⟨_, rfl⟩
        rw [← hz] at hck hb HN hI
        have hb2 : (z != g) = true := by simp [bne, hb]
        clear hz hc hb
        have hm := reads_one wr z hI
        go_wp2_with (at_builtin; refine appI _ rfl _ _ rfl w.heap.size _ _ [z] rfl (ho2.fr (Fr.alloc _ _)) _ _ _ rfl rfl (by simp) hm (by simp; omega) (by simp; omega) ?_; intro v1 w4 hv1 hg1)
        go_roundw
        case rel => exact ⟨k + 1, by omega, by go_num, by rw [HN.out]; exact hv1, (hf2.trans (Fr.alloc _ _)).then hg1 ho2.blk⟩
        case measure => simp [intOf]; omega
      · have HN : Hid (outL (xs.take (k + 1)) g = outL (xs.take k) g) := outL_no xs g k hlt hb
        obtain ⟨z, hz⟩ : ∃ z, z = xs[k] := ⟨_, rfl⟩
        rw [← hz] at hck hb
        have hb2 : (z != g) = false := by simp [bne, hb]
        clear hz hc hb
        go_wp2_with fail
        go_roundw
        case rel => exact ⟨k + 1, by omega, by go_num, by rw [HN.out]; exact ho2, hf2⟩
        case measure => simp [intOf]; omega
    · have et : k = xs.length := by omega
      subst et
      rw [List.take_length] at ho2
      have hll := outL_len xs g
      obtain ⟨zs, hzs⟩ : ∃ zs, zs = outL xs g := ⟨_, rfl⟩
      rw [← hzs] at ho2 hll
      have HZ : Hid (zs = outL xs g) := hzs
      clear hzs
      have hb3 := ho2.blk
      obtain ⟨g3, cap3, rfl, ho3⟩ := ho2
      have hb3 := hb3 g3 rfl
      have HR : Hid (Reads wr (some ⟨g3, 0, none⟩) zs) := ho3.reads
      have c1 := hf2.cell c1
      have M := HM.out.fr hf2
      clear ho3 hL hf
      by_cases he : zs = []
      · subst he
        go_wp2_with (at_delete; refine wp_del rfl _ _ _ rfl Tryz.underlying125 b1 n F o rfl rfl M ho ?_; intro w4 M4 g4)
        first | refine bodyPost_ret (results_none rfl _ _ _) rfl ?_ | go_end0
        exact ⟨rfl, by rw [← HZ.out]; exact HB.out.1.delLk HB.out.2 hf2 HF.out g4 M4 (by simp [lkFree]), grown_trans hf2.wide g4⟩
      · have hz : ¬ ((zs.length : Int) = 0) := fun q => he (List.eq_nil_of_length_eq_zero (by omega))
        have hzb : (((zs.length : Int)) == 0) = false := by simpa using hz
        have HE : Hid (lkFree ⟨o, -1, zs⟩ = false) := by
          show lkFree ⟨o, -1, zs⟩ = false
          simp [lkFree, he]
        clear he hz
        go_wp2_with (at_mapUpdate; refine wp_put rfl _ _ _ _ rfl Tryz.underlying125 b1 n F o (.agg #[.int .i64 o, .int .i64 (-1), .slice (some ⟨g3, 0, none⟩) zs.length cap3]) rfl rfl rfl M (by unfold maxLen; omega) ho ?_; intro w4 M4 g4)
        first | refine bodyPost_ret (results_none rfl _ _ _) rfl ?_ | go_end0
        exact ⟨rfl, by rw [← HZ.out]; exact HB.out.1.putLk HB.out.2 hf2 HF.out g4 M4 HR.out hb3 (by omega) ho i64_m1 HE.out, grown_trans hf2.wide g4⟩
end Go.Proofs.YtikjodbboljhjaaGreatDoor
