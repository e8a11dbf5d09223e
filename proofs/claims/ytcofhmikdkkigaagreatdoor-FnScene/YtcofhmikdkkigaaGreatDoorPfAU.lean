/-
  Pack AU: ScW2, ScW3.
-/
import Derived.Test.YtcofhmikdkkigaaGreatDoorPfAT
namespace Go.Proofs.YtcofhmikdkkigaaGreatDoor
open Go.RowKit

theorem field_rd (a b : Int) (ro : Option Addr) (rn rc : Nat) (u : World) : Sem.run Tryz.prog (Instr.field 86 (.agg #[.int .i64 a, .int .i64 b, .slice ro rn rc]) 2) u = .ok (.slice ro rn rc) u := by
  have hu := run_underlying (w := u) Tryz.underlying86
  simp [Instr.field, asAgg, hu, go_sem]

theorem sort_with (xs : List Int) (x : Int) (h : xs.Pairwise (· < ·)) : (([x] ++ xs).mergeSort fun a b => decide (a ≤ b)) = withL xs x := by
  have hw : (withL xs x).Pairwise (fun a b => (decide (a ≤ b)) = true) := by
    rw [withL_eq xs x h, List.append_assoc, List.pairwise_append]
    have h' : xs.Pairwise (fun a b => (decide (a ≤ b)) = true) := h.imp fun q => by simpa using Int.le_of_lt q
    refine ⟨h'.sublist List.filter_sublist, ?_, fun a ha b hb => ?_⟩
    · rw [List.singleton_append, List.pairwise_cons]
      exact ⟨fun b hb => by have := (List.mem_filter.1 hb).2; simp at this ⊢; omega, h'.sublist List.filter_sublist⟩
    · have ha2 := (List.mem_filter.1 ha).2
      simp only [decide_eq_true_eq] at ha2
      rcases List.mem_append.1 hb with hb | hb
      · rw [List.mem_singleton.1 hb]; simpa using ha2
      · have hb := (List.mem_filter.1 hb).2
        simp at hb ⊢
        omega
  refine List.Perm.eq_of_pairwise (le := fun a b => (decide (a ≤ b)) = true) (fun a b _ _ h1 h2 => by simp at h1 h2; omega) (List.pairwise_mergeSort (fun a b c h1 h2 => by simp at h1 h2 ⊢; omega) (fun a b => by simp; omega) _) hw ?_
  refine (List.mergeSort_perm _ _).trans ?_
  rw [withL_eq xs x h, List.append_assoc, List.singleton_append]
  have e1 : xs.filter (fun y => decide (x < y)) = xs.filter (fun y => !decide (y ≤ x)) := List.filter_congr fun y _ => by
    by_cases q : y ≤ x
    · have : ¬ x < y := by omega
      simp [q, this]
    · have : x < y := by omega
      simp [q, this]
  rw [e1]
  exact ((List.filter_append_perm (fun y => decide (y ≤ x)) xs).symm.cons x).trans List.perm_middle.symm
theorem rise_len : ∀ (xs : List Int) (lo hi : Int), xs.Pairwise (· < ·) → (∀ x ∈ xs, lo ≤ x ∧ x ≤ hi) → lo ≤ hi + 1 → (xs.length : Int) ≤ hi - lo + 1
  | [], lo, hi, _, _, h => by simp; omega
  | x :: xs, lo, hi, h, hb, hl => by
    rw [List.pairwise_cons] at h
    obtain ⟨q1, q2⟩ := hb x (List.mem_cons_self ..)
    have := rise_len xs (x + 1) hi h.2 (fun y hy => by have := h.1 y hy; have := (hb y (List.mem_cons_of_mem _ hy)).2; omega) (by omega)
    rw [List.length_cons]
    omega
theorem lockZ_rd {m : Scn} (h : scB m = true) (o : Int) : (lockZ m o).rd.Pairwise (· < ·) ∧ (∀ x ∈ (lockZ m o).rd, 0 ≤ x ∧ x ≤ 15) ∧ (lockZ m o).rd.length ≤ 16 := by
  have hs := (scB_iff m).1 h
  have q : (lockZ m o).rd.Pairwise (· < ·) ∧ (∀ x ∈ (lockZ m o).rd, 0 ≤ x ∧ x ≤ 15) := by
    unfold lockZ
    cases hf : m.ls.find? fun l => l.o == o with
    | none => simp
    | some l =>
      obtain ⟨⟨q1, q2⟩, -⟩ := (lkB_iff _ _).1 (hs.2.1.1 l (List.mem_of_find?_eq_some hf))
      exact ⟨q2, fun x hx => by have := q1 x hx; omega⟩
  refine ⟨q.1, q.2, ?_⟩
  have := rise_len _ 0 15 q.1 q.2 (by omega)
  omega

theorem BoardW.putLk {w W w' : World} {lo : Nat × Nat} {b b1 b2 b3 b4 n : Nat} {m : Scn} {o wr : Int} {g rc : Nat} {rd : List Int} {F : Int → Option Value} (h : BoardW lo w b b1 b2 b3 b4 n m) (hm : scB m = true) (f : Fr w W) (hF : ∀ o, LkAt (Off lo) w (F o) (m.ls.find? fun l => l.o == o))
    (k : W.grownBy w' (some b1)) (M : MapF w' b1 (n + 1) (putM F o (.agg #[.int .i64 o, .int .i64 wr, .slice (some ⟨g, 0, none⟩) rd.length rc]))) (R : Reads W (some ⟨g, 0, none⟩) rd) (hg : w.heap.size ≤ g) (hl : rd.length ≤ 1048576) (ho : I64 o) (hw : I64 wr) (hfree : lkFree ⟨o, wr, rd⟩ = false) :
    BoardW lo w' b b1 b2 b3 b4 (n + 1) (setLk m ⟨o, wr, rd⟩) := by
  have hb := h.blt
  have hlt := h.lt
  refine (h.fr f).setL hm (Nat.le_succ n) k M fun fl _ _ o' => ?_
  unfold putM
  have e1 : g ≠ b1 := by omega
  split
  · rename_i e
    rw [hfree]
    refine .inr ⟨⟨o, wr, rd⟩, ⟨o, wr, some ⟨g, 0, none⟩, rd.length, rc⟩, by simp, rfl, ⟨rfl, rfl, rfl, R.keep k (.inr (by simp [blk]; omega)), fun b' hb' => ?_, fun q => by simp at q, hl, ho, hw⟩⟩
    simp only [blk, Option.map_some, Option.some.injEq] at hb'
    unfold Off
    have := h.ge.2.2
    omega
  · exact ((hF o').keep f (by simp)).keep k (off_lt h.lt h.ge (.inr (.inl rfl)))
theorem BoardW.delLk {w W w' : World} {lo : Nat × Nat} {b b1 b2 b3 b4 n : Nat} {m : Scn} {l : Lk} {F : Int → Option Value} (h : BoardW lo w b b1 b2 b3 b4 n m) (hm : scB m = true) (f : Fr w W) (hF : ∀ o, LkAt (Off lo) w (F o) (m.ls.find? fun l => l.o == o))
    (k : W.grownBy w' (some b1)) (M : MapF w' b1 n (delF F l.o)) (hfree : lkFree l = true) : BoardW lo w' b b1 b2 b3 b4 (n + 1) (setLk m l) := by
  refine (h.fr f).setL hm (Nat.le_succ n) k (M.mono (Nat.le_succ n)) fun fl _ _ o' => ?_
  unfold delF
  split
  · exact .inl ⟨by simp, rfl⟩
  · exact ((hF o').keep f (by simp)).keep k (off_lt h.lt h.ge (.inr (.inl rfl)))

set_option maxRecDepth 20000 in
set_option maxHeartbeats 1000000 in
theorem addReader_any {lo : Nat × Nat} {b b1 b2 b3 b4 n : Nat} {m : Scn} (o g : Int) (w : World) (h : BoardW lo w b b1 b2 b3 b4 n m) (hm : scB m = true) (hn : n < 4000000) (ho : I64 o) (hg : I64 g) :
    Calls Tryz.prog 149 #[.pointer (some ⟨b, 0, none⟩), .int .i64 o, .int .i64 g] w fun y w' => y = .returned (.tuple #[]) ∧ BoardW lo w' b b1 b2 b3 b4 (n + 1) (setLk m ⟨o, -1, withL (lockZ m o).rd g⟩) ∧ w.grownBy w' (some b1) := by
  obtain ⟨lq, ro, rn, rc, l1, l2, l3, ⟨l4, l5⟩, -, hL⟩ := h.toM.lookL ho
  obtain ⟨r1, r2, r3⟩ := lockZ_rd hm o
  have HS : Hid (([g] ++ (lockZ m o).rd).mergeSort (fun a b => decide (a ≤ b)) = withL (lockZ m o).rd g) := sort_with _ _ r1
  have HL : Hid ((withL (lockZ m o).rd g).length ≤ 1000 ∧ lkFree ⟨o, -1, withL (lockZ m o).rd g⟩ = false) := by
    have e1 : (withL (lockZ m o).rd g).length = (lockZ m o).rd.length + 1 := by
      rw [← HS.out, List.length_mergeSort]; simp
    refine ⟨by omega, ?_⟩
    simp [lkFree]
    intro q
    rw [q] at e1
    simp at e1
  have c1 := h.toM.c1
  have hbl := h.blt
  have hlt := h.lt
  have HB : Hid (BoardW lo w b b1 b2 b3 b4 n m ∧ scB m = true) := ⟨h, hm⟩
  obtain ⟨F, M, hF⟩ := h.m1
  have HF : Hid (∀ o, LkAt (Off lo) w (F o) (m.ls.find? fun l => l.o == o)) := hF
  clear h hm hF r1 r2 l4
  obtain ⟨wr, hwr⟩ : ∃ L, L = (lockZ m o).wr := ⟨_, rfl⟩
  obtain ⟨rd, hrd⟩ : ∃ L, L = (lockZ m o).rd := ⟨_, rfl⟩
  simp only [← hwr] at hL
  rw [← hrd] at HS HL l1 l3 r3 ⊢
  clear hwr hrd
  have hf := fun u => field_rd lq wr ro rn rc u
  have fW := Fr.alloc w (.cells #[.int .i64 g] 2)
  have c1' := fW.cell c1
  have hLW := hL _ fW
  have v0 : OwnS (w.alloc (.cells #[.int .i64 g] 2)) w.heap.size (.slice (some ⟨w.heap.size, 0, none⟩) 1 1) [g] :=
    ⟨w.heap.size, 1, rfl, ⟨by simp, .inr ⟨w.heap.size, 1, #[.int .i64 g], rfl, Nat.le_refl _, heap_alloc_new w _, by simp, by unfold maxLen; omega, by simp, by simp⟩⟩, by simp, by simpa using hg⟩
  have l3 := l3.fr fW
  go_enter Tryz.func149, Tryz.ntmps149
  go_wp2_with (at_builtin; refine appI _ rfl _ _ rfl w.heap.size _ _ rd rfl v0 ro rn rc rfl l1 l5 l3 (by simp; omega) (by simp) ?_; intro v1 w2 hv1 hg1)
  have f2 : Fr w w2 := fW.then hg1 v0.blk
  clear hg1 v0 hLW c1' fW l3
  have hblk := hv1.blk
  refine (sort_any v1 ([g] ++ rd) w.heap.size w2 hv1).mono ?_
  rintro x w3 ⟨rfl, hv3, hg3⟩
  rw [HS.out] at hv3
  have f3 : Fr w w3 := f2.then hg3 hblk
  clear hg3 hblk hv1 f2
  have hb3 := hv3.blk
  obtain ⟨g3, cap3, rfl, ho3⟩ := hv3
  have hb3 := hb3 g3 rfl
  obtain ⟨zs, hzs⟩ : ∃ zs, zs = withL rd g := ⟨_, rfl⟩
  rw [← hzs] at HL ho3 ⊢
  have HZ : Hid (zs = withL rd g) := hzs
  clear hzs HS
  have HR : Hid (Reads w3 (some ⟨g3, 0, none⟩) zs) := ho3.reads
  clear ho3 hL hf
  have c1' := f3.cell c1
  have M := M.fr f3
  go_wp2_with (at_mapUpdate; refine wp_put rfl _ _ _ _ rfl Tryz.underlying129 b1 n F o (.agg #[.int .i64 o, .int .i64 (-1), .slice (some ⟨g3, 0, none⟩) zs.length cap3]) rfl rfl rfl M (by unfold maxLen; omega) ho ?_; intro w4 M4 g4)
  first | refine bodyPost_ret (results_none rfl _ _ _) rfl ?_ | go_end0
  exact ⟨rfl, by rw [← HZ.out]; exact HB.out.1.putLk HB.out.2 f3 HF.out g4 M4 HR.out hb3 (by have := HL.out.1; omega) ho i64_m1 HL.out.2, grown_trans f3.wide g4⟩

set_option maxRecDepth 20000 in
set_option maxHeartbeats 1000000 in
theorem dropReader_any {lo : Nat × Nat} {b b1 b2 b3 b4 n : Nat} {m : Scn} (o g : Int) (w : World) (h : BoardW lo w b b1 b2 b3 b4 n m) (hm : scB m = true) (hn : n < 4000000) (ho : I64 o) :
    Calls Tryz.prog 150 #[.pointer (some ⟨b, 0, none⟩), .int .i64 o, .int .i64 g] w fun y w' => y = .returned (.tuple #[]) ∧ BoardW lo w' b b1 b2 b3 b4 (n + 1) (setLk m ⟨o, -1, outL (lockZ m o).rd g⟩) ∧ w.grownBy w' (some b1) := by
  obtain ⟨lq, ro, rn, rc, l1, l2, l3, -, -, hL⟩ := h.toM.lookL ho
  obtain ⟨r1, r2, r3⟩ := lockZ_rd hm o
  have c1 := h.toM.c1
  have HB : Hid (BoardW lo w b b1 b2 b3 b4 n m ∧ scB m = true) := ⟨h, hm⟩
  obtain ⟨F, M, hF⟩ := h.m1
  have HF : Hid (∀ o, LkAt (Off lo) w (F o) (m.ls.find? fun l => l.o == o)) := hF
  have HM : Hid (MapF w b1 n F) := M
  clear h hm hF r1 r2 M
  obtain ⟨wr, hwr⟩ : ∃ L, L = (lockZ m o).wr := ⟨_, rfl⟩
  obtain ⟨xs, hrd⟩ : ∃ L, L = (lockZ m o).rd := ⟨_, rfl⟩
  simp only [← hwr] at hL
  rw [← hrd] at l1 l3 r3 ⊢
  clear hwr hrd
  subst l1
  have hf := fun u => field_rd lq wr ro xs.length rc u
  have fW := Fr.alloc w (.cells #[] 2)
  have c1' := fW.cell c1
  have hLW := hL _ fW
  go_enter Tryz.func150, Tryz.ntmps150
  go_wp2_with fail
  go_loopw [6, 18] (fun u i wr => ∃ k : Nat, k ≤ xs.length ∧ i = .int .i64 k ∧ OwnS wr w.heap.size u (outL (xs.take k) g) ∧ Fr w wr) (fun _ i _ => xs.length - (intOf i).toNat)
  case atStart => exact ⟨0, Nat.zero_le _, rfl, own_empty w _ (Nat.le_refl _), Fr.alloc w _⟩
  case round =>
    obtain ⟨k, hk, rfl, ho2, hf2⟩ := hrel
    have hs := hf2.size
    clear c1' hLW
    by_cases hlt : k < xs.length
    · obtain ⟨b, off, rfl, hc⟩ := (l3.fr hf2).at_ k hlt
      have hck := hc k hlt
      rw [getD_at hlt] at hck
      have hI := l3.bd _ (List.getElem_mem hlt)
      have hll := outL_len (xs.take k) g
      have hlk : (xs.take k).length ≤ k := by simp; omega
      cases hb : (xs[k] == g)
      · have HN : Hid (outL (xs.take (k + 1)) g = outL (xs.take k) g ++ [xs[k]]) := outL_yes xs g k hlt hb
        obtain ⟨z, hz⟩ : ∃ z, z = xs[k] := ⟨_, rfl⟩
        rw [← hz] at hck hb HN hI
        have hb2 : (z != g) = true := by simp [bne, hb]
        clear hz hc hb
        have hm := reads_one wr z hI
        go_wp2_with (at_builtin; refine appI _ rfl _ _ rfl w.heap.size _ _ [z] rfl (ho2.fr (Fr.alloc _ _)) _ _ _ rfl rfl (by simp) hm (by simp; omega) (by simp; omega) ?_; intro v1 w4 hv1 hg1)
        go_roundw
        case rel => exact ⟨k + 1, by omega, by go_num, by rw [HN.out]; exact hv1, (hf2.trans (Fr.alloc _ _)).then hg1 ho2.blk⟩
        case measure => simp [intOf]; omega
      · have HN : Hid (outL (xs.take (k + 1)) g = outL (xs.take k) g) := outL_no xs g k hlt hb
        obtain ⟨z, hz⟩ : ∃ z, z = xs[k] := ⟨_, rfl⟩
        rw [← hz] at hck hb
        have hb2 : (z != g) = false := by simp [bne, hb]
        clear hz hc hb
        go_wp2_with fail
        go_roundw
        case rel => exact ⟨k + 1, by omega, by go_num, by rw [HN.out]; exact ho2, hf2⟩
        case measure => simp [intOf]; omega
    · have et : k = xs.length := by omega
      subst et
      rw [List.take_length] at ho2
      have hll := outL_len xs g
      obtain ⟨zs, hzs⟩ : ∃ zs, zs = outL xs g := ⟨_, rfl⟩
      rw [← hzs] at ho2 hll
      have HZ : Hid (zs = outL xs g) := hzs
      clear hzs
      have hb3 := ho2.blk
      obtain ⟨g3, cap3, rfl, ho3⟩ := ho2
      have hb3 := hb3 g3 rfl
      have HR : Hid (Reads wr (some ⟨g3, 0, none⟩) zs) := ho3.reads
      have c1 := hf2.cell c1
      have M := HM.out.fr hf2
      clear ho3 hL hf
      by_cases he : zs = []
      · subst he
        go_wp2_with (at_delete; refine wp_del rfl _ _ _ rfl Tryz.underlying129 b1 n F o rfl rfl M ho ?_; intro w4 M4 g4)
        first | refine bodyPost_ret (results_none rfl _ _ _) rfl ?_ | go_end0
        exact ⟨rfl, by rw [← HZ.out]; exact HB.out.1.delLk HB.out.2 hf2 HF.out g4 M4 (by simp [lkFree]), grown_trans hf2.wide g4⟩
      · have hz : ¬ ((zs.length : Int) = 0) := fun q => he (List.eq_nil_of_length_eq_zero (by omega))
        have hzb : (((zs.length : Int)) == 0) = false := by simpa using hz
        have HE : Hid (lkFree ⟨o, -1, zs⟩ = false) := by
          show lkFree ⟨o, -1, zs⟩ = false
          simp [lkFree, he]
        clear he hz
        go_wp2_with (at_mapUpdate; refine wp_put rfl _ _ _ _ rfl Tryz.underlying129 b1 n F o (.agg #[.int .i64 o, .int .i64 (-1), .slice (some ⟨g3, 0, none⟩) zs.length cap3]) rfl rfl rfl M (by unfold maxLen; omega) ho ?_; intro w4 M4 g4)
        first | refine bodyPost_ret (results_none rfl _ _ _) rfl ?_ | go_end0
        exact ⟨rfl, by rw [← HZ.out]; exact HB.out.1.putLk HB.out.2 hf2 HF.out g4 M4 HR.out hb3 (by omega) ho i64_m1 HE.out, grown_trans hf2.wide g4⟩
end Go.Proofs.YtcofhmikdkkigaaGreatDoor
namespace Go.Proofs.YtcofhmikdkkigaaGreatDoor
open Go.RowKit

theorem BoardW.putLk0 {w W w' : World} {lo : Nat × Nat} {b b1 b2 b3 b4 n : Nat} {m : Scn} {o wr : Int} {F : Int → Option Value} (h : BoardW lo w b b1 b2 b3 b4 n m) (hm : scB m = true) (f : Fr w W) (hF : ∀ o, LkAt (Off lo) w (F o) (m.ls.find? fun l => l.o == o))
    (k : W.grownBy w' (some b1)) (M : MapF w' b1 (n + 1) (putM F o (.agg #[.int .i64 o, .int .i64 wr, .slice none 0 0]))) (ho : I64 o) (hw : I64 wr) (hfree : lkFree ⟨o, wr, []⟩ = false) :
    BoardW lo w' b b1 b2 b3 b4 (n + 1) (setLk m ⟨o, wr, []⟩) := by
  refine (h.fr f).setL hm (Nat.le_succ n) k M fun fl _ _ o' => ?_
  unfold putM
  split
  · rename_i e
    rw [hfree]
    exact .inr ⟨⟨o, wr, []⟩, ⟨o, wr, none, 0, 0⟩, by simp, rfl, ⟨rfl, rfl, rfl, Reads.nil _ _, inB_none _, fun _ => rfl, by simp, ho, hw⟩⟩
  · exact ((hF o').keep f (by simp)).keep k (off_lt h.lt h.ge (.inr (.inl rfl)))
theorem i64_small {x : Int} (h : -1 ≤ x ∧ x ≤ 1000000000) : I64 x := ⟨by omega, by omega⟩

set_option maxRecDepth 20000 in
set_option maxHeartbeats 2000000 in
theorem do_rlock {lo : Nat × Nat} {b b1 b2 b3 b4 n : Nat} {m : Scn} (gr o wi l sz f t : Int) (w : World) (h : BoardW lo w b b1 b2 b3 b4 n m) (hm : scB m = true) (hn : n < 4000000) (ho : I64 o) (hg : I64 gr) :
    Calls Tryz.prog 102 #[.pointer (some ⟨b, 0, none⟩), .agg #[.int .i64 4, .int .i64 gr, .int .i64 o, .int .i64 wi, .int .i64 l, .int .i64 sz, .int .i64 f, .int .i64 t]] w fun y w' => y = .returned (.tuple #[]) ∧ BoardW lo w' b b1 b2 b3 b4 (n + 1) (setLk m ⟨o, -1, withL (lockZ m o).rd gr⟩) ∧ ∃ x, On b b1 b2 b3 b4 x ∧ w.grownBy w' (some x) := by
  have fW := Fr.alloc w (.cells #[.int .i64 4, .int .i64 gr, .int .i64 o, .int .i64 wi, .int .i64 l, .int .i64 sz, .int .i64 f, .int .i64 t] 31)
  have kE := EvB.new w ⟨4, gr, o, wi, l, sz, f, t⟩
  simp only at kE
  have c := addReader_any o gr _ (h.fr fW) hm hn ho hg
  clear h hm hn
  go_enter Tryz.func102, Tryz.ntmps102
  go_wp2_with fail
  refine c.mono ?_
  rintro y w2 ⟨rfl, B2, g2⟩
  clear c
  go_wp2_with fail
  first | refine bodyPost_ret (results_none rfl _ _ _) rfl ?_ | go_end0
  exact ⟨rfl, B2, b1, .inr (.inl rfl), grown_trans fW.wide g2⟩

set_option maxRecDepth 20000 in
set_option maxHeartbeats 2000000 in
theorem do_runlock {lo : Nat × Nat} {b b1 b2 b3 b4 n : Nat} {m : Scn} (gr o wi l sz f t : Int) (w : World) (h : BoardW lo w b b1 b2 b3 b4 n m) (hm : scB m = true) (hn : n < 4000000) (ho : I64 o) :
    Calls Tryz.prog 102 #[.pointer (some ⟨b, 0, none⟩), .agg #[.int .i64 5, .int .i64 gr, .int .i64 o, .int .i64 wi, .int .i64 l, .int .i64 sz, .int .i64 f, .int .i64 t]] w fun y w' => y = .returned (.tuple #[]) ∧ BoardW lo w' b b1 b2 b3 b4 (n + 1) (setLk m ⟨o, -1, outL (lockZ m o).rd gr⟩) ∧ ∃ x, On b b1 b2 b3 b4 x ∧ w.grownBy w' (some x) := by
  have fW := Fr.alloc w (.cells #[.int .i64 5, .int .i64 gr, .int .i64 o, .int .i64 wi, .int .i64 l, .int .i64 sz, .int .i64 f, .int .i64 t] 31)
  have kE := EvB.new w ⟨5, gr, o, wi, l, sz, f, t⟩
  simp only at kE
  have c := dropReader_any o gr _ (h.fr fW) hm hn ho
  clear h hm hn
  go_enter Tryz.func102, Tryz.ntmps102
  go_wp2_with fail
  refine c.mono ?_
  rintro y w2 ⟨rfl, B2, g2⟩
  clear c
  go_wp2_with fail
  first | refine bodyPost_ret (results_none rfl _ _ _) rfl ?_ | go_end0
  exact ⟨rfl, B2, b1, .inr (.inl rfl), grown_trans fW.wide g2⟩

set_option maxRecDepth 20000 in
set_option maxHeartbeats 2000000 in
theorem do_send {lo : Nat × Nat} {b b1 b2 b3 b4 n : Nat} {m : Scn} (gr o wi l sz f t : Int) (w : World) (h : BoardW lo w b b1 b2 b3 b4 n m) (hm : scB m = true) (hn : n < 4000000) (ho : I64 o) (hi : isChan m.cs o = true) :
    Calls Tryz.prog 102 #[.pointer (some ⟨b, 0, none⟩), .agg #[.int .i64 7, .int .i64 gr, .int .i64 o, .int .i64 wi, .int .i64 l, .int .i64 sz, .int .i64 f, .int .i64 t]] w fun y w' => y = .returned (.tuple #[]) ∧ BoardW lo w' b b1 b2 b3 b4 (n + 1) (setCh m (chanTo m ⟨7, gr, o, wi, l, sz, f, t⟩)) ∧ ∃ x, On b b1 b2 b3 b4 x ∧ w.grownBy w' (some x) := by
  have fW := Fr.alloc w (.cells #[.int .i64 7, .int .i64 gr, .int .i64 o, .int .i64 wi, .int .i64 l, .int .i64 sz, .int .i64 f, .int .i64 t] 31)
  have kE := EvB.new w ⟨7, gr, o, wi, l, sz, f, t⟩
  simp only at kE
  have c := useChan_any ⟨7, gr, o, wi, l, sz, f, t⟩ _ (by simp) (h.fr fW) hm hn ho hi
  clear h hm hn
  go_enter Tryz.func102, Tryz.ntmps102
  go_wp2_with fail
  refine c.mono ?_
  rintro y w2 ⟨rfl, B2, g2⟩
  clear c
  go_wp2_with fail
  first | refine bodyPost_ret (results_none rfl _ _ _) rfl ?_ | go_end0
  exact ⟨rfl, B2, b2, .inr (.inr (.inl rfl)), grown_trans fW.wide g2⟩

set_option maxRecDepth 20000 in
set_option maxHeartbeats 2000000 in
theorem do_recv {lo : Nat × Nat} {b b1 b2 b3 b4 n : Nat} {m : Scn} (gr o wi l sz f t : Int) (w : World) (h : BoardW lo w b b1 b2 b3 b4 n m) (hm : scB m = true) (hn : n < 4000000) (ho : I64 o) (hi : isChan m.cs o = true) :
    Calls Tryz.prog 102 #[.pointer (some ⟨b, 0, none⟩), .agg #[.int .i64 8, .int .i64 gr, .int .i64 o, .int .i64 wi, .int .i64 l, .int .i64 sz, .int .i64 f, .int .i64 t]] w fun y w' => y = .returned (.tuple #[]) ∧ BoardW lo w' b b1 b2 b3 b4 (n + 1) (setCh m (chanTo m ⟨8, gr, o, wi, l, sz, f, t⟩)) ∧ ∃ x, On b b1 b2 b3 b4 x ∧ w.grownBy w' (some x) := by
  have fW := Fr.alloc w (.cells #[.int .i64 8, .int .i64 gr, .int .i64 o, .int .i64 wi, .int .i64 l, .int .i64 sz, .int .i64 f, .int .i64 t] 31)
  have kE := EvB.new w ⟨8, gr, o, wi, l, sz, f, t⟩
  simp only at kE
  have c := useChan_any ⟨8, gr, o, wi, l, sz, f, t⟩ _ (by simp) (h.fr fW) hm hn ho hi
  clear h hm hn
  go_enter Tryz.func102, Tryz.ntmps102
  go_wp2_with fail
  refine c.mono ?_
  rintro y w2 ⟨rfl, B2, g2⟩
  clear c
  go_wp2_with fail
  first | refine bodyPost_ret (results_none rfl _ _ _) rfl ?_ | go_end0
  exact ⟨rfl, B2, b2, .inr (.inr (.inl rfl)), grown_trans fW.wide g2⟩

set_option maxRecDepth 20000 in
set_option maxHeartbeats 2000000 in
theorem do_close {lo : Nat × Nat} {b b1 b2 b3 b4 n : Nat} {m : Scn} (gr o wi l sz f t : Int) (w : World) (h : BoardW lo w b b1 b2 b3 b4 n m) (hm : scB m = true) (hn : n < 4000000) (ho : I64 o) (hi : isChan m.cs o = true) :
    Calls Tryz.prog 102 #[.pointer (some ⟨b, 0, none⟩), .agg #[.int .i64 10, .int .i64 gr, .int .i64 o, .int .i64 wi, .int .i64 l, .int .i64 sz, .int .i64 f, .int .i64 t]] w fun y w' => y = .returned (.tuple #[]) ∧ BoardW lo w' b b1 b2 b3 b4 (n + 1) (setCh m (chanTo m ⟨10, gr, o, wi, l, sz, f, t⟩)) ∧ ∃ x, On b b1 b2 b3 b4 x ∧ w.grownBy w' (some x) := by
  have fW := Fr.alloc w (.cells #[.int .i64 10, .int .i64 gr, .int .i64 o, .int .i64 wi, .int .i64 l, .int .i64 sz, .int .i64 f, .int .i64 t] 31)
  have kE := EvB.new w ⟨10, gr, o, wi, l, sz, f, t⟩
  simp only at kE
  have c := useChan_any ⟨10, gr, o, wi, l, sz, f, t⟩ _ (by simp) (h.fr fW) hm hn ho hi
  clear h hm hn
  go_enter Tryz.func102, Tryz.ntmps102
  go_wp2_with fail
  refine c.mono ?_
  rintro y w2 ⟨rfl, B2, g2⟩
  clear c
  go_wp2_with fail
  first | refine bodyPost_ret (results_none rfl _ _ _) rfl ?_ | go_end0
  exact ⟨rfl, B2, b2, .inr (.inr (.inl rfl)), grown_trans fW.wide g2⟩

set_option maxRecDepth 20000 in
set_option maxHeartbeats 2000000 in
theorem do_add {lo : Nat × Nat} {b b1 b2 b3 b4 n : Nat} {m : Scn} (gr o wi l sz f t : Int) (w : World) (h : BoardW lo w b b1 b2 b3 b4 n m) (hm : scB m = true) (hn : n < 4000000) (ho : I64 o) (hs : 1 ≤ sz ∧ sz ≤ 9) :
    Calls Tryz.prog 102 #[.pointer (some ⟨b, 0, none⟩), .agg #[.int .i64 12, .int .i64 gr, .int .i64 o, .int .i64 wi, .int .i64 l, .int .i64 sz, .int .i64 f, .int .i64 t]] w fun y w' => y = .returned (.tuple #[]) ∧ BoardW lo w' b b1 b2 b3 b4 (n + 1) (setCt m o (countOf m.gs o + sz)) ∧ ∃ x, On b b1 b2 b3 b4 x ∧ w.grownBy w' (some x) := by
  have fW := Fr.alloc w (.cells #[.int .i64 12, .int .i64 gr, .int .i64 o, .int .i64 wi, .int .i64 l, .int .i64 sz, .int .i64 f, .int .i64 t] 31)
  have kE := EvB.new w ⟨12, gr, o, wi, l, sz, f, t⟩
  simp only at kE
  have c := addCount_any o sz _ (h.fr fW) hm hn ho (by omega)
  clear h hm hn
  go_enter Tryz.func102, Tryz.ntmps102
  go_wp2_with fail
  refine c.mono ?_
  rintro y w2 ⟨rfl, B2, g2⟩
  clear c
  go_wp2_with fail
  first | refine bodyPost_ret (results_none rfl _ _ _) rfl ?_ | go_end0
  exact ⟨rfl, B2, b3, .inr (.inr (.inr (.inl rfl))), grown_trans fW.wide g2⟩

set_option maxRecDepth 20000 in
set_option maxHeartbeats 2000000 in
theorem do_done {lo : Nat × Nat} {b b1 b2 b3 b4 n : Nat} {m : Scn} (gr o wi l sz f t : Int) (w : World) (h : BoardW lo w b b1 b2 b3 b4 n m) (hm : scB m = true) (hn : n < 4000000) (ho : I64 o) :
    Calls Tryz.prog 102 #[.pointer (some ⟨b, 0, none⟩), .agg #[.int .i64 13, .int .i64 gr, .int .i64 o, .int .i64 wi, .int .i64 l, .int .i64 sz, .int .i64 f, .int .i64 t]] w fun y w' => y = .returned (.tuple #[]) ∧ BoardW lo w' b b1 b2 b3 b4 (n + 1) (setCt m o (countOf m.gs o + -1)) ∧ ∃ x, On b b1 b2 b3 b4 x ∧ w.grownBy w' (some x) := by
  have fW := Fr.alloc w (.cells #[.int .i64 13, .int .i64 gr, .int .i64 o, .int .i64 wi, .int .i64 l, .int .i64 sz, .int .i64 f, .int .i64 t] 31)
  have kE := EvB.new w ⟨13, gr, o, wi, l, sz, f, t⟩
  simp only at kE
  have c := addCount_any o (-1) _ (h.fr fW) hm hn ho (by omega)
  clear h hm hn
  go_enter Tryz.func102, Tryz.ntmps102
  go_wp2_with fail
  refine c.mono ?_
  rintro y w2 ⟨rfl, B2, g2⟩
  clear c
  go_wp2_with fail
  first | refine bodyPost_ret (results_none rfl _ _ _) rfl ?_ | go_end0
  exact ⟨rfl, B2, b3, .inr (.inr (.inr (.inl rfl))), grown_trans fW.wide g2⟩

set_option maxRecDepth 20000 in
set_option maxHeartbeats 2000000 in
theorem do_lock {lo : Nat × Nat} {b b1 b2 b3 b4 n : Nat} {m : Scn} (gr o wi l sz f t : Int) (w : World) (h : BoardW lo w b b1 b2 b3 b4 n m) (hm : scB m = true) (hn : n < 4000000) (ho : I64 o) (hg : 0 ≤ gr ∧ gr ≤ 1000000) :
    Calls Tryz.prog 102 #[.pointer (some ⟨b, 0, none⟩), .agg #[.int .i64 2, .int .i64 gr, .int .i64 o, .int .i64 wi, .int .i64 l, .int .i64 sz, .int .i64 f, .int .i64 t]] w fun y w' => y = .returned (.tuple #[]) ∧ BoardW lo w' b b1 b2 b3 b4 (n + 1) (setLk m ⟨o, gr, []⟩) ∧ ∃ x, On b b1 b2 b3 b4 x ∧ w.grownBy w' (some x) := by
  have fW := Fr.alloc w (.cells #[.int .i64 2, .int .i64 gr, .int .i64 o, .int .i64 wi, .int .i64 l, .int .i64 sz, .int .i64 f, .int .i64 t] 31)
  have kE := EvB.new w ⟨2, gr, o, wi, l, sz, f, t⟩
  simp only at kE
  have cM := h.toM.c1
  have hbl := h.blt
  have hlt := h.lt
  have HB : Hid (BoardW lo w b b1 b2 b3 b4 n m ∧ scB m = true) := ⟨h, hm⟩
  obtain ⟨F, M, hF⟩ := h.m1
  have HF : Hid (∀ o, LkAt (Off lo) w (F o) (m.ls.find? fun l => l.o == o)) := hF
  clear hF
  have _ := hn
  clear h hm
  go_enter Tryz.func102, Tryz.ntmps102
  go_wp2_with fail
  obtain ⟨W, hW⟩ : ∃ W, W = w.alloc (.cells #[.int .i64 2, .int .i64 gr, .int .i64 o, .int .i64 wi, .int .i64 l, .int .i64 sz, .int .i64 f, .int .i64 t] 31) := ⟨_, rfl⟩
  rw [← hW] at fW kE ⊢
  clear hW
  have hne : ¬ (some w.heap.size = some b1) := fun q => by simp only [Option.some.injEq] at q; omega
  have hne2 : ¬ (some b = some b1) := fun q => by simp only [Option.some.injEq] at q; omega
  obtain ⟨E, hE⟩ : ∃ E, E = w.heap.size := ⟨_, rfl⟩
  rw [← hE] at kE hne ⊢
  clear hE
  have cM := fW.cell cM
  obtain ⟨w1, hrun, M1, g1⟩ := ((M.fr fW).fr (Fr.drew W)).put Tryz.underlying129 (by unfold maxLen; omega) ho (.agg #[.int .i64 o, .int .i64 gr, .slice none 0 0])
  have gW : W.grownBy w1 (some b1) := grown_trans (grown_draw W 1 _) g1
  obtain ⟨y0, y1, y2, y3, y4, y5, y6, y7⟩ := kE.at
  obtain ⟨z0, z1, z2, z3, z4, z5, z6, z7⟩ := (kE.keep gW (fun q => hne q.symm)).at
  have x2 := gW.cell cM hne2
  simp only at y0 y1 y2 y3 y4 y5 y6 y7 z0 z1 z2 z3 z4 z5 z6 z7
  clear M kE
  go_region_held3 (fun u => u.cell? ⟨b, 1, none⟩ = some (.map (some b1)) ∧ u.cell? ⟨E, 0, none⟩ = some (.int .i64 2) ∧ u.cell? ⟨E, 1, none⟩ = some (.int .i64 gr) ∧ u.cell? ⟨E, 2, none⟩ = some (.int .i64 o) ∧ u.cell? ⟨E, 3, none⟩ = some (.int .i64 wi) ∧ u.cell? ⟨E, 4, none⟩ = some (.int .i64 l) ∧ u.cell? ⟨E, 5, none⟩ = some (.int .i64 sz) ∧ u.cell? ⟨E, 6, none⟩ = some (.int .i64 f) ∧ u.cell? ⟨E, 7, none⟩ = some (.int .i64 t)) (go_keep) (fail)
  first | refine bodyPost_ret (results_none rfl _ _ _) rfl ?_ | go_end0
  exact ⟨rfl, HB.out.1.putLk0 HB.out.2 fW HF.out gW M1 ho (i64_small (by omega)) (by simp [lkFree]; omega), b1, .inr (.inl rfl), grown_trans fW.wide gW⟩

set_option maxRecDepth 20000 in
set_option maxHeartbeats 2000000 in
theorem do_unlock {lo : Nat × Nat} {b b1 b2 b3 b4 n : Nat} {m : Scn} (gr o wi l sz f t : Int) (w : World) (h : BoardW lo w b b1 b2 b3 b4 n m) (hm : scB m = true) (hn : n < 4000000) (ho : I64 o) :
    Calls Tryz.prog 102 #[.pointer (some ⟨b, 0, none⟩), .agg #[.int .i64 3, .int .i64 gr, .int .i64 o, .int .i64 wi, .int .i64 l, .int .i64 sz, .int .i64 f, .int .i64 t]] w fun y w' => y = .returned (.tuple #[]) ∧ BoardW lo w' b b1 b2 b3 b4 (n + 1) (setLk m ⟨o, -1, []⟩) ∧ ∃ x, On b b1 b2 b3 b4 x ∧ w.grownBy w' (some x) := by
  have fW := Fr.alloc w (.cells #[.int .i64 3, .int .i64 gr, .int .i64 o, .int .i64 wi, .int .i64 l, .int .i64 sz, .int .i64 f, .int .i64 t] 31)
  have kE := EvB.new w ⟨3, gr, o, wi, l, sz, f, t⟩
  simp only at kE
  have cM := h.toM.c1
  have hbl := h.blt
  have hlt := h.lt
  have HB : Hid (BoardW lo w b b1 b2 b3 b4 n m ∧ scB m = true) := ⟨h, hm⟩
  obtain ⟨F, M, hF⟩ := h.m1
  have HF : Hid (∀ o, LkAt (Off lo) w (F o) (m.ls.find? fun l => l.o == o)) := hF
  clear hF
  have _ := hn
  clear h hm
  go_enter Tryz.func102, Tryz.ntmps102
  go_wp2_with fail
  obtain ⟨W, hW⟩ : ∃ W, W = w.alloc (.cells #[.int .i64 3, .int .i64 gr, .int .i64 o, .int .i64 wi, .int .i64 l, .int .i64 sz, .int .i64 f, .int .i64 t] 31) := ⟨_, rfl⟩
  rw [← hW] at fW kE ⊢
  clear hW
  have hne : ¬ (some w.heap.size = some b1) := fun q => by simp only [Option.some.injEq] at q; omega
  have hne2 : ¬ (some b = some b1) := fun q => by simp only [Option.some.injEq] at q; omega
  obtain ⟨E, hE⟩ : ∃ E, E = w.heap.size := ⟨_, rfl⟩
  rw [← hE] at kE hne ⊢
  clear hE
  have cM := fW.cell cM
  obtain ⟨w1, hrun, M1, g1⟩ := ((M.fr fW).fr (Fr.drew W)).del Tryz.underlying129 ho 0
  have gW : W.grownBy w1 (some b1) := grown_trans (grown_draw W 1 _) g1
  obtain ⟨y0, y1, y2, y3, y4, y5, y6, y7⟩ := kE.at
  obtain ⟨z0, z1, z2, z3, z4, z5, z6, z7⟩ := (kE.keep gW (fun q => hne q.symm)).at
  have x2 := gW.cell cM hne2
  simp only at y0 y1 y2 y3 y4 y5 y6 y7 z0 z1 z2 z3 z4 z5 z6 z7
  clear M kE
  go_region_held3 (fun u => u.cell? ⟨b, 1, none⟩ = some (.map (some b1)) ∧ u.cell? ⟨E, 0, none⟩ = some (.int .i64 3) ∧ u.cell? ⟨E, 1, none⟩ = some (.int .i64 gr) ∧ u.cell? ⟨E, 2, none⟩ = some (.int .i64 o) ∧ u.cell? ⟨E, 3, none⟩ = some (.int .i64 wi) ∧ u.cell? ⟨E, 4, none⟩ = some (.int .i64 l) ∧ u.cell? ⟨E, 5, none⟩ = some (.int .i64 sz) ∧ u.cell? ⟨E, 6, none⟩ = some (.int .i64 f) ∧ u.cell? ⟨E, 7, none⟩ = some (.int .i64 t)) (go_keep) (fail)
  first | refine bodyPost_ret (results_none rfl _ _ _) rfl ?_ | go_end0
  exact ⟨rfl, HB.out.1.delLk (l := ⟨o, -1, []⟩) HB.out.2 fW HF.out gW M1 (by simp [lkFree]), b1, .inr (.inl rfl), grown_trans fW.wide gW⟩

set_option maxRecDepth 20000 in
set_option maxHeartbeats 2000000 in
theorem do_make {lo : Nat × Nat} {b b1 b2 b3 b4 n : Nat} {m : Scn} (gr o wi l sz f t : Int) (w : World) (h : BoardW lo w b b1 b2 b3 b4 n m) (hm : scB m = true) (hn : n < 4000000) (ho : I64 o) :
    Calls Tryz.prog 102 #[.pointer (some ⟨b, 0, none⟩), .agg #[.int .i64 6, .int .i64 gr, .int .i64 o, .int .i64 wi, .int .i64 l, .int .i64 sz, .int .i64 f, .int .i64 t]] w fun y w' => y = .returned (.tuple #[]) ∧ BoardW lo w' b b1 b2 b3 b4 (n + 1) (setCh m ⟨o, sz, 0, 0, false⟩) ∧ ∃ x, On b b1 b2 b3 b4 x ∧ w.grownBy w' (some x) := by
  have fW := Fr.alloc w (.cells #[.int .i64 6, .int .i64 gr, .int .i64 o, .int .i64 wi, .int .i64 l, .int .i64 sz, .int .i64 f, .int .i64 t] 31)
  have kE := EvB.new w ⟨6, gr, o, wi, l, sz, f, t⟩
  simp only at kE
  have cM := h.toM.c2
  have hbl := h.blt
  have hlt := h.lt
  have HB : Hid (BoardW lo w b b1 b2 b3 b4 n m ∧ scB m = true) := ⟨h, hm⟩
  have M := h.m2
  have _ := hn
  clear h hm
  go_enter Tryz.func102, Tryz.ntmps102
  go_wp2_with fail
  obtain ⟨W, hW⟩ : ∃ W, W = w.alloc (.cells #[.int .i64 6, .int .i64 gr, .int .i64 o, .int .i64 wi, .int .i64 l, .int .i64 sz, .int .i64 f, .int .i64 t] 31) := ⟨_, rfl⟩
  rw [← hW] at fW kE ⊢
  clear hW
  have hne : ¬ (some w.heap.size = some b2) := fun q => by simp only [Option.some.injEq] at q; omega
  have hne2 : ¬ (some b = some b2) := fun q => by simp only [Option.some.injEq] at q; omega
  obtain ⟨E, hE⟩ : ∃ E, E = w.heap.size := ⟨_, rfl⟩
  rw [← hE] at kE hne ⊢
  clear hE
  have cM := fW.cell cM
  obtain ⟨w1, hrun, M1, g1⟩ := ((M.fr fW).fr (Fr.drew W)).put Tryz.underlying132 (by unfold maxLen; omega) ho (.agg #[.int .i64 o, .int .i64 sz, .int .i64 0, .int .i64 0, .bool false])
  have gW : W.grownBy w1 (some b2) := grown_trans (grown_draw W 1 _) g1
  obtain ⟨y0, y1, y2, y3, y4, y5, y6, y7⟩ := kE.at
  obtain ⟨z0, z1, z2, z3, z4, z5, z6, z7⟩ := (kE.keep gW (fun q => hne q.symm)).at
  have x2 := gW.cell cM hne2
  simp only at y0 y1 y2 y3 y4 y5 y6 y7 z0 z1 z2 z3 z4 z5 z6 z7
  clear M kE
  go_region_held3 (fun u => u.cell? ⟨b, 2, none⟩ = some (.map (some b2)) ∧ u.cell? ⟨E, 0, none⟩ = some (.int .i64 6) ∧ u.cell? ⟨E, 1, none⟩ = some (.int .i64 gr) ∧ u.cell? ⟨E, 2, none⟩ = some (.int .i64 o) ∧ u.cell? ⟨E, 3, none⟩ = some (.int .i64 wi) ∧ u.cell? ⟨E, 4, none⟩ = some (.int .i64 l) ∧ u.cell? ⟨E, 5, none⟩ = some (.int .i64 sz) ∧ u.cell? ⟨E, 6, none⟩ = some (.int .i64 f) ∧ u.cell? ⟨E, 7, none⟩ = some (.int .i64 t)) (go_keep) (fail)
  first | refine bodyPost_ret (results_none rfl _ _ _) rfl ?_ | go_end0
  exact ⟨rfl, (HB.out.1.fr fW).setC (c := ⟨o, sz, 0, 0, false⟩) HB.out.2 (Nat.le_succ n) gW M1, b2, .inr (.inr (.inl rfl)), grown_trans fW.wide gW⟩

set_option maxRecDepth 20000 in
set_option maxHeartbeats 2000000 in
theorem do_once {lo : Nat × Nat} {b b1 b2 b3 b4 n : Nat} {m : Scn} (gr o wi l sz f t : Int) (w : World) (h : BoardW lo w b b1 b2 b3 b4 n m) (hm : scB m = true) (hn : n < 4000000) (ho : I64 o) :
    Calls Tryz.prog 102 #[.pointer (some ⟨b, 0, none⟩), .agg #[.int .i64 15, .int .i64 gr, .int .i64 o, .int .i64 wi, .int .i64 l, .int .i64 sz, .int .i64 f, .int .i64 t]] w fun y w' => y = .returned (.tuple #[]) ∧ BoardW lo w' b b1 b2 b3 b4 (n + 1) ({ m with os := withL m.os o }) ∧ ∃ x, On b b1 b2 b3 b4 x ∧ w.grownBy w' (some x) := by
  have fW := Fr.alloc w (.cells #[.int .i64 15, .int .i64 gr, .int .i64 o, .int .i64 wi, .int .i64 l, .int .i64 sz, .int .i64 f, .int .i64 t] 31)
  have kE := EvB.new w ⟨15, gr, o, wi, l, sz, f, t⟩
  simp only at kE
  have cM := h.toM.c4
  have hbl := h.blt
  have hlt := h.lt
  have HB : Hid (BoardW lo w b b1 b2 b3 b4 n m ∧ scB m = true) := ⟨h, hm⟩
  have M := h.m4
  have _ := hn
  clear h hm
  go_enter Tryz.func102, Tryz.ntmps102
  go_wp2_with fail
  obtain ⟨W, hW⟩ : ∃ W, W = w.alloc (.cells #[.int .i64 15, .int .i64 gr, .int .i64 o, .int .i64 wi, .int .i64 l, .int .i64 sz, .int .i64 f, .int .i64 t] 31) := ⟨_, rfl⟩
  rw [← hW] at fW kE ⊢
  clear hW
  have hne : ¬ (some w.heap.size = some b4) := fun q => by simp only [Option.some.injEq] at q; omega
  have hne2 : ¬ (some b = some b4) := fun q => by simp only [Option.some.injEq] at q; omega
  obtain ⟨E, hE⟩ : ∃ E, E = w.heap.size := ⟨_, rfl⟩
  rw [← hE] at kE hne ⊢
  clear hE
  have cM := fW.cell cM
  obtain ⟨w1, hrun, M1, g1⟩ := ((M.fr fW).fr (Fr.drew W)).put Tryz.underlying138 (by unfold maxLen; omega) ho (.int .i64 o)
  have gW : W.grownBy w1 (some b4) := grown_trans (grown_draw W 1 _) g1
  obtain ⟨y0, y1, y2, y3, y4, y5, y6, y7⟩ := kE.at
  obtain ⟨z0, z1, z2, z3, z4, z5, z6, z7⟩ := (kE.keep gW (fun q => hne q.symm)).at
  have x2 := gW.cell cM hne2
  simp only at y0 y1 y2 y3 y4 y5 y6 y7 z0 z1 z2 z3 z4 z5 z6 z7
  clear M kE
  go_region_held3 (fun u => u.cell? ⟨b, 4, none⟩ = some (.map (some b4)) ∧ u.cell? ⟨E, 0, none⟩ = some (.int .i64 15) ∧ u.cell? ⟨E, 1, none⟩ = some (.int .i64 gr) ∧ u.cell? ⟨E, 2, none⟩ = some (.int .i64 o) ∧ u.cell? ⟨E, 3, none⟩ = some (.int .i64 wi) ∧ u.cell? ⟨E, 4, none⟩ = some (.int .i64 l) ∧ u.cell? ⟨E, 5, none⟩ = some (.int .i64 sz) ∧ u.cell? ⟨E, 6, none⟩ = some (.int .i64 f) ∧ u.cell? ⟨E, 7, none⟩ = some (.int .i64 t)) (go_keep) (fail)
  first | refine bodyPost_ret (results_none rfl _ _ _) rfl ?_ | go_end0
  exact ⟨rfl, (HB.out.1.fr fW).setO HB.out.2 (Nat.le_succ n) gW M1, b4, .inr (.inr (.inr (.inr rfl))), grown_trans fW.wide gW⟩

set_option maxRecDepth 20000 in
set_option maxHeartbeats 2000000 in
theorem do_go {lo : Nat × Nat} {b b1 b2 b3 b4 n : Nat} {m : Scn} (gr o wi l sz f t : Int) (w : World) (h : BoardW lo w b b1 b2 b3 b4 n m) (hm : scB m = true) (hn : n < 4000000) (hg : m.g ≤ 1000) :
    Calls Tryz.prog 102 #[.pointer (some ⟨b, 0, none⟩), .agg #[.int .i64 1, .int .i64 gr, .int .i64 o, .int .i64 wi, .int .i64 l, .int .i64 sz, .int .i64 f, .int .i64 t]] w fun y w' => y = .returned (.tuple #[]) ∧ BoardW lo w' b b1 b2 b3 b4 (n + 1) ({ m with g := m.g + 1 }) ∧ ∃ x, On b b1 b2 b3 b4 x ∧ w.grownBy w' (some x) := by
  have fW := Fr.alloc w (.cells #[.int .i64 1, .int .i64 gr, .int .i64 o, .int .i64 wi, .int .i64 l, .int .i64 sz, .int .i64 f, .int .i64 t] 31)
  have kE := EvB.new w ⟨1, gr, o, wi, l, sz, f, t⟩
  simp only at kE
  have g0 := h.toM.c0
  have hr := frozen_of_row w b 0 _ _ h.row
  have hg1 := ((scB_iff m).1 hm).1.1
  have HB : Hid (BoardW lo w b b1 b2 b3 b4 n m) := h
  have hbl := h.blt
  have _ := hn
  clear h hm
  obtain ⟨g, hgg⟩ : ∃ g, g = m.g := ⟨_, rfl⟩
  rw [← hgg] at g0 hg hg1
  have HG : Hid (g = m.g) := hgg
  clear hgg
  have hw : IntKind.i64.wrap (g + 1) = g + 1 := by rw [IntKind.wrap_i64]; omega
  go_enter Tryz.func102, Tryz.ntmps102
  go_wp2_with fail
  first | refine bodyPost_ret (results_none rfl _ _ _) rfl ?_ | go_end0
  refine ⟨rfl, ?_, b, .inl rfl, grown_trans (grown_set _ _ _ _) (Fr.alloc _ _).wide⟩
  have q := ((HB.out.setG (g + 1)).fr (Fr.alloc (w.setCell ⟨b, 0, none⟩ (.int .i64 (g + 1))) (.cells #[.int .i64 1, .int .i64 gr, .int .i64 o, .int .i64 wi, .int .i64 l, .int .i64 sz, .int .i64 f, .int .i64 t] 31))).mono (Nat.le_succ n)
  rw [HG.out] at q ⊢
  exact q

set_option maxRecDepth 20000 in
set_option maxHeartbeats 2000000 in
theorem do_none {lo : Nat × Nat} {b b1 b2 b3 b4 n : Nat} {m : Scn} (k gr o wi l sz f t : Int) (w : World) (h : BoardW lo w b b1 b2 b3 b4 n m) (hm : scB m = true) (hn : n < 4000000) (hk : k ≠ 1 ∧ k ≠ 2 ∧ k ≠ 3 ∧ k ≠ 4 ∧ k ≠ 5 ∧ k ≠ 6 ∧ k ≠ 7 ∧ k ≠ 8 ∧ k ≠ 10 ∧ k ≠ 12 ∧ k ≠ 13 ∧ k ≠ 15) :
    Calls Tryz.prog 102 #[.pointer (some ⟨b, 0, none⟩), .agg #[.int .i64 k, .int .i64 gr, .int .i64 o, .int .i64 wi, .int .i64 l, .int .i64 sz, .int .i64 f, .int .i64 t]] w fun y w' => y = .returned (.tuple #[]) ∧ BoardW lo w' b b1 b2 b3 b4 (n + 1) (m) ∧ ∃ x, On b b1 b2 b3 b4 x ∧ w.grownBy w' (some x) := by
  have fW := Fr.alloc w (.cells #[.int .i64 k, .int .i64 gr, .int .i64 o, .int .i64 wi, .int .i64 l, .int .i64 sz, .int .i64 f, .int .i64 t] 31)
  have kE := EvB.new w ⟨k, gr, o, wi, l, sz, f, t⟩
  simp only at kE
  obtain ⟨n1, n2, n3, n4, n5, n6, n7, n8, n10, n12, n13, n15⟩ := hk
  have q1 : (k == 1) = false := by simpa using n1
  have q2 : (k == 2) = false := by simpa using n2
  have q3 : (k == 3) = false := by simpa using n3
  have q4 : (k == 4) = false := by simpa using n4
  have q5 : (k == 5) = false := by simpa using n5
  have q6 : (k == 6) = false := by simpa using n6
  have q7 : (k == 7) = false := by simpa using n7
  have q8 : (k == 8) = false := by simpa using n8
  have q10 : (k == 10) = false := by simpa using n10
  have q12 : (k == 12) = false := by simpa using n12
  have q13 : (k == 13) = false := by simpa using n13
  have q15 : (k == 15) = false := by simpa using n15
  clear n1 n2 n3 n4 n5 n6 n7 n8 n10 n12 n13 n15
  have HB : Hid (BoardW lo w b b1 b2 b3 b4 n m) := h
  have _ := And.intro hn hm
  clear h hm hn
  go_enter Tryz.func102, Tryz.ntmps102
  go_wp2_with fail
  first | refine bodyPost_ret (results_none rfl _ _ _) rfl ?_ | go_end0
  exact ⟨rfl, (HB.out.fr fW).mono (Nat.le_succ n), b, .inl rfl, fW.wide⟩

theorem lockTo_2 {m : Scn} {e : Ev} (hm : scB m = true) (hR : restCode m e = 0) (hk : e.k = 2) : lockTo m e = ⟨e.o, e.g, []⟩ := by
  obtain ⟨lo, ll⟩ := lock_all hm e.o
  unfold restCode at hR
  rw [if_pos (by omega)] at hR
  unfold lockCode at hR
  unfold lockTo
  rw [if_pos hk] at hR ⊢
  generalize lockOf m.ls e.o = L at lo ll hR ⊢
  obtain ⟨o1, w1, r1⟩ := L
  split at hR
  · cases hR
  · rename_i q
    simp only at lo q ⊢
    have : r1 = [] := List.eq_nil_of_length_eq_zero (by omega)
    rw [lo, this]
theorem lockTo_3 {m : Scn} {e : Ev} (hm : scB m = true) (hE : evOk e = true) (hR : restCode m e = 0) (hk : e.k = 3) : lockTo m e = ⟨e.o, -1, []⟩ := by
  obtain ⟨lo, ll⟩ := lock_all hm e.o
  have hg := (evOk_k hE).2.1
  unfold restCode at hR
  rw [if_pos (by omega)] at hR
  unfold lockCode at hR
  unfold lockTo
  rw [if_neg (by omega), if_neg (by omega), if_pos hk] at hR
  rw [if_neg (by omega), if_pos hk]
  generalize lockOf m.ls e.o = L at lo ll hR ⊢
  obtain ⟨o1, w1, r1⟩ := L
  split at hR
  · rename_i q
    simp only at lo q ⊢
    have : r1 = [] := by
      rcases ll with h | h
      · cases h; rfl
      · obtain ⟨-, -, -, q4⟩ := (lkB_iff _ _).1 h
        simp only at q4
        rcases q4 with q4 | q4
        · exact q4.2
        · omega
    rw [lo, this]
  · cases hR
theorem lockZ_rdof {m : Scn} (hm : scB m = true) (o : Int) : (lockOf m.ls o).rd = (lockZ m o).rd := by
  rcases lock_in hm o with ⟨-, h2, h3⟩ | ⟨-, h2, -⟩
  · rw [h2, h3]
  · rw [h2]
theorem lockTo_4 {m : Scn} {e : Ev} (hm : scB m = true) (hR : restCode m e = 0) (hk : e.k = 4) : lockTo m e = ⟨e.o, -1, withL (lockZ m e.o).rd e.g⟩ := by
  obtain ⟨lo, ll⟩ := lock_all hm e.o
  rw [← lockZ_rdof hm]
  unfold restCode at hR
  rw [if_pos (by omega)] at hR
  unfold lockCode at hR
  unfold lockTo
  rw [if_neg (by omega), if_pos hk] at hR
  rw [if_neg (by omega), if_neg (by omega), if_pos hk]
  generalize lockOf m.ls e.o = L at lo ll hR ⊢
  obtain ⟨o1, w1, r1⟩ := L
  split at hR
  · cases hR
  · rename_i q
    simp only at lo q ⊢
    have : w1 = -1 := by
      rcases ll with h | h
      · cases h; rfl
      · obtain ⟨-, -, q3, -⟩ := (lkB_iff _ _).1 h
        simp only at q3
        omega
    rw [lo, this]
theorem lockTo_5 {m : Scn} {e : Ev} (hm : scB m = true) (hR : restCode m e = 0) (hk : e.k = 5) : lockTo m e = ⟨e.o, -1, outL (lockZ m e.o).rd e.g⟩ := by
  obtain ⟨lo, ll⟩ := lock_all hm e.o
  rw [← lockZ_rdof hm]
  unfold restCode at hR
  rw [if_pos (by omega)] at hR
  unfold lockCode at hR
  unfold lockTo
  rw [if_neg (by omega), if_neg (by omega), if_neg (by omega), if_pos hk] at hR
  rw [if_neg (by omega), if_neg (by omega), if_neg (by omega)]
  generalize lockOf m.ls e.o = L at lo ll hR ⊢
  obtain ⟨o1, w1, r1⟩ := L
  split at hR
  · rename_i q
    have hin := (memB_iff _ _).1 q
    simp only at lo hin ⊢
    have : w1 = -1 := by
      rcases ll with h | h
      · cases h; simp at hin
      · obtain ⟨-, -, q3, q4⟩ := (lkB_iff _ _).1 h
        simp only at q3 q4
        rcases q4 with q4 | q4
        · rw [q4.2] at hin; simp at hin
        · omega
    rw [lo, this]
  · cases hR
theorem chan_had {m : Scn} {e : Ev} (hR : restCode m e = 0) (hk : e.k = 7 ∨ e.k = 8 ∨ e.k = 10) : isChan m.cs e.o = true := by
  unfold restCode at hR
  rw [if_neg (by omega), if_pos (by omega)] at hR
  unfold chanCode at hR
  cases q : isChan m.cs e.o
  · rw [q, if_pos (by simp; omega)] at hR
    cases hR
  · rfl
theorem chan_made {m : Scn} {e : Ev} (hR : restCode m e = 0) (hk : e.k = 6) : chanTo m e = ⟨e.o, e.s, 0, 0, false⟩ := by
  unfold restCode at hR
  rw [if_neg (by omega), if_pos (by omega)] at hR
  unfold chanCode at hR
  rcases chan_z m e.o with ⟨z1, z2, -⟩ | ⟨z1, z2⟩
  · unfold chanTo
    rw [if_pos hk, z2]
  · rw [z1, if_pos (by simp [hk])] at hR
    cases hR

set_option maxHeartbeats 1000000 in
theorem do_any {lo : Nat × Nat} {b b1 b2 b3 b4 n : Nat} {m : Scn} (e : Ev) (w : World) (h : BoardW lo w b b1 b2 b3 b4 n m) (hc : codeIn m e = 0) (hn : n < 4000000) :
    Calls Tryz.prog 102 #[.pointer (some ⟨b, 0, none⟩), .agg #[.int .i64 e.k, .int .i64 e.g, .int .i64 e.o, .int .i64 e.w, .int .i64 e.l, .int .i64 e.s, .int .i64 e.f, .int .i64 e.t]] w fun y w' => y = .returned (.tuple #[]) ∧ BoardW lo w' b b1 b2 b3 b4 (n + 1) (doS m e) ∧ ∃ x, On b b1 b2 b3 b4 x ∧ w.grownBy w' (some x) := by
  obtain ⟨hE, hm, hG, hR⟩ := code_parts hc
  obtain ⟨⟨k1, k2⟩, g1, g2⟩ := evOk_k hE
  have ho : I64 e.o := i64_small (by have := evOk_o hE; omega)
  have hg : I64 e.g := i64_small (by omega)
  have t2 := lockTo_2 hm hR
  have t3 := lockTo_3 hm hE hR
  have t4 := lockTo_4 hm hR
  have t5 := lockTo_5 hm hR
  have t6 := chan_made hR
  have th := chan_had hR
  have ta := evOk_add hE
  have hg16 := ((scB_iff m).1 hm).1.2
  clear hE hG hR hc
  unfold doS
  obtain ⟨k, gr, o, wi, l, sz, f, t⟩ := e
  simp only at *
  have hk : k = 1 ∨ k = 2 ∨ k = 3 ∨ k = 4 ∨ k = 5 ∨ k = 6 ∨ k = 7 ∨ k = 8 ∨ k = 10 ∨ k = 12 ∨ k = 13 ∨ k = 15 ∨ (k ≠ 1 ∧ k ≠ 2 ∧ k ≠ 3 ∧ k ≠ 4 ∧ k ≠ 5 ∧ k ≠ 6 ∧ k ≠ 7 ∧ k ≠ 8 ∧ k ≠ 10 ∧ k ≠ 12 ∧ k ≠ 13 ∧ k ≠ 15) := by omega
  rcases hk with rfl | rfl | rfl | rfl | rfl | rfl | rfl | rfl | rfl | rfl | rfl | rfl | hk
  · simpa using do_go gr o wi l sz f t w h hm hn (by omega)
  · rw [if_neg (by omega), if_pos (by omega), t2 rfl]
    exact do_lock gr o wi l sz f t w h hm hn ho (by omega)
  · rw [if_neg (by omega), if_pos (by omega), t3 rfl]
    exact do_unlock gr o wi l sz f t w h hm hn ho
  · rw [if_neg (by omega), if_pos (by omega), t4 rfl]
    exact do_rlock gr o wi l sz f t w h hm hn ho hg
  · rw [if_neg (by omega), if_pos (by omega), t5 rfl]
    exact do_runlock gr o wi l sz f t w h hm hn ho
  · rw [if_neg (by omega), if_neg (by omega), if_pos (by omega), t6 rfl]
    exact do_make gr o wi l sz f t w h hm hn ho
  · rw [if_neg (by omega), if_neg (by omega), if_pos (by omega)]
    exact do_send gr o wi l sz f t w h hm hn ho (th (by omega))
  · rw [if_neg (by omega), if_neg (by omega), if_pos (by omega)]
    exact do_recv gr o wi l sz f t w h hm hn ho (th (by omega))
  · rw [if_neg (by omega), if_neg (by omega), if_pos (by omega)]
    exact do_close gr o wi l sz f t w h hm hn ho (th (by omega))
  · rw [if_neg (by omega), if_neg (by omega), if_neg (by omega), if_pos rfl]
    exact do_add gr o wi l sz f t w h hm hn ho (ta rfl)
  · rw [if_neg (by omega), if_neg (by omega), if_neg (by omega), if_neg (by omega), if_pos rfl, Int.sub_eq_add_neg]
    exact do_done gr o wi l sz f t w h hm hn ho
  · rw [if_neg (by omega), if_neg (by omega), if_neg (by omega), if_neg (by omega), if_neg (by omega), if_pos rfl]
    exact do_once gr o wi l sz f t w h hm hn ho
  · rw [if_neg (by omega), if_neg (by omega), if_neg (by omega), if_neg (by omega), if_neg (by omega), if_neg (by omega)]
    exact do_none k gr o wi l sz f t w h hm hn hk
end Go.Proofs.YtcofhmikdkkigaaGreatDoor
