/-
  Pack BJ: Rank.
-/
import Derived.Test.YtplnijpolkflcaaGreatDoorPqBI
import Derived.Test.YtplnijpolkflcaaGreatDoorPqAY
namespace Go.Proofs.YtplnijpolkflcaaGreatDoor
open Go.RowKit

def layR : Lay (Nat × Nat) where
  ty := 102
  sz := 10
  cs r := [.int .u64 (wd r.1 0), .int .u64 (wd r.1 1), .int .u64 (wd r.1 2), .int .u64 (wd r.1 3), .int .u64 (wd r.1 4), .int .u64 (wd r.2 0), .int .u64 (wd r.2 1), .int .u64 (wd r.2 2), .int .u64 (wd r.2 3), .int .u64 (wd r.2 4)]
  pos := by omega
  len _ := rfl
  one x u hu := by
    simp only [List.mem_cons, List.not_mem_nil, or_false] at hu
    rcases hu with rfl | rfl | rfl | rfl | rfl | rfl | rfl | rfl | rfl | rfl <;> rfl
def Wds (l : List Value) : Prop := ∀ v ∈ l, ∃ x, v = .int .u64 x
theorem Wds.app {l l' : List Value} (h : Wds l) (h' : Wds l') : Wds (l ++ l') := fun v hv => by
  rcases List.mem_append.1 hv with q | q
  · exact h v q
  · exact h' v q
theorem Wds.take {l : List Value} (h : Wds l) (n : Nat) : Wds (l.take n) := fun v hv => h v (List.mem_of_mem_take hv)
theorem Wds.drop {l : List Value} (h : Wds l) (n : Nat) : Wds (l.drop n) := fun v hv => h v (List.mem_of_mem_drop hv)
theorem wds_rank (r : Nat × Nat) : Wds (layR.cs r) := fun v hv => by
  simp only [layR, List.mem_cons, List.not_mem_nil, or_false] at hv
  rcases hv with rfl | rfl | rfl | rfl | rfl | rfl | rfl | rfl | rfl | rfl <;> exact ⟨_, rfl⟩
theorem wds_flat (rs : List (Nat × Nat)) : Wds (rs.flatMap layR.cs) := fun v hv => by
  obtain ⟨r, _, hr⟩ := List.mem_flatMap.1 hv
  exact wds_rank r v hr
def OwnR (w : World) (base : Nat) (v : Value) (rs : List (Nat × Nat)) : Prop :=
  ∃ g cap cur, v = .slice (some ⟨g, 0, none⟩) rs.length cap ∧ base ≤ g ∧ w.heap[g]? = some (.cells cur 102 (0, 0)) ∧ rs.length ≤ cap ∧ cap ≤ maxLen ∧ cur.size = cap * 10 ∧ cur.toList.take (rs.length * 10) = rs.flatMap layR.cs ∧ Wds cur.toList ∧ rs.length ≤ 1000
theorem OwnR.keep {w w' : World} {base : Nat} {v : Value} {rs : List (Nat × Nat)} {row : Option Nat} (h : OwnR w base v rs) (k : w.grownBy w' row) (hne : v.ownBlock ≠ row) : OwnR w' base v rs := by
  obtain ⟨g, cap, cur, rfl, h1, h2, h3⟩ := h
  exact ⟨g, cap, cur, rfl, h1, (k.block g (Array.getElem?_eq_some_iff.1 h2).1 hne).trans h2, h3⟩
theorem OwnR.fr {w w' : World} {base : Nat} {v : Value} {rs : List (Nat × Nat)} (h : OwnR w base v rs) (k : Fr w w') : OwnR w' base v rs := by
  obtain ⟨g, cap, cur, rfl, h1, h2, h3⟩ := h
  exact ⟨g, cap, cur, rfl, h1, (k.block g (Array.getElem?_eq_some_iff.1 h2).1 (by simp)).trans h2, h3⟩
theorem OwnR.keepS {S : Nat → Prop} {w w' : World} {base : Nat} {v : Value} {rs : List (Nat × Nat)} (h : OwnR w base v rs) (k : FrS S w w') (hs : ∀ x, v.ownBlock = some x → ¬ S x) : OwnR w' base v rs := by
  obtain ⟨g, cap, cur, rfl, h1, h2, h3⟩ := h
  exact ⟨g, cap, cur, rfl, h1, (k.block g (Array.getElem?_eq_some_iff.1 h2).1 (hs g rfl)).trans h2, h3⟩
theorem OwnR.ge {w : World} {base : Nat} {v : Value} {rs : List (Nat × Nat)} (h : OwnR w base v rs) : ∃ g, v.ownBlock = some g ∧ base ≤ g ∧ g < w.heap.size := by
  obtain ⟨g, cap, cur, rfl, h1, h2, h3⟩ := h
  exact ⟨g, rfl, h1, (Array.getElem?_eq_some_iff.1 h2).1⟩
theorem OwnR.words {w : World} {base : Nat} {v : Value} {rs : List (Nat × Nat)} (h : OwnR w base v rs) : ∀ g, v.ownBlock = some g → ∀ o u, w.cell? ⟨g, o, none⟩ = some u → ∃ x, u = .int .u64 x := by
  obtain ⟨g, cap, cur, rfl, h1, h2, h3, h4, h5, h6, h7, h8⟩ := h
  intro g' hg o u hu
  simp only [Value.ownBlock, Option.some.injEq] at hg
  subst hg
  rw [cell_of_row _ _ _ _ _ _ h2] at hu
  exact h7 u (Array.mem_toList_iff.2 (Array.mem_of_getElem? hu))
theorem OwnR.reads {w : World} {base g n cap : Nat} {rs : List (Nat × Nat)} (h : OwnR w base (.slice (some ⟨g, 0, none⟩) n cap) rs) : ReadsG layR w (some ⟨g, 0, none⟩) rs ∧ n = rs.length ∧ RowAt w g 102 := by
  obtain ⟨g', cap', cur, e, h1, h2, h3, h4, h5, h6, h7, h8⟩ := h
  simp only [Value.slice.injEq, Option.some.injEq, Addr.mk.injEq, and_true] at e
  obtain ⟨rfl, rfl, rfl⟩ := e
  exact ⟨own_readsG (L := layR) (base := base) (cap := cap) ⟨by rw [← h6, List.length_take]; have q : cur.toList.length = cap * 10 := (by simp [h5]); have q2 : layR.sz = 10 := rfl; rw [q2]; omega, .inr ⟨g, cap, cur, rfl, h1, h2, h3, h4, h5, h6⟩⟩ (by omega), rfl, ⟨cur, h2⟩⟩
theorem ownR_new (w : World) (base : Nat) (hb : base ≤ w.heap.size) : OwnR (w.alloc (.cells #[] 102)) base (.slice (some ⟨w.heap.size, 0, none⟩) 0 0) [] :=
  ⟨w.heap.size, 0, #[], rfl, hb, heap_alloc_new w _, Nat.le_refl _, by unfold maxLen; omega, by simp, by simp, fun v hv => by simp at hv, by simp⟩
theorem infoR : (Tryz.prog.info? 102).map (fun i => (i.zero, i.size, i.bytes)) = some (some (.agg #[.int .u64 0, .int .u64 0, .int .u64 0, .int .u64 0, .int .u64 0, .int .u64 0, .int .u64 0, .int .u64 0, .int .u64 0, .int .u64 0]), 10, 80) := by kernel_rfl

theorem appR (w : World) {ops : Array Oper} {rest : List Oper} {o : Oper} {a : Act} {Q : Exit → Act → World → Prop} (hgd : o.guard = none) (s x : Operand)
    (ho : o.op = .call { callee := .builtin .append, args := #[s, x], argTypes := #[113, 113] })
    (base : Nat) (v : Value) (rs : List (Nat × Nat)) (r : Nat × Nat) (hs : a.eval s = v) (hown : OwnR w base v rs)
    (b c : Nat) (hx : a.eval x = .slice (some ⟨b, 0, none⟩) 1 c) (hnew : ∀ k, k < 10 → w.cell? ⟨b, k, none⟩ = (layR.cs r)[k]?)
    (hlen : rs.length ≤ 999) (hbase : base ≤ w.heap.size)
    (h : ∀ v' w', OwnR w' base v' (rs ++ [r]) → w.grownBy w' v.ownBlock → (v'.ownBlock = v.ownBlock ∨ v'.ownBlock = some w.heap.size) → wpList Tryz.prog ops Q rest (a.put o.dst v') w') : wpList Tryz.prog ops Q (o :: rest) a w := by
  obtain ⟨i0, hi, hz0, hz1, hz2⟩ := info_parts infoR
  obtain ⟨g, cap, cur, rfl, h1, h2, h3, h4, h5, h6, h7, h8⟩ := hown
  have hnews : ∀ j u, (layR.cs r)[j]? = some u → w.cell? ((⟨b, 0, none⟩ : Addr).add j) = some u := by
    intro j u hu
    rw [Addr.add_lit]
    have hj : j < 10 := by
      have := (List.getElem?_eq_some_iff.1 hu).1
      rwa [layR.len] at this
    rw [Nat.zero_add, hnew j hj, hu]
  have hl : (layR.cs r).length = 1 * i0.size := by rw [hz1, layR.len]; rfl
  have hfl : (rs ++ [r]).flatMap layR.cs = rs.flatMap layR.cs ++ layR.cs r := by simp [List.flatMap_append]
  have hfn : (rs.flatMap layR.cs).length = rs.length * 10 := by rw [← h6, List.length_take]; have q : cur.toList.length = cap * 10 := (by simp [h5]); omega
  obtain ⟨v', w', hr, q1, q2, q3⟩ : ∃ v' w', (Builtin.append_ #[113, 113] o.type #[.slice (some ⟨g, 0, none⟩) rs.length cap, .slice (some ⟨b, 0, none⟩) 1 c]).run Tryz.prog w = .ok v' w' ∧ OwnR w' base v' (rs ++ [r]) ∧ w.grownBy w' (some g) ∧ (v'.ownBlock = some g ∨ v'.ownBlock = some w.heap.size) := by
    by_cases hroom : rs.length + 1 ≤ cap
    · have hfit : rs.length * i0.size + (layR.cs r).length ≤ cur.size := by
        rw [hz1, layR.len, h5]
        show rs.length * 10 + 10 ≤ cap * 10
        omega
      have hr := run_append_room (P := Tryz.prog) w 113 o.type 102 i0 Tryz.underlying113 hi g rs.length cap cur h2 ⟨b, 0, none⟩ 1 c (layR.cs r) hl hnews (layR.one r) hroom hfit
      rw [hz1] at hr
      refine ⟨_, _, hr, ?_, ⟨rfl, rfl, rfl, by simp [World.setRow], fun k _ hk => setRow_other w g k _ (fun e => hk (by rw [e]))⟩, .inl rfl⟩
      refine ⟨g, cap, _, by simp, h1, setRow_heap w g cur _ _ _ h2, by simpa using hroom, h4, ?_, ?_, ?_, by simp; omega⟩
      · have hcl : cur.toList.length = cap * 10 := by rw [Array.length_toList, h5]
        simp only [List.size_toArray, List.length_append, List.length_take, List.length_drop, hcl, layR.len]
        have : layR.sz = 10 := rfl
        omega
      · rw [h6, hfl]
        have : (rs ++ [r]).length * 10 = (rs.flatMap layR.cs ++ layR.cs r).length := by
          rw [List.length_append, List.length_append, hfn, layR.len]
          simp only [List.length_singleton, Nat.add_mul]
          rfl
        rw [this]
        exact List.take_left
      · exact ((h7.take _).app (wds_rank r)).app (h7.drop _)
    · have holds : ∀ j u, (rs.flatMap layR.cs)[j]? = some u → w.cell? ((⟨g, 0, none⟩ : Addr).add j) = some u := by
        intro j u hu
        rw [Addr.add_lit, Nat.zero_add, cell_of_row _ _ _ _ _ _ h2, ← Array.getElem?_toList]
        rw [← h6] at hu
        rw [List.getElem?_take] at hu
        split at hu
        · exact hu
        · cases hu
      have hr := run_append_grow (P := Tryz.prog) w 113 o.type 102 i0 _ Tryz.underlying113 hi hz0 ⟨g, 0, none⟩ rs.length cap (rs.flatMap layR.cs) (by rw [hfn, hz1]) holds ⟨b, 0, none⟩ 1 c (layR.cs r) hl hnews (by omega) (by omega) (growslice_fits (by omega) (by rw [hz2]; omega))
      have hge := grownCap_ge w (rs.length + 1) cap 102
      have hcm : grownCap w (rs.length + 1) cap 102 ≤ maxLen := grownCap_le_maxLen w _ _ _ (by unfold maxLen; omega)
      refine ⟨_, _, hr, ?_, ⟨rfl, rfl, rfl, by simp, fun k hk _ => heap_alloc_old w.drew _ hk⟩, .inr rfl⟩
      refine ⟨w.heap.size, _, _, by simp, hbase, heap_alloc_new w.drew _, by simpa using hge, hcm, ?_, ?_, ?_, by simp; omega⟩
      · have hzc : (Value.agg #[.int .u64 0, .int .u64 0, .int .u64 0, .int .u64 0, .int .u64 0, .int .u64 0, .int .u64 0, .int .u64 0, .int .u64 0, .int .u64 0]).cells.size = 10 := rfl
        simp only [Array.size_append, List.size_toArray, size_zeroCells, hfn, layR.len, hzc]
        have : layR.sz = 10 := rfl
        omega
      · rw [hfl]
        simp only [Array.toList_append, List.append_assoc]
        rw [← List.append_assoc]
        have : (rs ++ [r]).length * 10 = (rs.flatMap layR.cs ++ layR.cs r).length := by
          rw [List.length_append, List.length_append, hfn, layR.len]
          simp only [List.length_singleton, Nat.add_mul]
          rfl
        rw [this]
        exact List.take_left
      · simp only [Array.toList_append]
        refine ((wds_flat rs).app (wds_rank r)).app (fun v hv => ?_)
        simp [Builtin.zeroCells, Value.cells] at hv
        obtain ⟨q, hq, rfl⟩ := hv
        have hm := Nat.mod_lt q (show 0 < 10 by omega)
        generalize q % 10 = d at hm ⊢
        rcases d with _ | _ | _ | _ | _ | _ | _ | _ | _ | _ | d <;> first | exact ⟨0, rfl⟩ | omega
  refine wpList_plain hgd fun K hK => ?_
  unfold Oper.wp execOp
  simp only [ho, resolve, invoke, builtin, Sem.run_bind, Sem.run_pure, Result.andThen_ok, List.map_toArray, List.map_cons, List.map_nil, hs, hx, hr]
  exact hK _ _ (h v' w' q1 q2 q3)

theorem BoardW.keepU {w w' : World} {lo : Nat × Nat} {b b1 b2 b3 b4 n g : Nat} {m : Scn} (h : BoardW lo w b b1 b2 b3 b4 n m) (k : w.grownBy w' (some g)) (hu : ∀ o u, w.cell? ⟨g, o, none⟩ = some u → ∃ x, u = .int .u64 x) (hg : ¬ On b b1 b2 b3 b4 g) : BoardW lo w' b b1 b2 b3 b4 n m := by
  have ne : ∀ x, On b b1 b2 b3 b4 x → ¬ (some x = some g) := fun x hx q => hg (by simp only [Option.some.injEq] at q; subst q; exact hx)
  obtain ⟨fl, q1, q2⟩ := h.m1
  refine ⟨⟨h.ge.1, h.ge.2.1, Nat.le_trans h.ge.2.2 k.size⟩, (k.block b h.blt (ne b (.inl rfl))).trans h.row, h.lt, ⟨fl, q1.keep k (ne _ (.inr (.inl rfl))), fun o => ?_⟩, h.m2.keep k (ne _ (.inr (.inr (.inl rfl)))), h.m3.keep k (ne _ (.inr (.inr (.inr (.inl rfl))))), h.m4.keep k (ne _ (.inr (.inr (.inr (.inr rfl)))))⟩
  rcases q2 o with q | ⟨lk, lv, e1, e2, h3⟩
  · exact .inl q
  · refine .inr ⟨lk, lv, e1, e2, ⟨h3.o, h3.wr, h3.rn, ⟨h3.rd.len, h3.rd.bd, fun i hi => ?_⟩, h3.bl, h3.rc, h3.sz, h3.io, h3.iw⟩⟩
    obtain ⟨x, off, e, hc⟩ := h3.rd.at_ i hi
    refine ⟨x, off, e, fun j hj => k.cell (hc j hj) (fun q => ?_)⟩
    simp only [Option.some.injEq] at q
    subst q
    obtain ⟨y, hy⟩ := hu _ _ (hc j hj)
    cases hy
theorem PastW.keepU {lo : Nat × Nat} {w w' : World} {p gm b b1 b2 b3 b4 nb nm g : Nat} {m : Scn} {st la : Nat → Nat} {G : Int → Int → Int → Nat} (h : PastW lo w p gm b b1 b2 b3 b4 nb nm m st la G) (k : w.grownBy w' (some g)) (hu : ∀ o u, w.cell? ⟨g, o, none⟩ = some u → ∃ x, u = .int .u64 x) (hg : p < g ∨ g < b1) : PastW lo w' p gm b b1 b2 b3 b4 nb nm m st la G := by
  obtain ⟨n1, n2, n3, n4⟩ := h.ne
  have hl := h.bd.lt
  have hne : ¬ (some p = some g) := by simp only [Option.some.injEq]; omega
  have hpl := h.row.lt
  obtain ⟨cur, hc⟩ := h.row
  exact ⟨h.bd.keepU k hu (by unfold On; omega), k.cell h.pt hne, k.cell h.mp hne, fun g hg q hq => k.cell (h.st g hg q hq) hne, fun g hg q hq => k.cell (h.la g hg q hq) hne, ⟨cur, (k.block p hpl (fun q => hne (by rw [q]))).trans hc⟩, h.mt.keep k (by simp only [ne_eq, Option.some.injEq]; omega), h.ne⟩

def pastArr (b g : Nat) : Array Value := (.pointer (some ⟨b, 0, none⟩) :: (List.replicate 160 (.int .u64 0) ++ [.map (some g)])).toArray
theorem past_made {u V : World} {b b1 b2 b3 b4 : Nat} {arr : Array Value} (harr : arr = pastArr b u.heap.size) (BB : ∀ (lo : Nat) (v : World), Fr u v → b < lo → lo ≤ v.heap.size → BoardW (0, lo) v b b1 b2 b3 b4 1048576 scn0) (hb : b < u.heap.size) (hV : V = u.alloc (.map #[] 0)) :
    PastW (0, u.heap.size + 1 + 1) (V.alloc (.cells arr 219)) (u.heap.size + 1) u.heap.size b b1 b2 b3 b4 1048576 0 scn0 (fun _ => 0) (fun _ => 0) (fun _ _ _ => 0) ∧ (V.alloc (.cells arr 219)).heap.size = u.heap.size + 1 + 1 ∧ Fr u (V.alloc (.cells arr 219)) := by
  subst harr
  have sV : V.heap.size = u.heap.size + 1 := by rw [hV]; simp
  have f3 : Fr u V := by rw [hV]; exact Fr.alloc _ _
  have M3 : MapT V u.heap.size 0 (fun _ _ _ => 0) := by rw [hV]; exact MapT.made u
  have f4 := Fr.alloc V (.cells (pastArr b u.heap.size) 219)
  have R := heap_alloc_new V (.cells (pastArr b u.heap.size) 219)
  rw [sV] at R
  have zs : ∀ i, 1 ≤ i → i ≤ 160 → (V.alloc (.cells (pastArr b u.heap.size) 219)).cell? ⟨u.heap.size + 1, i, none⟩ = some (.int .u64 0) := by
    intro i h1 h2
    rw [cell_of_row _ _ _ _ _ _ R]
    obtain ⟨j, rfl⟩ : ∃ j, i = j + 1 := ⟨i - 1, by omega⟩
    simp only [pastArr, List.getElem?_toArray, List.getElem?_cons_succ]
    rw [List.getElem?_append_left (by simp; omega), List.getElem?_replicate, if_pos (by omega)]
  refine ⟨⟨BB _ _ (f3.trans f4) (by omega) (by simp [sV]), ?_, ?_, fun g hg k hk => ?_, fun g hg k hk => ?_, ⟨_, R⟩, M3.fr f4, by simp; omega⟩, by simp [sV], f3.trans f4⟩
  · rw [cell_of_row _ _ _ _ _ _ R]
    simp [pastArr]
  · rw [cell_of_row _ _ _ _ _ _ R]
    simp [pastArr]
  · rw [wd_zero]
    exact zs _ (by omega) (by omega)
  · rw [wd_zero]
    exact zs _ (by omega) (by omega)

set_option maxRecDepth 20000 in
set_option maxHeartbeats 1000000 in
theorem newPast_any (w : World) :
    Calls Tryz.prog 187 #[] w fun e w' => ∃ lo p gm b b1 b2 b3 b4, e = .returned (.pointer (some ⟨p, 0, none⟩)) ∧ PastW lo w' p gm b b1 b2 b3 b4 1048576 0 scn0 (fun _ => 0) (fun _ => 0) (fun _ _ _ => 0) ∧ lo.2 = p + 1 ∧ w'.heap.size = p + 1 ∧ w.heap.size ≤ b1 ∧ Fr w w' := by
  go_enter Tryz.func187, Tryz.ntmps187
  go_wp2_with fail
  refine (implNew_any (fun _ => False) w).mono ?_
  rintro x u1 ⟨s, rfl, S1, f1⟩
  go_wp2_with fail
  refine (boardNew_any s u1 S1).mono ?_
  rintro x u2 ⟨b, b1, b2, b3, b4, rfl, g1, BB, hb, f2⟩
  have hmk : ∀ u : World, Sem.run Tryz.prog (Instr.makeMap 217 none) u = .ok (.map (some u.heap.size)) (u.alloc (.map #[] 0)) := fun u => run_makeMap _ u
  have HM : Hid (∀ arr, arr = pastArr b u2.heap.size → _) := fun arr harr => past_made (u := u2) (V := u2.alloc (.map #[] 0)) (arr := arr) harr BB hb rfl
  have HF := f1.trans f2
  have s1 := f1.size
  clear BB
  go_wp2_with fail
  go_ret
  obtain ⟨q1, q2, q3⟩ := HM.out _ (by kernel_rfl)
  exact ⟨_, _, _, _, _, _, _, _, rfl, q1, rfl, q2, by omega, HF.trans q3⟩
end Go.Proofs.YtplnijpolkflcaaGreatDoor
