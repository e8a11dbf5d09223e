/-
  Pack BA: Rank, Edges.
-/
import Derived.Test.YtcofhmikdkkigaaGreatDoorPrAZ
import Derived.Test.YtcofhmikdkkigaaGreatDoorPrAW
import Derived.Test.YtcofhmikdkkigaaGreatDoorPrAU
namespace Go.Proofs.YtcofhmikdkkigaaGreatDoor
open Go.RowKit

def layR : Lay (Nat × Nat) where
  ty := 112
  sz := 10
  cs r := [.int .u64 (wd r.1 0), .int .u64 (wd r.1 1), .int .u64 (wd r.1 2), .int .u64 (wd r.1 3), .int .u64 (wd r.1 4), .int .u64 (wd r.2 0), .int .u64 (wd r.2 1), .int .u64 (wd r.2 2), .int .u64 (wd r.2 3), .int .u64 (wd r.2 4)]
  pos := by omega
  len _ := rfl
  one x u hu := by
    simp only [List.mem_cons, List.not_mem_nil, or_false] at hu
    rcases hu with rfl | rfl | rfl | rfl | rfl | rfl | rfl | rfl | rfl | rfl <;> rfl
def Wds (l : List Value) : Prop := ∀ v ∈ l, ∃ x, v = .int .u64 x
theorem Wds.app {l l' : List Value} (h : Wds l) (h' : Wds l') : Wds (l ++ l') := fun v hv => by
  rcases List.mem_append.1 hv with q | q
  · exact h v q
  · exact h' v q
theorem Wds.take {l : List Value} (h : Wds l) (n : Nat) : Wds (l.take n) := fun v hv => h v (List.mem_of_mem_take hv)
theorem Wds.drop {l : List Value} (h : Wds l) (n : Nat) : Wds (l.drop n) := fun v hv => h v (List.mem_of_mem_drop hv)
theorem wds_rank (r : Nat × Nat) : Wds (layR.cs r) := fun v hv => by
  simp only [layR, List.mem_cons, List.not_mem_nil, or_false] at hv
  rcases hv with rfl | rfl | rfl | rfl | rfl | rfl | rfl | rfl | rfl | rfl <;> exact ⟨_, rfl⟩
theorem wds_flat (rs : List (Nat × Nat)) : Wds (rs.flatMap layR.cs) := fun v hv => by
  obtain ⟨r, _, hr⟩ := List.mem_flatMap.1 hv
  exact wds_rank r v hr
def OwnR (w : World) (base : Nat) (v : Value) (rs : List (Nat × Nat)) : Prop :=
  ∃ g cap cur, v = .slice (some ⟨g, 0, none⟩) rs.length cap ∧ base ≤ g ∧ w.heap[g]? = some (.cells cur 112 (0, 0)) ∧ rs.length ≤ cap ∧ cap ≤ maxLen ∧ cur.size = cap * 10 ∧ cur.toList.take (rs.length * 10) = rs.flatMap layR.cs ∧ Wds cur.toList ∧ rs.length ≤ 1000
theorem OwnR.keep {w w' : World} {base : Nat} {v : Value} {rs : List (Nat × Nat)} {row : Option Nat} (h : OwnR w base v rs) (k : w.grownBy w' row) (hne : v.ownBlock ≠ row) : OwnR w' base v rs := by
  obtain ⟨g, cap, cur, rfl, h1, h2, h3⟩ := h
  exact ⟨g, cap, cur, rfl, h1, (k.block g (Array.getElem?_eq_some_iff.1 h2).1 hne).trans h2, h3⟩
theorem OwnR.fr {w w' : World} {base : Nat} {v : Value} {rs : List (Nat × Nat)} (h : OwnR w base v rs) (k : Fr w w') : OwnR w' base v rs := by
  obtain ⟨g, cap, cur, rfl, h1, h2, h3⟩ := h
  exact ⟨g, cap, cur, rfl, h1, (k.block g (Array.getElem?_eq_some_iff.1 h2).1 (by simp)).trans h2, h3⟩
theorem OwnR.keepS {S : Nat → Prop} {w w' : World} {base : Nat} {v : Value} {rs : List (Nat × Nat)} (h : OwnR w base v rs) (k : FrS S w w') (hs : ∀ x, v.ownBlock = some x → ¬ S x) : OwnR w' base v rs := by
  obtain ⟨g, cap, cur, rfl, h1, h2, h3⟩ := h
  exact ⟨g, cap, cur, rfl, h1, (k.block g (Array.getElem?_eq_some_iff.1 h2).1 (hs g rfl)).trans h2, h3⟩
theorem OwnR.ge {w : World} {base : Nat} {v : Value} {rs : List (Nat × Nat)} (h : OwnR w base v rs) : ∃ g, v.ownBlock = some g ∧ base ≤ g ∧ g < w.heap.size := by
  obtain ⟨g, cap, cur, rfl, h1, h2, h3⟩ := h
  exact ⟨g, rfl, h1, (Array.getElem?_eq_some_iff.1 h2).1⟩
theorem OwnR.words {w : World} {base : Nat} {v : Value} {rs : List (Nat × Nat)} (h : OwnR w base v rs) : ∀ g, v.ownBlock = some g → ∀ o u, w.cell? ⟨g, o, none⟩ = some u → ∃ x, u = .int .u64 x := by
  obtain ⟨g, cap, cur, rfl, h1, h2, h3, h4, h5, h6, h7, h8⟩ := h
  intro g' hg o u hu
  simp only [Value.ownBlock, Option.some.injEq] at hg
  subst hg
  rw [cell_of_row _ _ _ _ _ _ h2] at hu
  exact h7 u (Array.mem_toList_iff.2 (Array.mem_of_getElem? hu))
theorem OwnR.reads {w : World} {base g n cap : Nat} {rs : List (Nat × Nat)} (h : OwnR w base (.slice (some ⟨g, 0, none⟩) n cap) rs) : ReadsG layR w (some ⟨g, 0, none⟩) rs ∧ n = rs.length ∧ RowAt w g 112 := by
  obtain ⟨g', cap', cur, e, h1, h2, h3, h4, h5, h6, h7, h8⟩ := h
  simp only [Value.slice.injEq, Option.some.injEq, Addr.mk.injEq, and_true] at e
  obtain ⟨rfl, rfl, rfl⟩ := e
  exact ⟨own_readsG (L := layR) (base := base) (cap := cap) ⟨by rw [← h6, List.length_take]; have q : cur.toList.length = cap * 10 := (by simp [h5]); have q2 : layR.sz = 10 := rfl; rw [q2]; omega, .inr ⟨g, cap, cur, rfl, h1, h2, h3, h4, h5, h6⟩⟩ (by omega), rfl, ⟨cur, h2⟩⟩
theorem ownR_new (w : World) (base : Nat) (hb : base ≤ w.heap.size) : OwnR (w.alloc (.cells #[] 112)) base (.slice (some ⟨w.heap.size, 0, none⟩) 0 0) [] :=
  ⟨w.heap.size, 0, #[], rfl, hb, heap_alloc_new w _, Nat.le_refl _, by unfold maxLen; omega, by simp, by simp, fun v hv => by simp at hv, by simp⟩
theorem infoR : (Tryz.prog.info? 112).map (fun i => (i.zero, i.size, i.bytes)) = some (some (.agg #[.int .u64 0, .int .u64 0, .int .u64 0, .int .u64 0, .int .u64 0, .int .u64 0, .int .u64 0, .int .u64 0, .int .u64 0, .int .u64 0]), 10, 80) := by kernel_rfl

theorem appR (w : World) {ops : Array Oper} {rest : List Oper} {o : Oper} {a : Act} {Q : Exit → Act → World → Prop} (hgd : o.guard = none) (s x : Operand)
    (ho : o.op = .call { callee := .builtin .append, args := #[s, x], argTypes := #[161, 161] })
    (base : Nat) (v : Value) (rs : List (Nat × Nat)) (r : Nat × Nat) (hs : a.eval s = v) (hown : OwnR w base v rs)
    (b c : Nat) (hx : a.eval x = .slice (some ⟨b, 0, none⟩) 1 c) (hnew : ∀ k, k < 10 → w.cell? ⟨b, k, none⟩ = (layR.cs r)[k]?)
    (hlen : rs.length ≤ 999) (hbase : base ≤ w.heap.size)
    (h : ∀ v' w', OwnR w' base v' (rs ++ [r]) → w.grownBy w' v.ownBlock → (v'.ownBlock = v.ownBlock ∨ v'.ownBlock = some w.heap.size) → wpList Tryz.prog ops Q rest (a.put o.dst v') w') : wpList Tryz.prog ops Q (o :: rest) a w := by
  obtain ⟨i0, hi, hz0, hz1, hz2⟩ := info_parts infoR
  obtain ⟨g, cap, cur, rfl, h1, h2, h3, h4, h5, h6, h7, h8⟩ := hown
  have hnews : ∀ j u, (layR.cs r)[j]? = some u → w.cell? ((⟨b, 0, none⟩ : Addr).add j) = some u := by
    intro j u hu
    rw [Addr.add_lit]
    have hj : j < 10 := by
      have := (List.getElem?_eq_some_iff.1 hu).1
      rwa [layR.len] at this
    rw [Nat.zero_add, hnew j hj, hu]
  have hl : (layR.cs r).length = 1 * i0.size := by rw [hz1, layR.len]; rfl
  have hfl : (rs ++ [r]).flatMap layR.cs = rs.flatMap layR.cs ++ layR.cs r := by simp [List.flatMap_append]
  have hfn : (rs.flatMap layR.cs).length = rs.length * 10 := by rw [← h6, List.length_take]; have q : cur.toList.length = cap * 10 := (by simp [h5]); omega
  obtain ⟨v', w', hr, q1, q2, q3⟩ : ∃ v' w', (Builtin.append_ #[161, 161] o.type #[.slice (some ⟨g, 0, none⟩) rs.length cap, .slice (some ⟨b, 0, none⟩) 1 c]).run Tryz.prog w = .ok v' w' ∧ OwnR w' base v' (rs ++ [r]) ∧ w.grownBy w' (some g) ∧ (v'.ownBlock = some g ∨ v'.ownBlock = some w.heap.size) := by
    by_cases hroom : rs.length + 1 ≤ cap
    · have hfit : rs.length * i0.size + (layR.cs r).length ≤ cur.size := by
        rw [hz1, layR.len, h5]
        show rs.length * 10 + 10 ≤ cap * 10
        omega
      have hr := run_append_room (P := Tryz.prog) w 161 o.type 112 i0 Tryz.underlying161 hi g rs.length cap cur h2 ⟨b, 0, none⟩ 1 c (layR.cs r) hl hnews (layR.one r) hroom hfit
      rw [hz1] at hr
      refine ⟨_, _, hr, ?_, ⟨rfl, rfl, rfl, by simp [World.setRow], fun k _ hk => setRow_other w g k _ (fun e => hk (by rw [e]))⟩, .inl rfl⟩
      refine ⟨g, cap, _, by simp, h1, setRow_heap w g cur _ _ _ h2, by simpa using hroom, h4, ?_, ?_, ?_, by simp; omega⟩
      · have hcl : cur.toList.length = cap * 10 := by rw [Array.length_toList, h5]
        simp only [List.size_toArray, List.length_append, List.length_take, List.length_drop, hcl, layR.len]
        have : layR.sz = 10 := rfl
        omega
      · rw [h6, hfl]
        have : (rs ++ [r]).length * 10 = (rs.flatMap layR.cs ++ layR.cs r).length := by
          rw [List.length_append, List.length_append, hfn, layR.len]
          simp only [List.length_singleton, Nat.add_mul]
          rfl
        rw [this]
        exact List.take_left
      · exact ((h7.take _).app (wds_rank r)).app (h7.drop _)
    · have holds : ∀ j u, (rs.flatMap layR.cs)[j]? = some u → w.cell? ((⟨g, 0, none⟩ : Addr).add j) = some u := by
        intro j u hu
        rw [Addr.add_lit, Nat.zero_add, cell_of_row _ _ _ _ _ _ h2, ← Array.getElem?_toList]
        rw [← h6] at hu
        rw [List.getElem?_take] at hu
        split at hu
        · exact hu
        · cases hu
      have hr := run_append_grow (P := Tryz.prog) w 161 o.type 112 i0 _ Tryz.underlying161 hi hz0 ⟨g, 0, none⟩ rs.length cap (rs.flatMap layR.cs) (by rw [hfn, hz1]) holds ⟨b, 0, none⟩ 1 c (layR.cs r) hl hnews (by omega) (by omega) (growslice_fits (by omega) (by rw [hz2]; omega))
      have hge := grownCap_ge w (rs.length + 1) cap 112
      have hcm : grownCap w (rs.length + 1) cap 112 ≤ maxLen := grownCap_le_maxLen w _ _ _ (by unfold maxLen; omega)
      refine ⟨_, _, hr, ?_, ⟨rfl, rfl, rfl, by simp, fun k hk _ => heap_alloc_old w.drew _ hk⟩, .inr rfl⟩
      refine ⟨w.heap.size, _, _, by simp, hbase, heap_alloc_new w.drew _, by simpa using hge, hcm, ?_, ?_, ?_, by simp; omega⟩
      · have hzc : (Value.agg #[.int .u64 0, .int .u64 0, .int .u64 0, .int .u64 0, .int .u64 0, .int .u64 0, .int .u64 0, .int .u64 0, .int .u64 0, .int .u64 0]).cells.size = 10 := rfl
        simp only [Array.size_append, List.size_toArray, size_zeroCells, hfn, layR.len, hzc]
        have : layR.sz = 10 := rfl
        omega
      · rw [hfl]
        simp only [Array.toList_append, List.append_assoc]
        rw [← List.append_assoc]
        have : (rs ++ [r]).length * 10 = (rs.flatMap layR.cs ++ layR.cs r).length := by
          rw [List.length_append, List.length_append, hfn, layR.len]
          simp only [List.length_singleton, Nat.add_mul]
          rfl
        rw [this]
        exact List.take_left
      · simp only [Array.toList_append]
        refine ((wds_flat rs).app (wds_rank r)).app (fun v hv => ?_)
        simp [Builtin.zeroCells, Value.cells] at hv
        obtain ⟨q, hq, rfl⟩ := hv
        have hm := Nat.mod_lt q (show 0 < 10 by omega)
        generalize q % 10 = d at hm ⊢
        rcases d with _ | _ | _ | _ | _ | _ | _ | _ | _ | _ | d <;> first | exact ⟨0, rfl⟩ | omega
  refine wpList_plain hgd fun K hK => ?_
  unfold Oper.wp execOp
  simp only [ho, resolve, invoke, builtin, Sem.run_bind, Sem.run_pure, Result.andThen_ok, List.map_toArray, List.map_cons, List.map_nil, hs, hx, hr]
  exact hK _ _ (h v' w' q1 q2 q3)

theorem BoardW.keepU {w w' : World} {lo : Nat × Nat} {b b1 b2 b3 b4 n g : Nat} {m : Scn} (h : BoardW lo w b b1 b2 b3 b4 n m) (k : w.grownBy w' (some g)) (hu : ∀ o u, w.cell? ⟨g, o, none⟩ = some u → ∃ x, u = .int .u64 x) (hg : ¬ On b b1 b2 b3 b4 g) : BoardW lo w' b b1 b2 b3 b4 n m := by
  have ne : ∀ x, On b b1 b2 b3 b4 x → ¬ (some x = some g) := fun x hx q => hg (by simp only [Option.some.injEq] at q; subst q; exact hx)
  obtain ⟨fl, q1, q2⟩ := h.m1
  refine ⟨⟨h.ge.1, h.ge.2.1, Nat.le_trans h.ge.2.2 k.size⟩, (k.block b h.blt (ne b (.inl rfl))).trans h.row, h.lt, ⟨fl, q1.keep k (ne _ (.inr (.inl rfl))), fun o => ?_⟩, h.m2.keep k (ne _ (.inr (.inr (.inl rfl)))), h.m3.keep k (ne _ (.inr (.inr (.inr (.inl rfl))))), h.m4.keep k (ne _ (.inr (.inr (.inr (.inr rfl)))))⟩
  rcases q2 o with q | ⟨lk, lv, e1, e2, h3⟩
  · exact .inl q
  · refine .inr ⟨lk, lv, e1, e2, ⟨h3.o, h3.wr, h3.rn, ⟨h3.rd.len, h3.rd.bd, fun i hi => ?_⟩, h3.bl, h3.rc, h3.sz, h3.io, h3.iw⟩⟩
    obtain ⟨x, off, e, hc⟩ := h3.rd.at_ i hi
    refine ⟨x, off, e, fun j hj => k.cell (hc j hj) (fun q => ?_)⟩
    simp only [Option.some.injEq] at q
    subst q
    obtain ⟨y, hy⟩ := hu _ _ (hc j hj)
    cases hy
theorem PastW.keepU {lo : Nat × Nat} {w w' : World} {p gm b b1 b2 b3 b4 nb nm g : Nat} {m : Scn} {st la : Nat → Nat} {G : Int → Int → Int → Nat} (h : PastW lo w p gm b b1 b2 b3 b4 nb nm m st la G) (k : w.grownBy w' (some g)) (hu : ∀ o u, w.cell? ⟨g, o, none⟩ = some u → ∃ x, u = .int .u64 x) (hg : p < g ∨ g < b1) : PastW lo w' p gm b b1 b2 b3 b4 nb nm m st la G := by
  obtain ⟨n1, n2, n3, n4⟩ := h.ne
  have hl := h.bd.lt
  have hne : ¬ (some p = some g) := by simp only [Option.some.injEq]; omega
  have hpl := h.row.lt
  obtain ⟨cur, hc⟩ := h.row
  exact ⟨h.bd.keepU k hu (by unfold On; omega), k.cell h.pt hne, k.cell h.mp hne, fun g hg q hq => k.cell (h.st g hg q hq) hne, fun g hg q hq => k.cell (h.la g hg q hq) hne, ⟨cur, (k.block p hpl (fun q => hne (by rw [q]))).trans hc⟩, h.mt.keep k (by simp only [ne_eq, Option.some.injEq]; omega), h.ne⟩

def pastArr (b g : Nat) : Array Value := (.pointer (some ⟨b, 0, none⟩) :: (List.replicate 160 (.int .u64 0) ++ [.map (some g)])).toArray
theorem past_made {u V : World} {b b1 b2 b3 b4 : Nat} {arr : Array Value} (harr : arr = pastArr b u.heap.size) (BB : ∀ (lo : Nat) (v : World), Fr u v → b < lo → lo ≤ v.heap.size → BoardW (0, lo) v b b1 b2 b3 b4 1048576 scn0) (hb : b < u.heap.size) (hV : V = u.alloc (.map #[] 0)) :
    PastW (0, u.heap.size + 1 + 1) (V.alloc (.cells arr 220)) (u.heap.size + 1) u.heap.size b b1 b2 b3 b4 1048576 0 scn0 (fun _ => 0) (fun _ => 0) (fun _ _ _ => 0) ∧ (V.alloc (.cells arr 220)).heap.size = u.heap.size + 1 + 1 ∧ Fr u (V.alloc (.cells arr 220)) := by
  subst harr
  have sV : V.heap.size = u.heap.size + 1 := by rw [hV]; simp
  have f3 : Fr u V := by rw [hV]; exact Fr.alloc _ _
  have M3 : MapT V u.heap.size 0 (fun _ _ _ => 0) := by rw [hV]; exact MapT.made u
  have f4 := Fr.alloc V (.cells (pastArr b u.heap.size) 220)
  have R := heap_alloc_new V (.cells (pastArr b u.heap.size) 220)
  rw [sV] at R
  have zs : ∀ i, 1 ≤ i → i ≤ 160 → (V.alloc (.cells (pastArr b u.heap.size) 220)).cell? ⟨u.heap.size + 1, i, none⟩ = some (.int .u64 0) := by
    intro i h1 h2
    rw [cell_of_row _ _ _ _ _ _ R]
    obtain ⟨j, rfl⟩ : ∃ j, i = j + 1 := ⟨i - 1, by omega⟩
    simp only [pastArr, List.getElem?_toArray, List.getElem?_cons_succ]
    rw [List.getElem?_append_left (by simp; omega), List.getElem?_replicate, if_pos (by omega)]
  refine ⟨⟨BB _ _ (f3.trans f4) (by omega) (by simp [sV]), ?_, ?_, fun g hg k hk => ?_, fun g hg k hk => ?_, ⟨_, R⟩, M3.fr f4, by simp; omega⟩, by simp [sV], f3.trans f4⟩
  · rw [cell_of_row _ _ _ _ _ _ R]
    simp [pastArr]
  · rw [cell_of_row _ _ _ _ _ _ R]
    simp [pastArr]
  · rw [wd_zero]
    exact zs _ (by omega) (by omega)
  · rw [wd_zero]
    exact zs _ (by omega) (by omega)

set_option maxRecDepth 20000 in
set_option maxHeartbeats 1000000 in
theorem newPast_any (w : World) :
    Calls Tryz.prog 193 #[] w fun e w' => ∃ lo p gm b b1 b2 b3 b4, e = .returned (.pointer (some ⟨p, 0, none⟩)) ∧ PastW lo w' p gm b b1 b2 b3 b4 1048576 0 scn0 (fun _ => 0) (fun _ => 0) (fun _ _ _ => 0) ∧ lo.2 = p + 1 ∧ w'.heap.size = p + 1 ∧ w.heap.size ≤ b1 ∧ Fr w w' := by
  go_enter Tryz.func193, Tryz.ntmps193
  go_wp2_with fail
  refine (implNew_any (fun _ => False) w).mono ?_
  rintro x u1 ⟨s, rfl, S1, f1⟩
  go_wp2_with fail
  refine (boardNew_any s u1 S1).mono ?_
  rintro x u2 ⟨b, b1, b2, b3, b4, rfl, g1, BB, hb, f2⟩
  have hmk : ∀ u : World, Sem.run Tryz.prog (Instr.makeMap 218 none) u = .ok (.map (some u.heap.size)) (u.alloc (.map #[] 0)) := fun u => run_makeMap _ u
  have HM : Hid (∀ arr, arr = pastArr b u2.heap.size → _) := fun arr harr => past_made (u := u2) (V := u2.alloc (.map #[] 0)) (arr := arr) harr BB hb rfl
  have HF := f1.trans f2
  have s1 := f1.size
  clear BB
  go_wp2_with fail
  go_ret
  obtain ⟨q1, q2, q3⟩ := HM.out _ (by kernel_rfl)
  exact ⟨_, _, _, _, _, _, _, _, rfl, q1, rfl, q2, by omega, HF.trans q3⟩
end Go.Proofs.YtcofhmikdkkigaaGreatDoor
namespace Go.Proofs.YtcofhmikdkkigaaGreatDoor
open Go.RowKit

theorem leg_snocE {e : Ev} : ∀ (es : List Ev) (m0 m : Scn), legS m0 es = (m, es.length, 0) → codeIn m e = 0 → legS m0 (es ++ [e]) = (doS m e, es.length + 1, 0)
  | [], m0, m, h, hc => by
    simp only [legS, Prod.mk.injEq] at h
    obtain ⟨rfl, -⟩ := h
    simp [legS, hc]
  | x :: es, m0, m, h, hc => by
    by_cases q : codeIn m0 x = 0
    · rw [leg_go q] at h
      simp only [Prod.mk.injEq, List.length_cons] at h
      have h2 : legS (doS m0 x) es = (m, es.length, 0) := by
        refine Prod.ext h.1 (Prod.ext ?_ h.2.2)
        have := h.2.1
        simp only
        omega
      rw [List.cons_append, leg_go q, leg_snocE es _ m h2 hc]
      simp
    · rw [leg_no q] at h
      simp at h

def scA (es : List Ev) (k : Nat) : Scn := (legS scn0 (es.take k)).1
def tJ (es : List Ev) (k : Nat) : List Tch := tchL (evA es k) (slotC (scA es k) (evA es k))
def pst (es : List Ev) : Nat → (Nat → Nat)
  | 0 => fun _ => 0
  | k + 1 => if (evA es k).k = 1 then setN (pst es k) (evA es k).o.toNat (2 ^ k) else pst es k
def pla (es : List Ev) : Nat → (Nat → Nat)
  | 0 => fun _ => 0
  | k + 1 => laE (pla es k) k (gorsL (evA es k))
def pgi (es : List Ev) : Nat → (Int → Int → Int → Nat)
  | 0 => fun _ _ _ => 0
  | k + 1 => giE (pgi es k) k (tJ es k)
def edN (es : List Ev) (k : Nat) : Nat := thE (pgi es k) (goE (pst es k) (pla es k) (gorsL (evA es k))) (tJ es k)
def rk0 (es : List Ev) (k : Nat) : List (Nat × Nat) := (List.range k).map fun j => (edN es j, 0)
theorem rk0_len (es : List Ev) (k : Nat) : (rk0 es k).length = k := by simp [rk0]
theorem rk0_succ (es : List Ev) (k : Nat) : rk0 es (k + 1) = rk0 es k ++ [(edN es k, 0)] := by simp [rk0, List.range_succ]
theorem tchL_in {e : Ev} {z : Int} (hz : I64 z) (ho : I64 e.o) : (tchL e z).length ≤ 2 ∧ ∀ t ∈ tchL e z, T64 t := by
  have i0 : I64 0 := i64_small (by omega)
  have s : ∀ n : Int, 0 ≤ n → n ≤ 7 → I64 n := fun n _ _ => i64_small (by omega)
  have one : ∀ t : Tch, T64 t → ([t] : List Tch).length ≤ 2 ∧ ∀ u ∈ [t], T64 u := fun t ht => ⟨by simp, fun u hu => by simp only [List.mem_singleton] at hu; subst hu; exact ht⟩
  unfold tchL
  by_cases h2 : e.k = 2
  · rw [if_pos h2]
    refine ⟨by simp, fun u hu => ?_⟩
    simp only [List.mem_cons, List.not_mem_nil, or_false] at hu
    rcases hu with rfl | rfl
    · exact ⟨s 1 (by omega) (by omega), ho, i0⟩
    · exact ⟨s 2 (by omega) (by omega), ho, i0⟩
  rw [if_neg h2]
  by_cases h3 : e.k = 3
  · rw [if_pos h3]
    exact one _ ⟨s 1 (by omega) (by omega), ho, i0⟩
  rw [if_neg h3]
  by_cases h4 : e.k = 4
  · rw [if_pos h4]
    exact one _ ⟨s 1 (by omega) (by omega), ho, i0⟩
  rw [if_neg h4]
  by_cases h5 : e.k = 5
  · rw [if_pos h5]
    exact one _ ⟨s 2 (by omega) (by omega), ho, i0⟩
  rw [if_neg h5]
  by_cases h7 : e.k = 7 ∨ e.k = 8
  · rw [if_pos h7]
    exact one _ ⟨s 3 (by omega) (by omega), ho, hz⟩
  rw [if_neg h7]
  by_cases h10 : e.k = 10
  · rw [if_pos h10]
    exact one _ ⟨s 4 (by omega) (by omega), ho, i0⟩
  rw [if_neg h10]
  by_cases h11 : e.k = 11
  · rw [if_pos h11]
    exact one _ ⟨s 4 (by omega) (by omega), ho, i0⟩
  rw [if_neg h11]
  by_cases h13 : e.k = 13
  · rw [if_pos h13]
    exact one _ ⟨s 5 (by omega) (by omega), ho, i0⟩
  rw [if_neg h13]
  by_cases h14 : e.k = 14
  · rw [if_pos h14]
    exact one _ ⟨s 5 (by omega) (by omega), ho, i0⟩
  rw [if_neg h14]
  by_cases h15 : e.k = 15
  · rw [if_pos h15]
    exact one _ ⟨s 6 (by omega) (by omega), ho, i0⟩
  rw [if_neg h15]
  by_cases h16 : e.k = 16
  · rw [if_pos h16]
    exact one _ ⟨s 6 (by omega) (by omega), ho, i0⟩
  rw [if_neg h16]
  by_cases h17 : e.k = 17
  · rw [if_pos h17]
    exact one _ ⟨s 7 (by omega) (by omega), ho, i0⟩
  rw [if_neg h17]
  by_cases h18 : e.k = 18
  · rw [if_pos h18]
    exact one _ ⟨s 7 (by omega) (by omega), ho, i0⟩
  rw [if_neg h18]
  by_cases h19 : e.k = 19
  · rw [if_pos h19]
    exact one _ ⟨s 7 (by omega) (by omega), ho, i0⟩
  rw [if_neg h19]
  exact ⟨by simp, fun u hu => by simp at hu⟩
theorem slot_in {m : Scn} {e : Ev} (hc : codeIn m e = 0) : (tchL e (slotC m e)).length ≤ 2 ∧ ∀ t ∈ tchL e (slotC m e), T64 t := by
  have hp := code_parts hc
  have ho := evOk_o hp.1
  by_cases hk : e.k = 7 ∨ e.k = 8
  · obtain ⟨c, hf, h0⟩ := (code_chan hc (by omega) (by omega)).2 (by omega)
    have q1 := chan_in hp.2.1 e.o
    rw [(chanOf_some hf).1] at q1
    have e1 := (chanOf_some hf).2.1
    refine tchL_in ?_ (i64_small (by omega))
    unfold slotC
    rw [e1]
    have := h0 hk
    have b : ∀ x : Int, 0 ≤ x → x ≤ 1000000 → I64 (x.tmod c.cap) := by
      intro x hx hx2
      have h1 := Int.tmod_lt_of_pos x (show 0 < c.cap by omega)
      have h2 := Int.tmod_nonneg c.cap hx
      exact i64_small (by omega)
    split
    · exact b _ (by omega) (by omega)
    · exact b _ (by omega) (by omega)
  · have : tchL e (slotC m e) = tchL e 0 := by
      unfold tchL
      simp only [hk, if_false]
    rw [this]
    exact tchL_in (i64_small (by omega)) (i64_small (by omega))
theorem PastW.monoM {lo : Nat × Nat} {w : World} {p gm b b1 b2 b3 b4 nb nm nm' : Nat} {m : Scn} {st la : Nat → Nat} {G : Int → Int → Int → Nat} (h : PastW lo w p gm b b1 b2 b3 b4 nb nm m st la G) (hn : nm ≤ nm') : PastW lo w p gm b b1 b2 b3 b4 nb nm' m st la G := { h with mt := h.mt.mono hn }
theorem leg_take_go {es : List Ev} {k : Nat} {m : Scn} (hk : k < es.length) (h : legS scn0 (es.take k) = (m, k, 0)) (hc : codeIn m es[k] = 0) : legS scn0 (es.take (k + 1)) = (doS m es[k], k + 1, 0) := by
  have hl : (es.take k).length = k := by simp; omega
  have := leg_snocE (e := es[k]) (es.take k) scn0 m (by rw [hl]; exact h) hc
  rw [List.take_succ_eq_append_getElem hk, this, hl]

set_option maxRecDepth 20000 in
set_option maxHeartbeats 8000000 in
theorem edgesOf_any (ao : Option Addr) (n c : Nat) (es : List Ev) (w : World) (hn : es.length = n) (h : ReadsE w ao es) (hs : Shapes w) (hab : ∀ k, blk ao = some k → k < w.heap.size) (hl : es.length ≤ 300) :
    Calls Tryz.prog 170 #[.slice ao n c] w fun x w' => ∃ v, x = .returned v ∧ OwnR w' w.heap.size v (rk0 es (legS scn0 es).2.1) ∧ Fr w w' := by
  subst hn
  have cT := fun u => isTrace_any ao es.length c u
  have e2 : decide ((es.length : Int) ≤ 300) = true := by simp; omega
  simp only [e2] at cT
  clear e2
  have fA := Fr.alloc w (.cells #[] 112)
  have oA := ownR_new w w.heap.size (Nat.le_refl _)
  go_enter Tryz.func170, Tryz.ntmps170
  go_wp2_with fail
  refine (cT _).mono ?_
  rintro e u0 ⟨rfl, rfl⟩
  clear cT
  go_wp2_with fail
  refine (newPast_any _).mono ?_
  rintro x u1 ⟨lo, p, gm, b, b1, b2, b3, b4, rfl, P1, hlo, hsz, hb1, f1⟩
  have oA := oA.fr f1
  have F1 := fA.trans f1
  have HB : Hid (w.heap.size < b1 ∧ b1 ≤ b ∧ b < gm ∧ gm < p ∧ lo.2 = p + 1 ∧ p < u1.heap.size ∧ w.heap.size < p) := by
    have := P1.ne
    have := P1.bd.lt
    rw [World.size_alloc] at hb1
    exact ⟨by omega, by omega, by omega, by omega, by omega, by omega, by omega⟩
  clear fA hb1 hlo f1 hsz
  go_wp2_with fail
  go_loopw [3, 16] (fun v i wr => ∃ (q nm g : Nat) (m : Scn), q ≤ es.length ∧ i = .int .i64 q ∧ Hid (LegAt es q m ∧ legS scn0 (es.take q) = (m, q, 0) ∧ scB m = true) ∧ nm ≤ 2 * q ∧ PastW lo wr p gm b b1 b2 b3 b4 (1048576 + q) nm m (pst es q) (pla es q) (pgi es q) ∧ OwnR wr w.heap.size v (rk0 es q) ∧ v.ownBlock = some g ∧ (g < b1 ∨ p < g) ∧ Fr w wr) (fun _ i _ => es.length - (intOf i).toNat)
  case atStart => exact ⟨0, 0, w.heap.size, scn0, Nat.zero_le _, rfl, ⟨LegAt.start es, rfl, by decide⟩, Nat.le_refl _, P1, oA, rfl, .inl HB.out.1, F1⟩
  case round =>
    obtain ⟨q, nm, g, m, hq, rfl, HL, hnm, hP, hO, hg, hgb, hF⟩ := hrel
    by_cases hlt : q < es.length
    · obtain ⟨eb, off, rfl, hev⟩ := (h.fr hF).at_ q hlt
      have ev := hev q hlt
      have HE : Hid (evA es q = es[q]) := evA_at hlt
      have HS : Hid (scA es q = m) := by unfold scA; rw [HL.out.2.1]; exact rfl
      have HX : Hid (codeIn m es[q] = 0 → LegAt es (q + 1) (doS m es[q]) ∧ legS scn0 (es.take (q + 1)) = (doS m es[q], q + 1, 0) ∧ scB (doS m es[q]) = true) := fun hc => ⟨HL.out.1.next hlt hc, leg_take_go hlt HL.out.2.1 hc, do_ok hc⟩
      have HY : Hid (¬ codeIn m es[q] = 0 → (legS scn0 es).2.1 = q) := fun hc => by rw [HL.out.1.stop hlt hc]
      have hmb := HL.out.2.2
      have HM : Hid (scB m = true) := hmb
      obtain ⟨E, hE⟩ : ∃ E, E = es[q] := ⟨_, rfl⟩
      rw [← hE] at ev HE HX HY
      clear hE hev
      have hqi : (q : Int) < es.length := by omega
      obtain ⟨k, gr, o, wi, l, sz, f, t⟩ := E
      obtain ⟨d0, d1, d2, d3, d4, d5, d6, d7⟩ := ev
      simp only at d0 d1 d2 d3 d4 d5 d6 d7
      have f5 := Fr.alloc wr (.cells #[.int .i64 k, .int .i64 gr, .int .i64 o, .int .i64 wi, .int .i64 l, .int .i64 sz, .int .i64 f, .int .i64 t] 31)
      have k5 := heap_alloc_new wr (.cells #[.int .i64 k, .int .i64 gr, .int .i64 o, .int .i64 wi, .int .i64 l, .int .i64 sz, .int .i64 f, .int .i64 t] 31)
      go_wp2_with fail
      obtain ⟨V, hV⟩ : ∃ V, V = wr.alloc (.cells #[.int .i64 k, .int .i64 gr, .int .i64 o, .int .i64 wi, .int .i64 l, .int .i64 sz, .int .i64 f, .int .i64 t] 31) := ⟨_, rfl⟩
      rw [← hV] at f5 k5 ⊢
      obtain ⟨EB, hEB⟩ : ∃ EB, EB = wr.heap.size := ⟨_, rfl⟩
      rw [← hEB] at k5 ⊢
      have HEB : Hid (g < EB ∧ w.heap.size ≤ g) := by
        obtain ⟨g', e1, e2, e3⟩ := hO.ge
        rw [hg] at e1
        cases e1
        exact ⟨by omega, e2⟩
      clear hV hEB d0 d1 d2 d3 d4 d5 d6 d7
      have PV := hP.fr f5
      have OV := hO.fr f5
      have FV := hF.trans f5
      have HQ : Hid (∀ u, Fr V u → u.cell? ⟨p, 0, none⟩ = some (.pointer (some ⟨b, 0, none⟩)) ∧ u.cell? ⟨EB, 0, none⟩ = some (.int .i64 k) ∧ u.cell? ⟨EB, 1, none⟩ = some (.int .i64 gr) ∧ u.cell? ⟨EB, 2, none⟩ = some (.int .i64 o) ∧ u.cell? ⟨EB, 3, none⟩ = some (.int .i64 wi) ∧ u.cell? ⟨EB, 4, none⟩ = some (.int .i64 l) ∧ u.cell? ⟨EB, 5, none⟩ = some (.int .i64 sz) ∧ u.cell? ⟨EB, 6, none⟩ = some (.int .i64 f) ∧ u.cell? ⟨EB, 7, none⟩ = some (.int .i64 t)) := fun u fu => ⟨fu.cell PV.pt, fu.cell (cell_of_row _ _ 0 _ _ _ k5), fu.cell (cell_of_row _ _ 1 _ _ _ k5), fu.cell (cell_of_row _ _ 2 _ _ _ k5), fu.cell (cell_of_row _ _ 3 _ _ _ k5), fu.cell (cell_of_row _ _ 4 _ _ _ k5), fu.cell (cell_of_row _ _ 5 _ _ _ k5), fu.cell (cell_of_row _ _ 6 _ _ _ k5), fu.cell (cell_of_row _ _ 7 _ _ _ k5)⟩
      have cC := fun u (fu : Fr V u) => codeM_all ⟨k, gr, o, wi, l, sz, f, t⟩ u (PV.bd.fr fu).toM hmb (hs.fr (FV.trans fu))
      have cU := fun (hc : codeIn m ⟨k, gr, o, wi, l, sz, f, t⟩ = 0) u (fu : Fr V u) => touches_any ⟨k, gr, o, wi, l, sz, f, t⟩ u (PV.bd.fr fu).toM hc
      simp only at cC cU
      obtain ⟨C, hC⟩ : ∃ C, C = codeIn m ⟨k, gr, o, wi, l, sz, f, t⟩ := ⟨_, rfl⟩
      simp only [← hC] at cC cU HX HY
      have HC : Hid (C = codeIn m ⟨k, gr, o, wi, l, sz, f, t⟩) := hC
      clear hC hP hO hF f5 hmb
      obtain ⟨p0, c0, c1, c2, c3, c4, c5, c6, c7⟩ := HQ.out V (Fr.refl V)
      go_region_held3 (fun u => u.cell? ⟨p, 0, none⟩ = some (.pointer (some ⟨b, 0, none⟩)) ∧ u.cell? ⟨EB, 0, none⟩ = some (.int .i64 k) ∧ u.cell? ⟨EB, 1, none⟩ = some (.int .i64 gr) ∧ u.cell? ⟨EB, 2, none⟩ = some (.int .i64 o) ∧ u.cell? ⟨EB, 3, none⟩ = some (.int .i64 wi) ∧ u.cell? ⟨EB, 4, none⟩ = some (.int .i64 l) ∧ u.cell? ⟨EB, 5, none⟩ = some (.int .i64 sz) ∧ u.cell? ⟨EB, 6, none⟩ = some (.int .i64 f) ∧ u.cell? ⟨EB, 7, none⟩ = some (.int .i64 t)) (go_keep)
        (first | (go_at_call 59; refine (cC _ (Fr.drew V)).mono ?_; rintro x z3 ⟨rfl, f3⟩; have g3 := (Fr.drew V).trans f3; obtain ⟨r0, y0, y1, y2, y3, y4, y5, y6, y7⟩ := HQ.out _ g3))
      all_goals
        clear p0 c0 c1 c2 c3 c4 c5 c6 c7 cC
        by_cases hC0 : C = 0
        · have hCb : (C != 0) = false := by simp [hC0]
          have cU := cU hC0
          have HX := HX.out hC0
          have HX : Hid _ := HX
          have hc0 : codeIn m ⟨k, gr, o, wi, l, sz, f, t⟩ = 0 := by rw [← HC.out]; exact hC0
          have HCC : Hid (codeIn m ⟨k, gr, o, wi, l, sz, f, t⟩ = 0) := hc0
          obtain ⟨ht2, htT⟩ := slot_in hc0
          have HN : Hid (edN es q = thE (pgi es q) (goE (pst es q) (pla es q) (gorsL ⟨k, gr, o, wi, l, sz, f, t⟩)) (tchL ⟨k, gr, o, wi, l, sz, f, t⟩ (slotC m ⟨k, gr, o, wi, l, sz, f, t⟩))) := by unfold edN tJ; rw [HE.out, HS.out]; exact rfl
          have HJ : Hid (tJ es q = tchL ⟨k, gr, o, wi, l, sz, f, t⟩ (slotC m ⟨k, gr, o, wi, l, sz, f, t⟩)) := by unfold tJ; rw [HE.out, HS.out]; exact rfl
          have HP1 : Hid (pst es (q + 1) = if k = 1 then setN (pst es q) o.toNat (2 ^ q) else pst es q) := by
            show (if (evA es q).k = 1 then setN (pst es q) (evA es q).o.toNat (2 ^ q) else pst es q) = _
            rw [HE.out]
          have HP2 : Hid (pla es (q + 1) = laE (pla es q) q (gorsL ⟨k, gr, o, wi, l, sz, f, t⟩)) := by
            show laE (pla es q) q (gorsL (evA es q)) = _
            rw [HE.out]
          have HP3 : Hid (pgi es (q + 1) = giE (pgi es q) q (tJ es q)) := rfl
          obtain ⟨ts, hts⟩ : ∃ ts, ts = tchL ⟨k, gr, o, wi, l, sz, f, t⟩ (slotC m ⟨k, gr, o, wi, l, sz, f, t⟩) := ⟨_, rfl⟩
          simp only [← hts] at cU ht2 htT HN HJ
          clear hts hC0 HY hc0 HE
          have HCE : Hid (∀ u ao n c, Fr V u → ts.length = n → ReadsG layT u ao ts → Calls Tryz.prog 195 #[.pointer (some ⟨p, 0, none⟩), .agg #[.int .i64 k, .int .i64 gr, .int .i64 o, .int .i64 wi, .int .i64 l, .int .i64 sz, .int .i64 f, .int .i64 t], .slice ao n c] u fun x w' => x = .returned (.agg #[.int .u64 (wd (edN es q) 0), .int .u64 (wd (edN es q) 1), .int .u64 (wd (edN es q) 2), .int .u64 (wd (edN es q) 3), .int .u64 (wd (edN es q) 4)]) ∧ Fr u w') := fun u ao n c fu hn hr => by
            rw [HN.out]
            exact edgesInto_any ⟨k, gr, o, wi, l, sz, f, t⟩ ao n c ts u (PV.fr fu) (code_parts HCC.out).1 hn hr htT (hs.fr (FV.trans fu))
          obtain ⟨p0, c0, c1, c2, c3, c4, c5, c6, c7⟩ := HQ.out z3 g3
          go_wp2_with fail
          go_region_held3 (fun u => u.cell? ⟨p, 0, none⟩ = some (.pointer (some ⟨b, 0, none⟩)) ∧ u.cell? ⟨EB, 0, none⟩ = some (.int .i64 k) ∧ u.cell? ⟨EB, 1, none⟩ = some (.int .i64 gr) ∧ u.cell? ⟨EB, 2, none⟩ = some (.int .i64 o) ∧ u.cell? ⟨EB, 3, none⟩ = some (.int .i64 wi) ∧ u.cell? ⟨EB, 4, none⟩ = some (.int .i64 l) ∧ u.cell? ⟨EB, 5, none⟩ = some (.int .i64 sz) ∧ u.cell? ⟨EB, 6, none⟩ = some (.int .i64 f) ∧ u.cell? ⟨EB, 7, none⟩ = some (.int .i64 t)) (go_keep)
            (first | (go_at_call 194; refine (cU _ (g3.trans (Fr.drew z3))).mono ?_; rintro x z4 ⟨v4, rfl, o4, f4⟩; have g4 := (g3.trans (Fr.drew z3)).trans f4; obtain ⟨j0, j1, j2, j3, j4, j5, j6, j7, j8⟩ := HQ.out _ g4))
          all_goals
            clear p0 c0 c1 c2 c3 c4 c5 c6 c7 r0 y0 y1 y2 y3 y4 y5 y6 y7
            obtain ⟨tg, tc, rfl, ot, -⟩ := o4
            have tr := own_readsG ot (by omega)
            have tlt := ot.lt tg rfl
            have HT : Hid (V.heap.size ≤ tg ∧ tg < z4.heap.size) := ⟨by have := g3.size; have : z3.drew.heap.size = z3.heap.size := rfl; omega, tlt.2⟩
            have cE := HCE.out z4 (some ⟨tg, 0, none⟩) ts.length tc g4 rfl tr
            clear ot tlt cU f4
            obtain ⟨N, hN⟩ : ∃ N, N = edN es q := ⟨_, rfl⟩
            rw [← hN] at cE
            have HNE : Hid (N = edN es q) := hN
            clear hN
            go_wp2_with fail
            refine cE.mono ?_
            rintro x z5 ⟨rfl, f5⟩
            have g5 := g4.trans f5
            have O5 := OV.fr g5
            have hOlen := rk0_len es q
            clear cE
            have f6 := Fr.alloc z5 (.cells #[.int .u64 (wd N 0), .int .u64 (wd N 1), .int .u64 (wd N 2), .int .u64 (wd N 3), .int .u64 (wd N 4), .int .u64 0, .int .u64 0, .int .u64 0, .int .u64 0, .int .u64 0] 112)
            have k6 := heap_alloc_new z5 (.cells #[.int .u64 (wd N 0), .int .u64 (wd N 1), .int .u64 (wd N 2), .int .u64 (wd N 3), .int .u64 (wd N 4), .int .u64 0, .int .u64 0, .int .u64 0, .int .u64 0, .int .u64 0] 112)
            have O6 := O5.fr f6
            have hsz6 : w.heap.size ≤ (z5.alloc (.cells #[.int .u64 (wd N 0), .int .u64 (wd N 1), .int .u64 (wd N 2), .int .u64 (wd N 3), .int .u64 (wd N 4), .int .u64 0, .int .u64 0, .int .u64 0, .int .u64 0, .int .u64 0] 112)).heap.size := by have := FV.size; have := g5.size; have := f6.size; omega
            have hnew : ∀ c, c < 10 → (z5.alloc (.cells #[.int .u64 (wd N 0), .int .u64 (wd N 1), .int .u64 (wd N 2), .int .u64 (wd N 3), .int .u64 (wd N 4), .int .u64 0, .int .u64 0, .int .u64 0, .int .u64 0, .int .u64 0] 112)).cell? ⟨z5.heap.size, c, none⟩ = (layR.cs (N, 0))[c]? := by
              intro c hc
              rw [cell_of_row _ _ _ _ _ _ k6]
              simp only [layR, wd_zero]
              rcases c with _ | _ | _ | _ | _ | _ | _ | _ | _ | _ | c <;> first | rfl | omega
            obtain ⟨qp, q0, q1, q2, q3, q4, q5, q6, q7⟩ := HQ.out _ (g5.trans f6)
            have hneE : ¬ (some EB = some g) := by have := HEB.out; simp only [Option.some.injEq]; omega
            have P6 := PV.fr (g5.trans f6)
            have tr6 := tr.fr (f5.trans f6)
            have F6 := FV.trans (g5.trans f6)
            have hw6 := O6.words g hg
            have hV6 := (g5.trans f6).size
            clear f5 f6 k6 g4 j0 j1 j2 j3 j4 j5 j6 j7 j8 O5
            go_wp2_with (at_builtin; refine appR _ rfl _ _ rfl w.heap.size u3 (rk0 es q) (N, 0) rfl O6 _ _ rfl hnew (by omega) hsz6 ?_; intro v7 z7 O7 g7 at7; rw [hg] at g7; have x0 := g7.cell (q0) hneE; have x1 := g7.cell (q1) hneE; have x2 := g7.cell (q2) hneE; have x3 := g7.cell (q3) hneE; have x4 := g7.cell (q4) hneE; have x5 := g7.cell (q5) hneE; have x6 := g7.cell (q6) hneE; have x7 := g7.cell (q7) hneE; clear q0 q1 q2 q3 q4 q5 q6 q7 qp)
            have P7 := P6.keepU g7 hw6 (by omega)
            have F7 := F6.then g7 (fun j hj => by cases hj; exact HEB.out.2)
            have tr7 := tr6.keep g7 (.inr (by simp only [blk, Option.map_some, ne_eq, Option.some.injEq]; have := HEB.out; have := (Array.getElem?_eq_some_iff.1 k5).1; have := HT.out; omega))
            have cP := pastAdd_any q (by omega) ⟨k, gr, o, wi, l, sz, f, t⟩ (some ⟨tg, 0, none⟩) ts.length tc ts z7 P7 HCC.out (fun _ => evOk_o (code_parts HCC.out).1) rfl tr7 (fun x hx => by
              simp only [blk, Option.map_some, Option.some.injEq] at hx
              have := HB.out
              have := HT.out
              have := PV.row.lt
              omega) htT (hs.fr F7) (by omega) (by omega)
            simp only at cP
            clear x0 x1 x2 x3 x4 x5 x6 x7
            refine cP.mono ?_
            rintro x z8 ⟨rfl, P8, F8⟩
            have hgx : ∃ g8, v7.ownBlock = some g8 ∧ (g8 < b1 ∨ p < g8) ∧ ¬ PS p gm b b1 b2 b3 b4 g8 := by
              have hb := HB.out
              have hl := P7.bd.lt
              have hpl := PV.row.lt
              rcases at7 with e | e
              · refine ⟨g, e.trans hg, hgb, ?_⟩
                unfold PS On
                omega
              · refine ⟨_, e, ?_, ?_⟩
                · exact .inr (by omega)
                · unfold PS On
                  omega
            obtain ⟨g8, e8, hg8, n8⟩ := hgx
            have O8 := O7.keepS F8 (fun x hx => by rw [e8] at hx; cases hx; exact n8)
            rw [HNE.out, ← rk0_succ] at O8
            have F8w := F7.thenS F8 (fun j hj => by
              have hb := HB.out
              have hl := P7.bd.lt
              unfold PS On at hj
              omega)
            rw [← HP1.out, ← HP2.out, ← HJ.out, ← HP3.out] at P8
            have P9 := P8.monoM (nm' := nm + 2) (by rw [HJ.out]; omega)
            clear cP P7 F7 tr7 P8 F8 O7 at7 hw6 O6 P6 tr6 F6
            go_wp2_with fail
            go_roundw
            case rel => exact ⟨q + 1, nm + 2, g8, _, by omega, by go_num, HX.out, by omega, P9, O8, e8, hg8, F8w⟩
            case measure => simp [intOf]; omega
        · have hCb : (C != 0) = true := by simpa using hC0
          have HY := HY.out hC0
          have HY : Hid _ := HY
          clear hC0 HX cU
          go_wp2_with fail
          go_ret
          exact ⟨_, rfl, by rw [HY.out]; exact OV.fr g3, FV.trans g3⟩
    · have e : q = es.length := by omega
      subst e
      have HD : Hid ((legS scn0 es).2.1 = es.length) := by rw [HL.out.1.done]; exact rfl
      clear HL
      go_wp2_with fail
      go_ret
      exact ⟨_, rfl, by rw [HD.out]; exact hO, hF⟩
end Go.Proofs.YtcofhmikdkkigaaGreatDoor
