/-
  A board that is written to.
-/
import Derived.Test.YtihdablgnmkjnaaGreatDoorPileAM
import Derived.Deep.RegionHeld3
import Derived.Shelf.SortM.Plain
import Derived.Shelf.SortM.SortNone
import Derived.Ground.SlgmProg
import Derived.Sort.OwnSortedInts
namespace Go.Proofs.YtihdablgnmkjnaaGreatDoor
open Go.RowKit

/-- The board's own blocks. -/
def On (b b1 b2 b3 b4 x : Nat) : Prop := x = b ∨ x = b1 ∨ x = b2 ∨ x = b3 ∨ x = b4
def Off (lo : Nat × Nat) (x : Nat) : Prop := x < lo.1 ∨ lo.2 ≤ x

/-- Only blocks of S, and new ones, are other than they were. -/
structure FrS (S : Nat → Prop) (w w' : World) : Prop where
  os : w'.os = w.os
  tape : w'.tape = w.tape
  output : w'.output = w.output
  size : w.heap.size ≤ w'.heap.size
  block : ∀ k, k < w.heap.size → ¬ S k → w'.heap[k]? = w.heap[k]?
theorem FrS.refl (S : Nat → Prop) (w : World) : FrS S w w := ⟨rfl, rfl, rfl, Nat.le_refl _, fun _ _ _ => rfl⟩
theorem FrS.trans {S : Nat → Prop} {a b c : World} (h : FrS S a b) (k : FrS S b c) : FrS S a c :=
  ⟨k.os.trans h.os, k.tape.trans h.tape, k.output.trans h.output, Nat.le_trans h.size k.size, fun i hi hs => (k.block i (Nat.lt_of_lt_of_le hi h.size) hs).trans (h.block i hi hs)⟩
theorem Fr.toS {S : Nat → Prop} {w w' : World} (h : Fr w w') : FrS S w w' := ⟨h.os, h.tape, h.output, h.size, fun i hi _ => h.block i hi (by simp)⟩
theorem grown_toS {S : Nat → Prop} {w w' : World} {x : Nat} (h : w.grownBy w' (some x)) (hx : S x) : FrS S w w' :=
  ⟨h.os, h.tape, h.output, h.size, fun i hi hs => h.block i hi (fun e => by cases e; exact hs hx)⟩
theorem FrS.cell {S : Nat → Prop} {w w' : World} (h : FrS S w w') {p : Addr} {v : Value} (hc : w.cell? p = some v) (hs : ¬ S p.block) : w'.cell? p = some v := by
  rw [World.cell?_of_block (h.block p.block (World.block_lt_of_cell? w _ hc) hs)]
  exact hc
/-- Behind a world whose blocks are not S's. -/
theorem Fr.thenS {S : Nat → Prop} {a w w' : World} (h : Fr a w) (k : FrS S w w') (hs : ∀ j, S j → a.heap.size ≤ j) : Fr a w' :=
  ⟨k.os.trans h.os, k.tape.trans h.tape, k.output.trans h.output, Nat.le_trans h.size k.size, fun i hi _ => (k.block i (Nat.lt_of_lt_of_le hi h.size) (fun q => by have := hs i q; omega)).trans (h.block i hi (by simp))⟩

/-- f without i. -/
def delF (f : Int → Option Value) (i : Int) : Int → Option Value := fun j => if j = i then none else f j
theorem grown_turned {w w' : World} {b : Nat} (h : w.mapTurned w' b) : w.grownBy w' (some b) := World.mapTurned.grown h
/-- 'delete(m, i)'. -/
theorem MapF.del {w : World} {b n : Nat} {f : Int → Option Value} (h : MapF w b n f) {t e : TypeId} (ht : Tryz.prog.underlying t = some (.map 2 e)) {i : Int} (hi : I64 i) (ty : TypeId) :
    ∃ w', (Builtin.delete_ #[t, 2] ty #[.map (some b), .int .i64 i]).run Tryz.prog w = .ok (.tuple #[]) w' ∧ MapF w' b n (delF f i) ∧ w.grownBy w' (some b) := by
  obtain ⟨D, h1, h2⟩ := h
  obtain ⟨w', hrun, h3, h4⟩ := h1.drop keyed64 ht (Maps.keyOf_int_mk Tryz.underlying2 (lit64 hi)) ty
  refine ⟨w', hrun, ⟨_, h3, fun j z => ?_⟩, grown_turned h4⟩
  unfold delF
  by_cases e : j = i
  · subst e
    rw [if_pos rfl, Maps.atKey_del_same]
    rfl
  · rw [if_neg e, Maps.atKey_del_other (by simpa using e), h2]

/-- Block b is a board that is the scene m; Readers lie elsewhere. -/
structure BoardW (lo : Nat × Nat) (w : World) (b b1 b2 b3 b4 n : Nat) (m : Scn) : Prop where
  ge : lo.1 ≤ b1 ∧ b < lo.2 ∧ lo.2 ≤ w.heap.size
  row : w.heap[b]? = some (.cells #[.int .i64 m.g, .map (some b1), .map (some b2), .map (some b3), .map (some b4)] 142 (0, 0))
  lt : b1 < b2 ∧ b2 < b3 ∧ b3 < b4 ∧ b4 < b
  m1 : ∃ fl, MapF w b1 n fl ∧ ∀ o, LkAt (Off lo) w (fl o) (m.ls.find? fun l => l.o == o)
  m2 : MapF w b2 n fun o => (m.cs.find? fun c => c.o == o).map valC
  m3 : MapF w b3 n fun o => (m.gs.find? fun c => c.o == o).map valN
  m4 : MapF w b4 n fun o => (m.os.find? fun x => x == o).map valI
theorem BoardW.toM {w : World} {lo : Nat × Nat} {b b1 b2 b3 b4 n : Nat} {m : Scn} (h : BoardW lo w b b1 b2 b3 b4 n m) : BoardM (Off lo) w b b1 b2 b3 b4 n m :=
  ⟨cell_of_row w b 0 _ _ _ h.row, cell_of_row w b 1 _ _ _ h.row, cell_of_row w b 2 _ _ _ h.row, cell_of_row w b 3 _ _ _ h.row, cell_of_row w b 4 _ _ _ h.row, h.m1, h.m2, h.m3, h.m4⟩
theorem BoardW.blt {w : World} {lo : Nat × Nat} {b b1 b2 b3 b4 n : Nat} {m : Scn} (h : BoardW lo w b b1 b2 b3 b4 n m) : b < w.heap.size := (Array.getElem?_eq_some_iff.1 h.row).1
theorem MapF.keepS {S : Nat → Prop} {w w' : World} {b n : Nat} {f : Int → Option Value} (h : MapF w b n f) (k : FrS S w w') (hs : ¬ S b) : MapF w' b n f := by
  have hlt := h.lt
  obtain ⟨D, ⟨es, clock, hb, F, hn, hD⟩, h2⟩ := h
  exact ⟨D, ⟨es, clock, (k.block b hlt hs).trans hb, F, hn, hD⟩, h2⟩
theorem Reads.keepS {S : Nat → Prop} {w w' : World} {ao : Option Addr} {xs : List Int} (h : Reads w ao xs) (k : FrS S w w') (hs : ∀ b, blk ao = some b → ¬ S b) : Reads w' ao xs := by
  refine ⟨h.len, h.bd, fun i hi => ?_⟩
  obtain ⟨b, off, e, hc⟩ := h.at_ i hi
  exact ⟨b, off, e, fun j hj => k.cell (hc j hj) (hs b (by rw [e]; rfl))⟩
theorem LkAt.keepS {S B : Nat → Prop} {w w' : World} {v : Option Value} {l : Option Lk} (h : LkAt B w v l) (k : FrS S w w') (hs : ∀ b, B b → ¬ S b) : LkAt B w' v l := by
  rcases h with h | ⟨lk, lv, h1, h2, h3⟩
  · exact .inl h
  · exact .inr ⟨lk, lv, h1, h2, ⟨h3.o, h3.wr, h3.rn, h3.rd.keepS k (fun b q => hs b (h3.bl b q)), h3.bl, h3.rc, h3.sz, h3.io, h3.iw⟩⟩
theorem BoardW.keepS {S : Nat → Prop} {w w' : World} {lo : Nat × Nat} {b b1 b2 b3 b4 n : Nat} {m : Scn} (h : BoardW lo w b b1 b2 b3 b4 n m) (k : FrS S w w') (hs : ∀ x, S x → ¬ On b b1 b2 b3 b4 x ∧ lo.1 ≤ x ∧ x < lo.2) : BoardW lo w' b b1 b2 b3 b4 n m := by
  have hb := h.blt
  have hl := h.lt
  have hg := h.ge
  have n0 : ∀ x, On b b1 b2 b3 b4 x → ¬ S x := fun x hx q => (hs x q).1 hx
  obtain ⟨fl, q1, q2⟩ := h.m1
  exact ⟨⟨hg.1, hg.2.1, by have := k.size; omega⟩, (k.block b hb (n0 b (.inl rfl))).trans h.row, hl, ⟨fl, q1.keepS k (n0 _ (.inr (.inl rfl))), fun o => (q2 o).keepS k (fun x hx q => by have := (hs x q).2; unfold Off at hx; omega)⟩, h.m2.keepS k (n0 _ (.inr (.inr (.inl rfl)))), h.m3.keepS k (n0 _ (.inr (.inr (.inr (.inl rfl))))), h.m4.keepS k (n0 _ (.inr (.inr (.inr (.inr rfl)))))⟩
theorem BoardW.fr {w w' : World} {lo : Nat × Nat} {b b1 b2 b3 b4 n : Nat} {m : Scn} (h : BoardW lo w b b1 b2 b3 b4 n m) (k : Fr w w') : BoardW lo w' b b1 b2 b3 b4 n m := h.keepS (S := fun _ => False) k.toS (fun _ q => q.elim)
theorem BoardW.mono {w : World} {lo : Nat × Nat} {b b1 b2 b3 b4 n n' : Nat} {m : Scn} (h : BoardW lo w b b1 b2 b3 b4 n m) (hn : n ≤ n') : BoardW lo w b b1 b2 b3 b4 n' m := by
  obtain ⟨fl, q1, q2⟩ := h.m1
  exact ⟨h.ge, h.row, h.lt, ⟨fl, q1.mono hn, q2⟩, h.m2.mono hn, h.m3.mono hn, h.m4.mono hn⟩
theorem off_lt {lo : Nat × Nat} {b b1 b2 b3 b4 x y : Nat} (hl : b1 < b2 ∧ b2 < b3 ∧ b3 < b4 ∧ b4 < b) (hg : lo.1 ≤ b1 ∧ b < lo.2 ∧ lo.2 ≤ y) (h : On b b1 b2 b3 b4 x) : ∀ j, some x = some j → ¬ Off lo j := by
  intro j e q
  cases e
  unfold On at h
  unfold Off at q
  omega

/-- A write into the locks' map. -/
theorem BoardW.setL {w w' : World} {lo : Nat × Nat} {b b1 b2 b3 b4 n n' : Nat} {m : Scn} {l : Lk} {fl' : Int → Option Value} (h : BoardW lo w b b1 b2 b3 b4 n m) (hm : scB m = true) (hn : n ≤ n') (g : w.grownBy w' (some b1)) (M : MapF w' b1 n' fl')
    (hf : ∀ fl, (∀ o, LkAt (Off lo) w (fl o) (m.ls.find? fun l => l.o == o)) → MapF w b1 n fl → ∀ o, LkAt (Off lo) w' (fl' o) (if o = l.o then (if lkFree l = true then none else some l) else m.ls.find? fun l => l.o == o)) :
    BoardW lo w' b b1 b2 b3 b4 n' (setLk m l) := by
  obtain ⟨fl, q1, q2⟩ := h.m1
  have hl := h.lt
  have hb := h.blt
  refine ⟨⟨h.ge.1, h.ge.2.1, Nat.le_trans h.ge.2.2 g.size⟩, (g.block b hb (by simp; omega)).trans h.row, hl, ⟨fl', M, fun o => ?_⟩, (h.m2.keep g (by simp; omega)).mono hn, (h.m3.keep g (by simp; omega)).mono hn, (h.m4.keep g (by simp; omega)).mono hn⟩
  have := hf fl q2 q1 o
  rw [show (setLk m l).ls = Go.Proofs.YtihdablgnmkjnaaGreatDoor.setL Lk.o l (lkFree l) m.ls from rfl, find_setL Lk.o l (lkFree l) m.ls (sc_rise hm).1]
  exact this
/-- A write into the channels' map. -/
theorem BoardW.setC {w w' : World} {lo : Nat × Nat} {b b1 b2 b3 b4 n n' : Nat} {m : Scn} {c : Ch} (h : BoardW lo w b b1 b2 b3 b4 n m) (hm : scB m = true) (hn : n ≤ n') (g : w.grownBy w' (some b2))
    (M : MapF w' b2 n' (putM (fun o => (m.cs.find? fun c => c.o == o).map valC) c.o (valC c))) : BoardW lo w' b b1 b2 b3 b4 n' (setCh m c) := by
  obtain ⟨fl, q1, q2⟩ := h.m1
  have hl := h.lt
  have hb := h.blt
  refine ⟨⟨h.ge.1, h.ge.2.1, Nat.le_trans h.ge.2.2 g.size⟩, (g.block b hb (by simp; omega)).trans h.row, hl, ⟨fl, (q1.keep g (by simp; omega)).mono hn, fun o => (q2 o).keep g (off_lt hl h.ge (.inr (.inr (.inl rfl))))⟩, ?_, (h.m3.keep g (by simp; omega)).mono hn, (h.m4.keep g (by simp; omega)).mono hn⟩
  have e : (putM (fun o => (m.cs.find? fun c => c.o == o).map valC) c.o (valC c)) = fun o => ((setCh m c).cs.find? fun c => c.o == o).map valC := funext fun o => by
    rw [show (setCh m c).cs = Go.Proofs.YtihdablgnmkjnaaGreatDoor.setL Ch.o c false m.cs from rfl, find_setL Ch.o c false m.cs (sc_rise hm).2.1]
    unfold putM
    split <;> simp
  rw [← e]
  exact M
/-- Into the counts' map. -/
theorem BoardW.setN {w w' : World} {lo : Nat × Nat} {b b1 b2 b3 b4 n n' : Nat} {m : Scn} {o x : Int} {f' : Int → Option Value} (h : BoardW lo w b b1 b2 b3 b4 n m) (hm : scB m = true) (hn : n ≤ n') (g : w.grownBy w' (some b3))
    (M : MapF w' b3 n' f') (hf : f' = if x = 0 then delF (fun o => (m.gs.find? fun c => c.o == o).map valN) o else putM (fun o => (m.gs.find? fun c => c.o == o).map valN) o (valN ⟨o, x⟩)) : BoardW lo w' b b1 b2 b3 b4 n' (setCt m o x) := by
  obtain ⟨fl, q1, q2⟩ := h.m1
  have hl := h.lt
  have hb := h.blt
  refine ⟨⟨h.ge.1, h.ge.2.1, Nat.le_trans h.ge.2.2 g.size⟩, (g.block b hb (by simp; omega)).trans h.row, hl, ⟨fl, (q1.keep g (by simp; omega)).mono hn, fun o => (q2 o).keep g (off_lt hl h.ge (.inr (.inr (.inr (.inl rfl)))))⟩, (h.m2.keep g (by simp; omega)).mono hn, ?_, (h.m4.keep g (by simp; omega)).mono hn⟩
  have e : f' = fun o' => ((setCt m o x).gs.find? fun c => c.o == o').map valN := funext fun o' => by
    rw [hf, show (setCt m o x).gs = Go.Proofs.YtihdablgnmkjnaaGreatDoor.setL Ct.o ⟨o, x⟩ (x == 0) m.gs from rfl, find_setL Ct.o ⟨o, x⟩ (x == 0) m.gs (sc_rise hm).2.2.1]
    by_cases hx : x = 0
    · subst hx
      rw [if_pos rfl]
      unfold delF
      by_cases q : o' = o <;> simp [q]
    · rw [if_neg hx]
      unfold putM
      by_cases q : o' = o <;> simp [q, hx]
  rw [← e]
  exact M
/-- Into the onces' map. -/
theorem BoardW.setO {w w' : World} {lo : Nat × Nat} {b b1 b2 b3 b4 n n' : Nat} {m : Scn} {o : Int} (h : BoardW lo w b b1 b2 b3 b4 n m) (hm : scB m = true) (hn : n ≤ n') (g : w.grownBy w' (some b4))
    (M : MapF w' b4 n' (putM (fun o => (m.os.find? fun c => c == o).map valI) o (valI o))) : BoardW lo w' b b1 b2 b3 b4 n' { m with os := withL m.os o } := by
  obtain ⟨fl, q1, q2⟩ := h.m1
  have hl := h.lt
  have hb := h.blt
  refine ⟨⟨h.ge.1, h.ge.2.1, Nat.le_trans h.ge.2.2 g.size⟩, (g.block b hb (by simp; omega)).trans h.row, hl, ⟨fl, (q1.keep g (by simp; omega)).mono hn, fun o => (q2 o).keep g (off_lt hl h.ge (.inr (.inr (.inr (.inr rfl)))))⟩, (h.m2.keep g (by simp; omega)).mono hn, (h.m3.keep g (by simp; omega)).mono hn, ?_⟩
  have e : (putM (fun o => (m.os.find? fun c => c == o).map valI) o (valI o)) = fun o' => ((withL m.os o).find? fun c => c == o').map valI := funext fun o' => by
    rw [find_self]
    unfold putM
    simp only [find_self]
    by_cases q : o' = o
    · subst q
      rw [if_pos rfl, if_pos ((mem_withL _ _ (sc_rise hm).2.2.2 o').2 (.inr rfl))]
      rfl
    · rw [if_neg q]
      by_cases q2 : o' ∈ m.os
      · rw [if_pos q2, if_pos ((mem_withL _ _ (sc_rise hm).2.2.2 o').2 (.inl q2))]
      · rw [if_neg q2, if_neg (fun q3 => by rcases (mem_withL _ _ (sc_rise hm).2.2.2 o').1 q3 with q4 | q4; exact q2 q4; exact q q4)]
  rw [← e]
  exact M
/-- One goroutine more. -/
theorem BoardW.setG {w : World} {lo : Nat × Nat} {b b1 b2 b3 b4 n : Nat} {m : Scn} (h : BoardW lo w b b1 b2 b3 b4 n m) (g : Int) : BoardW lo (w.setCell ⟨b, 0, none⟩ (.int .i64 g)) b b1 b2 b3 b4 n { m with g := g } := by
  obtain ⟨fl, q1, q2⟩ := h.m1
  have hl := h.lt
  have k := grown_set w b 0 (.int .i64 g)
  exact ⟨⟨h.ge.1, h.ge.2.1, Nat.le_trans h.ge.2.2 k.size⟩, heap_setCell_same w b 0 _ _ (.int .i64 g) h.row, hl, ⟨fl, q1.keep k (by simp; omega), fun o => (q2 o).keep k (off_lt hl h.ge (.inl rfl))⟩, h.m2.keep k (by simp; omega), h.m3.keep k (by simp; omega), h.m4.keep k (by simp; omega)⟩
end Go.Proofs.YtihdablgnmkjnaaGreatDoor
/-
  useChan and addCount on a board.
-/
namespace Go.Proofs.YtihdablgnmkjnaaGreatDoor
open Go.RowKit

theorem field_n (a c : Int) (u : World) : Sem.run Tryz.prog (Instr.field 90 (.agg #[.int .i64 a, .int .i64 c]) 1) u = .ok (.int .i64 c) u := by
  have hu := run_underlying (w := u) Tryz.underlying90
  simp [Instr.field, asAgg, hu, go_sem]

theorem wp_del {w : World} {ops : Array Oper} {rest : List Oper} {o : Oper} {a : Act} {Q : Exit → Act → World → Prop} (hg : o.guard = none) (m x : Operand) (t : TypeId) (hop : o.op = .call { callee := .builtin .delete, args := #[m, x], argTypes := #[t, 2] })
    {e : TypeId} (ht : Tryz.prog.underlying t = some (.map 2 e)) (b n : Nat) (f : Int → Option Value) (i : Int) (hm : a.eval m = .map (some b)) (hx : a.eval x = .int .i64 i) (h : MapF w b n f) (hi : I64 i)
    (hK : ∀ w', MapF w' b n (delF f i) → w.grownBy w' (some b) → wpList Tryz.prog ops Q rest (a.put o.dst (.tuple #[])) w') : wpList Tryz.prog ops Q (o :: rest) a w := by
  refine wpList_plain hg fun K' hK' => ?_
  obtain ⟨w', hrun, r1, r2⟩ := h.del ht hi o.type
  unfold Oper.wp
  simp [execOp, hop, resolve, invoke, builtin, hm, hx, hrun, Result.andThen]
  exact hK' _ _ (hK w' r1 r2)

set_option maxRecDepth 20000 in
set_option maxHeartbeats 1000000 in
theorem addCount_any {lo : Nat × Nat} {b b1 b2 b3 b4 n : Nat} {m : Scn} (o x : Int) (w : World) (h : BoardW lo w b b1 b2 b3 b4 n m) (hm : scB m = true) (hn : n < 4000000) (ho : I64 o) (hx : -1 ≤ x ∧ x ≤ 1000) :
    Calls Tryz.prog 159 #[.pointer (some ⟨b, 0, none⟩), .int .i64 o, .int .i64 x] w fun y w' => y = .returned (.tuple #[]) ∧ BoardW lo w' b b1 b2 b3 b4 (n + 1) (setCt m o (countOf m.gs o + x)) ∧ w.grownBy w' (some b3) := by
  have hL := h.toM.lookN ho w (Fr.refl w)
  have hc := count_in hm o
  rw [(count_z hm o).1] at hc ⊢
  have c3 := h.toM.c3
  have M := h.m3
  have HD : Hid (∀ w' x n' f', n ≤ n' → w.grownBy w' (some b3) → MapF w' b3 n' f' → (f' = if x = 0 then delF (fun o => (m.gs.find? fun c => c.o == o).map valN) o else putM (fun o => (m.gs.find? fun c => c.o == o).map valN) o (valN ⟨o, x⟩)) → BoardW lo w' b b1 b2 b3 b4 n' (setCt m o x)) := fun w' x n' f' q1 q2 q3 q4 => h.setN hm q1 q2 q3 q4
  clear h hm
  obtain ⟨F, hF⟩ : ∃ F, F = fun o => (m.gs.find? fun c => c.o == o).map valN := ⟨_, rfl⟩
  rw [← hF] at M HD
  clear hF
  obtain ⟨C, hC⟩ : ∃ C, C = countZ m o := ⟨_, rfl⟩
  rw [← hC] at hL hc ⊢
  clear hC
  obtain ⟨co, cn⟩ := C
  simp only at hL hc ⊢
  have hf := fun u => field_n co cn u
  have hw : IntKind.i64.wrap (cn + x) = cn + x := by rw [IntKind.wrap_i64]; omega
  by_cases hs : cn + x = 0
  · have hb : (cn + x == 0) = true := by simp; omega
    have HS : Hid (cn + x = 0) := hs
    clear hs
    go_enter Tryz.func159, Tryz.ntmps159
    go_wp2_with (at_delete; refine wp_del rfl _ _ _ rfl Tryz.underlying136 b3 n F o rfl rfl M ho ?_; intro w1 M1 g1)
    first | refine bodyPost_ret (results_none rfl _ _ _) rfl ?_ | go_end0
    exact ⟨rfl, HD.out w1 (cn + x) (n + 1) _ (by omega) g1 (M1.mono (by omega)) (by rw [if_pos HS.out]), g1⟩
  · have hb : (cn + x == 0) = false := by simp; omega
    have HS : Hid (¬ cn + x = 0) := hs
    clear hs
    go_enter Tryz.func159, Tryz.ntmps159
    go_wp2_with (at_mapUpdate; refine wp_put rfl _ _ _ _ rfl Tryz.underlying136 b3 n F o (.agg #[.int .i64 o, .int .i64 (cn + x)]) rfl rfl rfl M (by unfold maxLen; omega) ho ?_; intro w1 M1 g1)
    first | refine bodyPost_ret (results_none rfl _ _ _) rfl ?_ | go_end0
    exact ⟨rfl, HD.out w1 (cn + x) (n + 1) _ (by omega) g1 M1 (by rw [if_neg HS.out]; rfl), g1⟩

set_option maxRecDepth 20000 in
set_option maxHeartbeats 1000000 in
theorem useChan_any {lo : Nat × Nat} {b b1 b2 b3 b4 n : Nat} {m : Scn} (e : Ev) (w : World) (hk : e.k = 7 ∨ e.k = 8 ∨ e.k = 10) (h : BoardW lo w b b1 b2 b3 b4 n m) (hm : scB m = true) (hn : n < 4000000) (ho : I64 e.o) (hi : isChan m.cs e.o = true) :
    Calls Tryz.prog 158 #[.pointer (some ⟨b, 0, none⟩), .int .i64 e.o, .int .i64 e.k] w fun y w' => y = .returned (.tuple #[]) ∧ BoardW lo w' b b1 b2 b3 b4 (n + 1) (setCh m (chanTo m e)) ∧ w.grownBy w' (some b2) := by
  have hL := h.toM.lookC ho w (Fr.refl w)
  have hc := chanZ_in hm e.o
  have hco := chan_o m.cs e.o
  unfold chanTo
  rcases chan_z m e.o with ⟨z1, z2, -⟩ | ⟨z1, z2⟩
  · rw [hi] at z1; cases z1
  rw [z2] at hco ⊢
  have c2 := h.toM.c2
  have hbl := h.blt
  have hlt := h.lt
  have HD : Hid (∀ W w' c n', Fr w W → n ≤ n' → W.grownBy w' (some b2) → MapF w' b2 n' (putM (fun o => (m.cs.find? fun c => c.o == o).map valC) c.o (valC c)) → BoardW lo w' b b1 b2 b3 b4 n' (setCh m c)) := fun W w' c n' f q1 q2 q3 => (h.fr f).setC hm q1 q2 q3
  have M := h.m2
  clear h hm hi
  obtain ⟨F, hF⟩ : ∃ F, F = fun o => (m.cs.find? fun c => c.o == o).map valC := ⟨_, rfl⟩
  rw [← hF] at M HD
  clear hF z1 z2
  obtain ⟨C, hC⟩ : ∃ C, C = chanZ m e.o := ⟨_, rfl⟩
  rw [← hC] at hL hc hco ⊢
  clear hC
  obtain ⟨k, gr, o, wi, l, sz, f, t⟩ := e
  obtain ⟨co, cap, sent, got, cl⟩ := C
  simp only at hL hc hco hk ho ⊢
  subst hco
  rcases hk with rfl | rfl | rfl
  · have hw : IntKind.i64.wrap (sent + 1) = sent + 1 := by rw [IntKind.wrap_i64]; omega
    have fW := Fr.alloc w (.cells #[.int .i64 co, .int .i64 cap, .int .i64 (sent + 1), .int .i64 got, .bool cl] 87)
    have kC := ChK.new w ⟨co, cap, (sent + 1), got, cl⟩
    simp only at kC
    go_enter Tryz.func158, Tryz.ntmps158
    go_wp2_with fail
    obtain ⟨W, hW⟩ : ∃ W, W = w.alloc (.cells #[.int .i64 co, .int .i64 cap, .int .i64 (sent + 1), .int .i64 got, .bool cl] 87) := ⟨_, rfl⟩
    rw [← hW] at fW kC ⊢
    clear hW
    have hne : ¬ (some w.heap.size = some b2) := fun q => by simp only [Option.some.injEq] at q; omega
    have hne2 : ¬ (some b = some b2) := fun q => by simp only [Option.some.injEq] at q; omega
    obtain ⟨C, hC⟩ : ∃ C, C = w.heap.size := ⟨_, rfl⟩
    rw [← hC] at kC hne ⊢
    clear hC hL
    have c2 := fW.cell c2
    obtain ⟨w1, hrun, M1, g1⟩ := ((M.fr fW).fr (Fr.drew W)).put Tryz.underlying133 (by unfold maxLen; omega) ho (.agg #[.int .i64 co, .int .i64 cap, .int .i64 (sent + 1), .int .i64 got, .bool cl])
    have gW : W.grownBy w1 (some b2) := grown_trans (grown_draw W 1 _) g1
    obtain ⟨y0, y1, y2, y3, y4⟩ := kC.at
    obtain ⟨z0, z1, z2, z3, z4⟩ := (kC.keep gW (fun q => hne q.symm)).at
    have x2 := gW.cell c2 hne2
    simp only at y0 y1 y2 y3 y4 z0 z1 z2 z3 z4
    clear M kC
    go_region_held3 (fun u => u.cell? ⟨b, 2, none⟩ = some (.map (some b2)) ∧ u.cell? ⟨C, 0, none⟩ = some (.int .i64 co) ∧ u.cell? ⟨C, 1, none⟩ = some (.int .i64 cap) ∧ u.cell? ⟨C, 2, none⟩ = some (.int .i64 (sent + 1)) ∧ u.cell? ⟨C, 3, none⟩ = some (.int .i64 got) ∧ u.cell? ⟨C, 4, none⟩ = some (.bool cl)) (go_keep) (fail)
    first | refine bodyPost_ret (results_none rfl _ _ _) rfl ?_ | go_end0
    exact ⟨rfl, HD.out W w1 ⟨co, cap, (sent + 1), got, cl⟩ (n + 1) fW (by omega) gW M1, grown_trans fW.wide gW⟩
  · have hw : IntKind.i64.wrap (got + 1) = got + 1 := by rw [IntKind.wrap_i64]; omega
    have fW := Fr.alloc w (.cells #[.int .i64 co, .int .i64 cap, .int .i64 sent, .int .i64 (got + 1), .bool cl] 87)
    have kC := ChK.new w ⟨co, cap, sent, (got + 1), cl⟩
    simp only at kC
    go_enter Tryz.func158, Tryz.ntmps158
    go_wp2_with fail
    obtain ⟨W, hW⟩ : ∃ W, W = w.alloc (.cells #[.int .i64 co, .int .i64 cap, .int .i64 sent, .int .i64 (got + 1), .bool cl] 87) := ⟨_, rfl⟩
    rw [← hW] at fW kC ⊢
    clear hW
    have hne : ¬ (some w.heap.size = some b2) := fun q => by simp only [Option.some.injEq] at q; omega
    have hne2 : ¬ (some b = some b2) := fun q => by simp only [Option.some.injEq] at q; omega
    obtain ⟨C, hC⟩ : ∃ C, C = w.heap.size := ⟨_, rfl⟩
    rw [← hC] at kC hne ⊢
    clear hC hL
    have c2 := fW.cell c2
    obtain ⟨w1, hrun, M1, g1⟩ := ((M.fr fW).fr (Fr.drew W)).put Tryz.underlying133 (by unfold maxLen; omega) ho (.agg #[.int .i64 co, .int .i64 cap, .int .i64 sent, .int .i64 (got + 1), .bool cl])
    have gW : W.grownBy w1 (some b2) := grown_trans (grown_draw W 1 _) g1
    obtain ⟨y0, y1, y2, y3, y4⟩ := kC.at
    obtain ⟨z0, z1, z2, z3, z4⟩ := (kC.keep gW (fun q => hne q.symm)).at
    have x2 := gW.cell c2 hne2
    simp only at y0 y1 y2 y3 y4 z0 z1 z2 z3 z4
    clear M kC
    go_region_held3 (fun u => u.cell? ⟨b, 2, none⟩ = some (.map (some b2)) ∧ u.cell? ⟨C, 0, none⟩ = some (.int .i64 co) ∧ u.cell? ⟨C, 1, none⟩ = some (.int .i64 cap) ∧ u.cell? ⟨C, 2, none⟩ = some (.int .i64 sent) ∧ u.cell? ⟨C, 3, none⟩ = some (.int .i64 (got + 1)) ∧ u.cell? ⟨C, 4, none⟩ = some (.bool cl)) (go_keep) (fail)
    first | refine bodyPost_ret (results_none rfl _ _ _) rfl ?_ | go_end0
    exact ⟨rfl, HD.out W w1 ⟨co, cap, sent, (got + 1), cl⟩ (n + 1) fW (by omega) gW M1, grown_trans fW.wide gW⟩
  · have fW := Fr.alloc w (.cells #[.int .i64 co, .int .i64 cap, .int .i64 sent, .int .i64 got, .bool true] 87)
    have kC := ChK.new w ⟨co, cap, sent, got, true⟩
    simp only at kC
    go_enter Tryz.func158, Tryz.ntmps158
    go_wp2_with fail
    obtain ⟨W, hW⟩ : ∃ W, W = w.alloc (.cells #[.int .i64 co, .int .i64 cap, .int .i64 sent, .int .i64 got, .bool true] 87) := ⟨_, rfl⟩
    rw [← hW] at fW kC ⊢
    clear hW
    have hne : ¬ (some w.heap.size = some b2) := fun q => by simp only [Option.some.injEq] at q; omega
    have hne2 : ¬ (some b = some b2) := fun q => by simp only [Option.some.injEq] at q; omega
    obtain ⟨C, hC⟩ : ∃ C, C = w.heap.size := ⟨_, rfl⟩
    rw [← hC] at kC hne ⊢
    clear hC hL
    have c2 := fW.cell c2
    obtain ⟨w1, hrun, M1, g1⟩ := ((M.fr fW).fr (Fr.drew W)).put Tryz.underlying133 (by unfold maxLen; omega) ho (.agg #[.int .i64 co, .int .i64 cap, .int .i64 sent, .int .i64 got, .bool true])
    have gW : W.grownBy w1 (some b2) := grown_trans (grown_draw W 1 _) g1
    obtain ⟨y0, y1, y2, y3, y4⟩ := kC.at
    obtain ⟨z0, z1, z2, z3, z4⟩ := (kC.keep gW (fun q => hne q.symm)).at
    have x2 := gW.cell c2 hne2
    simp only at y0 y1 y2 y3 y4 z0 z1 z2 z3 z4
    clear M kC
    go_region_held3 (fun u => u.cell? ⟨b, 2, none⟩ = some (.map (some b2)) ∧ u.cell? ⟨C, 0, none⟩ = some (.int .i64 co) ∧ u.cell? ⟨C, 1, none⟩ = some (.int .i64 cap) ∧ u.cell? ⟨C, 2, none⟩ = some (.int .i64 sent) ∧ u.cell? ⟨C, 3, none⟩ = some (.int .i64 got) ∧ u.cell? ⟨C, 4, none⟩ = some (.bool true)) (go_keep) (fail)
    first | refine bodyPost_ret (results_none rfl _ _ _) rfl ?_ | go_end0
    exact ⟨rfl, HD.out W w1 ⟨co, cap, sent, got, true⟩ (n + 1) fW (by omega) gW M1, grown_trans fW.wide gW⟩
end Go.Proofs.YtihdablgnmkjnaaGreatDoor
/-
  slices.Sort on a slice that the call owns.
-/
namespace Go.Proofs
shelf_lay_g SlLaysM.n5 Slgm 5 at Tryz 170 as Tryz.sortA
end Go.Proofs
namespace Go.Proofs.YtihdablgnmkjnaaGreatDoor
open Go.RowKit

theorem sort_any (v : Value) (xs : List Int) (base : Nat) (w : World) (h : OwnS w base v xs) :
    Calls Tryz.prog 170 #[v] w fun e w' => e = .returned (.tuple #[]) ∧ OwnS w' base v (xs.mergeSort fun x y => decide (x ≤ y)) ∧ w.grownBy w' v.ownBlock := by
  obtain ⟨g, cap, rfl, ho, hl, hb⟩ := h
  rcases ho.2 with ⟨e, _⟩ | ⟨g', cap', cur, e, hg, hc, h1, h2, h3, h4⟩
  · cases e
  cases e
  have hlt : g < w.heap.size := (Array.getElem?_eq_some_iff.1 hc).1
  have h4' : cur.toList.take xs.length = xs.map (Value.int .i64) := by simpa using h4
  refine (Go.Proofs.AnyM.slices_Sort_int Tryz.sortA g 0 cap xs w (holds_of_blockI hc h4') hlt (by omega)).mono ?_
  rintro e w' ⟨rfl, n, os, rfl⟩
  have hlen : (xs.mergeSort fun x y => decide (x ≤ y)).length = xs.length := List.length_mergeSort xs
  refine ⟨rfl, ⟨g, cap, by rw [hlen], ?_, by rw [hlen]; exact hl, fun x hx => hb x ((List.mergeSort_perm xs _).mem_iff.1 hx)⟩, grownBy_sortedI _⟩
  have := ownsRow_sortedI (n := n) (os := os) (e := 2) hlen hg hc h1 h2 h3
  rw [hlen]
  exact this
end Go.Proofs.YtihdablgnmkjnaaGreatDoor
/-
  addReader and dropReader on a board.
-/
namespace Go.Proofs.YtihdablgnmkjnaaGreatDoor
open Go.RowKit

theorem field_rd (a b : Int) (ro : Option Addr) (rn rc : Nat) (u : World) : Sem.run Tryz.prog (Instr.field 47 (.agg #[.int .i64 a, .int .i64 b, .slice ro rn rc]) 2) u = .ok (.slice ro rn rc) u := by
  have hu := run_underlying (w := u) Tryz.underlying47
  simp [Instr.field, asAgg, hu, go_sem]

/-- Sorted with one more is 'with it'. -/
theorem sort_with (xs : List Int) (x : Int) (h : xs.Pairwise (· < ·)) : (([x] ++ xs).mergeSort fun a b => decide (a ≤ b)) = withL xs x := by
  have hw : (withL xs x).Pairwise (fun a b => (decide (a ≤ b)) = true) := by
    rw [withL_eq xs x h, List.append_assoc, List.pairwise_append]
    have h' : xs.Pairwise (fun a b => (decide (a ≤ b)) = true) := h.imp fun q => by simpa using Int.le_of_lt q
    refine ⟨h'.sublist List.filter_sublist, ?_, fun a ha b hb => ?_⟩
    · rw [List.singleton_append, List.pairwise_cons]
      exact ⟨fun b hb => by have := (List.mem_filter.1 hb).2; simp at this ⊢; omega, h'.sublist List.filter_sublist⟩
    · have ha2 := (List.mem_filter.1 ha).2
      simp only [decide_eq_true_eq] at ha2
      rcases List.mem_append.1 hb with hb | hb
      · rw [List.mem_singleton.1 hb]; simpa using ha2
      · have hb := (List.mem_filter.1 hb).2
        simp at hb ⊢
        omega
  refine List.Perm.eq_of_pairwise (le := fun a b => (decide (a ≤ b)) = true) (fun a b _ _ h1 h2 => by simp at h1 h2; omega) (List.pairwise_mergeSort (fun a b c h1 h2 => by simp at h1 h2 ⊢; omega) (fun a b => by simp; omega) _) hw ?_
  refine (List.mergeSort_perm _ _).trans ?_
  rw [withL_eq xs x h, List.append_assoc, List.singleton_append]
  have e1 : xs.filter (fun y => decide (x < y)) = xs.filter (fun y => !decide (y ≤ x)) := List.filter_congr fun y _ => by
    by_cases q : y ≤ x
    · have : ¬ x < y := by omega
      simp [q, this]
    · have : x < y := by omega
      simp [q, this]
  rw [e1]
  exact ((List.filter_append_perm (fun y => decide (y ≤ x)) xs).symm.cons x).trans List.perm_middle.symm
/-- Rising numbers of a range are no more than it has. -/
theorem rise_len : ∀ (xs : List Int) (lo hi : Int), xs.Pairwise (· < ·) → (∀ x ∈ xs, lo ≤ x ∧ x ≤ hi) → lo ≤ hi + 1 → (xs.length : Int) ≤ hi - lo + 1
  | [], lo, hi, _, _, h => by simp; omega
  | x :: xs, lo, hi, h, hb, hl => by
    rw [List.pairwise_cons] at h
    obtain ⟨q1, q2⟩ := hb x (List.mem_cons_self ..)
    have := rise_len xs (x + 1) hi h.2 (fun y hy => by have := h.1 y hy; have := (hb y (List.mem_cons_of_mem _ hy)).2; omega) (by omega)
    rw [List.length_cons]
    omega
theorem lockZ_rd {m : Scn} (h : scB m = true) (o : Int) : (lockZ m o).rd.Pairwise (· < ·) ∧ (∀ x ∈ (lockZ m o).rd, 0 ≤ x ∧ x ≤ 15) ∧ (lockZ m o).rd.length ≤ 16 := by
  have hs := (scB_iff m).1 h
  have q : (lockZ m o).rd.Pairwise (· < ·) ∧ (∀ x ∈ (lockZ m o).rd, 0 ≤ x ∧ x ≤ 15) := by
    unfold lockZ
    cases hf : m.ls.find? fun l => l.o == o with
    | none => simp
    | some l =>
      obtain ⟨⟨q1, q2⟩, -⟩ := (lkB_iff _ _).1 (hs.2.1.1 l (List.mem_of_find?_eq_some hf))
      exact ⟨q2, fun x hx => by have := q1 x hx; omega⟩
  refine ⟨q.1, q.2, ?_⟩
  have := rise_len _ 0 15 q.1 q.2 (by omega)
  omega

/-- A lock put into its map. -/
theorem BoardW.putLk {w W w' : World} {lo : Nat × Nat} {b b1 b2 b3 b4 n : Nat} {m : Scn} {o wr : Int} {g rc : Nat} {rd : List Int} {F : Int → Option Value} (h : BoardW lo w b b1 b2 b3 b4 n m) (hm : scB m = true) (f : Fr w W) (hF : ∀ o, LkAt (Off lo) w (F o) (m.ls.find? fun l => l.o == o))
    (k : W.grownBy w' (some b1)) (M : MapF w' b1 (n + 1) (putM F o (.agg #[.int .i64 o, .int .i64 wr, .slice (some ⟨g, 0, none⟩) rd.length rc]))) (R : Reads W (some ⟨g, 0, none⟩) rd) (hg : w.heap.size ≤ g) (hl : rd.length ≤ 1048576) (ho : I64 o) (hw : I64 wr) (hfree : lkFree ⟨o, wr, rd⟩ = false) :
    BoardW lo w' b b1 b2 b3 b4 (n + 1) (setLk m ⟨o, wr, rd⟩) := by
  have hb := h.blt
  have hlt := h.lt
  refine (h.fr f).setL hm (Nat.le_succ n) k M fun fl _ _ o' => ?_
  unfold putM
  have e1 : g ≠ b1 := by omega
  split
  · rename_i e
    rw [hfree]
    refine .inr ⟨⟨o, wr, rd⟩, ⟨o, wr, some ⟨g, 0, none⟩, rd.length, rc⟩, by simp, rfl, ⟨rfl, rfl, rfl, R.keep k (.inr (by simp [blk]; omega)), fun b' hb' => ?_, fun q => by simp at q, hl, ho, hw⟩⟩
    simp only [blk, Option.map_some, Option.some.injEq] at hb'
    unfold Off
    have := h.ge.2.2
    omega
  · exact ((hF o').keep f (by simp)).keep k (off_lt h.lt h.ge (.inr (.inl rfl)))
/-- A lock struck from its map. -/
theorem BoardW.delLk {w W w' : World} {lo : Nat × Nat} {b b1 b2 b3 b4 n : Nat} {m : Scn} {l : Lk} {F : Int → Option Value} (h : BoardW lo w b b1 b2 b3 b4 n m) (hm : scB m = true) (f : Fr w W) (hF : ∀ o, LkAt (Off lo) w (F o) (m.ls.find? fun l => l.o == o))
    (k : W.grownBy w' (some b1)) (M : MapF w' b1 n (delF F l.o)) (hfree : lkFree l = true) : BoardW lo w' b b1 b2 b3 b4 (n + 1) (setLk m l) := by
  refine (h.fr f).setL hm (Nat.le_succ n) k (M.mono (Nat.le_succ n)) fun fl _ _ o' => ?_
  unfold delF
  split
  · exact .inl ⟨by simp, rfl⟩
  · exact ((hF o').keep f (by simp)).keep k (off_lt h.lt h.ge (.inr (.inl rfl)))

set_option maxRecDepth 20000 in
set_option maxHeartbeats 1000000 in
theorem addReader_any {lo : Nat × Nat} {b b1 b2 b3 b4 n : Nat} {m : Scn} (o g : Int) (w : World) (h : BoardW lo w b b1 b2 b3 b4 n m) (hm : scB m = true) (hn : n < 4000000) (ho : I64 o) (hg : I64 g) :
    Calls Tryz.prog 156 #[.pointer (some ⟨b, 0, none⟩), .int .i64 o, .int .i64 g] w fun y w' => y = .returned (.tuple #[]) ∧ BoardW lo w' b b1 b2 b3 b4 (n + 1) (setLk m ⟨o, -1, withL (lockZ m o).rd g⟩) ∧ w.grownBy w' (some b1) := by
  obtain ⟨lq, ro, rn, rc, l1, l2, l3, ⟨l4, l5⟩, -, hL⟩ := h.toM.lookL ho
  obtain ⟨r1, r2, r3⟩ := lockZ_rd hm o
  have HS : Hid (([g] ++ (lockZ m o).rd).mergeSort (fun a b => decide (a ≤ b)) = withL (lockZ m o).rd g) := sort_with _ _ r1
  have HL : Hid ((withL (lockZ m o).rd g).length ≤ 1000 ∧ lkFree ⟨o, -1, withL (lockZ m o).rd g⟩ = false) := by
    have e1 : (withL (lockZ m o).rd g).length = (lockZ m o).rd.length + 1 := by
      rw [← HS.out, List.length_mergeSort]; simp
    refine ⟨by omega, ?_⟩
    simp [lkFree]
    intro q
    rw [q] at e1
    simp at e1
  have c1 := h.toM.c1
  have hbl := h.blt
  have hlt := h.lt
  have HB : Hid (BoardW lo w b b1 b2 b3 b4 n m ∧ scB m = true) := ⟨h, hm⟩
  obtain ⟨F, M, hF⟩ := h.m1
  have HF : Hid (∀ o, LkAt (Off lo) w (F o) (m.ls.find? fun l => l.o == o)) := hF
  clear h hm hF r1 r2 l4
  obtain ⟨wr, hwr⟩ : ∃ L, L = (lockZ m o).wr := ⟨_, rfl⟩
  obtain ⟨rd, hrd⟩ : ∃ L, L = (lockZ m o).rd := ⟨_, rfl⟩
  simp only [← hwr] at hL
  rw [← hrd] at HS HL l1 l3 r3 ⊢
  clear hwr hrd
  have hf := fun u => field_rd lq wr ro rn rc u
  have fW := Fr.alloc w (.cells #[.int .i64 g] 2)
  have c1' := fW.cell c1
  have hLW := hL _ fW
  have v0 : OwnS (w.alloc (.cells #[.int .i64 g] 2)) w.heap.size (.slice (some ⟨w.heap.size, 0, none⟩) 1 1) [g] :=
    ⟨w.heap.size, 1, rfl, ⟨by simp, .inr ⟨w.heap.size, 1, #[.int .i64 g], rfl, Nat.le_refl _, heap_alloc_new w _, by simp, by unfold maxLen; omega, by simp, by simp⟩⟩, by simp, by simpa using hg⟩
  have l3 := l3.fr fW
  go_enter Tryz.func156, Tryz.ntmps156
  go_wp2_with (at_builtin; refine appI _ rfl _ _ rfl w.heap.size _ _ rd rfl v0 ro rn rc rfl l1 l5 l3 (by simp; omega) (by simp) ?_; intro v1 w2 hv1 hg1)
  have f2 : Fr w w2 := fW.then hg1 v0.blk
  clear hg1 v0 hLW c1' fW l3
  have hblk := hv1.blk
  refine (sort_any v1 ([g] ++ rd) w.heap.size w2 hv1).mono ?_
  rintro x w3 ⟨rfl, hv3, hg3⟩
  rw [HS.out] at hv3
  have f3 : Fr w w3 := f2.then hg3 hblk
  clear hg3 hblk hv1 f2
  have hb3 := hv3.blk
  obtain ⟨g3, cap3, rfl, ho3⟩ := hv3
  have hb3 := hb3 g3 rfl
  obtain ⟨zs, hzs⟩ : ∃ zs, zs = withL rd g := ⟨_, rfl⟩
  rw [← hzs] at HL ho3 ⊢
  have HZ : Hid (zs = withL rd g) := hzs
  clear hzs HS
  have HR : Hid (Reads w3 (some ⟨g3, 0, none⟩) zs) := ho3.reads
  clear ho3 hL hf
  have c1' := f3.cell c1
  have M := M.fr f3
  go_wp2_with (at_mapUpdate; refine wp_put rfl _ _ _ _ rfl Tryz.underlying130 b1 n F o (.agg #[.int .i64 o, .int .i64 (-1), .slice (some ⟨g3, 0, none⟩) zs.length cap3]) rfl rfl rfl M (by unfold maxLen; omega) ho ?_; intro w4 M4 g4)
  first | refine bodyPost_ret (results_none rfl _ _ _) rfl ?_ | go_end0
  exact ⟨rfl, by rw [← HZ.out]; exact HB.out.1.putLk HB.out.2 f3 HF.out g4 M4 HR.out hb3 (by have := HL.out.1; omega) ho i64_m1 HL.out.2, grown_trans f3.wide g4⟩

set_option maxRecDepth 20000 in
set_option maxHeartbeats 1000000 in
theorem dropReader_any {lo : Nat × Nat} {b b1 b2 b3 b4 n : Nat} {m : Scn} (o g : Int) (w : World) (h : BoardW lo w b b1 b2 b3 b4 n m) (hm : scB m = true) (hn : n < 4000000) (ho : I64 o) :
    Calls Tryz.prog 157 #[.pointer (some ⟨b, 0, none⟩), .int .i64 o, .int .i64 g] w fun y w' => y = .returned (.tuple #[]) ∧ BoardW lo w' b b1 b2 b3 b4 (n + 1) (setLk m ⟨o, -1, outL (lockZ m o).rd g⟩) ∧ w.grownBy w' (some b1) := by
  obtain ⟨lq, ro, rn, rc, l1, l2, l3, -, -, hL⟩ := h.toM.lookL ho
  obtain ⟨r1, r2, r3⟩ := lockZ_rd hm o
  have c1 := h.toM.c1
  have HB : Hid (BoardW lo w b b1 b2 b3 b4 n m ∧ scB m = true) := ⟨h, hm⟩
  obtain ⟨F, M, hF⟩ := h.m1
  have HF : Hid (∀ o, LkAt (Off lo) w (F o) (m.ls.find? fun l => l.o == o)) := hF
  have HM : Hid (MapF w b1 n F) := M
  clear h hm hF r1 r2 M
  obtain ⟨wr, hwr⟩ : ∃ L, L = (lockZ m o).wr := ⟨_, rfl⟩
  obtain ⟨xs, hrd⟩ : ∃ L, L = (lockZ m o).rd := ⟨_, rfl⟩
  simp only [← hwr] at hL
  rw [← hrd] at l1 l3 r3 ⊢
  clear hwr hrd
  subst l1
  have hf := fun u => field_rd lq wr ro xs.length rc u
  have fW := Fr.alloc w (.cells #[] 2)
  have c1' := fW.cell c1
  have hLW := hL _ fW
  go_enter Tryz.func157, Tryz.ntmps157
  go_wp2_with fail
  go_loopw [6, 18] (fun u i wr => ∃ k : Nat, k ≤ xs.length ∧ i = .int .i64 k ∧ OwnS wr w.heap.size u (outL (xs.take k) g) ∧ Fr w wr) (fun _ i _ => xs.length - (intOf i).toNat)
  case atStart => exact ⟨0, Nat.zero_le _, rfl, own_empty w _ (Nat.le_refl _), Fr.alloc w _⟩
  case round =>
    obtain ⟨k, hk, rfl, ho2, hf2⟩ := hrel
    have hs := hf2.size
    clear c1' hLW
    by_cases hlt : k < xs.length
    · obtain ⟨b, off, rfl, hc⟩ := (l3.fr hf2).at_ k hlt
      have hck := hc k hlt
      rw [getD_at hlt] at hck
      have hI := l3.bd _ (List.getElem_mem hlt)
      have hll := outL_len (xs.take k) g
      have hlk : (xs.take k).length ≤ k := by simp; omega
      cases hb : (xs[k] == g)
      · have HN : Hid (outL (xs.take (k + 1)) g = outL (xs.take k) g ++ [xs[k]]) := outL_yes xs g k hlt hb
        obtain ⟨z, hz⟩ : ∃ z, z = xs[k] := ⟨_, rfl⟩
        rw [← hz] at hck hb HN hI
        have hb2 : (z != g) = true := by simp [bne, hb]
        clear hz hc hb
        have hm := reads_one wr z hI
        go_wp2_with (at_builtin; refine appI _ rfl _ _ rfl w.heap.size _ _ [z] rfl (ho2.fr (Fr.alloc _ _)) _ _ _ rfl rfl (by simp) hm (by simp; omega) (by simp; omega) ?_; intro v1 w4 hv1 hg1)
        go_roundw
        case rel => exact ⟨k + 1, by omega, by go_num, by rw [HN.out]; exact hv1, (hf2.trans (Fr.alloc _ _)).then hg1 ho2.blk⟩
        case measure => simp [intOf]; omega
      · have HN : Hid (outL (xs.take (k + 1)) g = outL (xs.take k) g) := outL_no xs g k hlt hb
        obtain ⟨z, hz⟩ : ∃ z, z = xs[k] := ⟨_, rfl⟩
        rw [← hz] at hck hb
        have hb2 : (z != g) = false := by simp [bne, hb]
        clear hz hc hb
        go_wp2_with fail
        go_roundw
        case rel => exact ⟨k + 1, by omega, by go_num, by rw [HN.out]; exact ho2, hf2⟩
        case measure => simp [intOf]; omega
    · have et : k = xs.length := by omega
      subst et
      rw [List.take_length] at ho2
      have hll := outL_len xs g
      obtain ⟨zs, hzs⟩ : ∃ zs, zs = outL xs g := ⟨_, rfl⟩
      rw [← hzs] at ho2 hll
      have HZ : Hid (zs = outL xs g) := hzs
      clear hzs
      have hb3 := ho2.blk
      obtain ⟨g3, cap3, rfl, ho3⟩ := ho2
      have hb3 := hb3 g3 rfl
      have HR : Hid (Reads wr (some ⟨g3, 0, none⟩) zs) := ho3.reads
      have c1 := hf2.cell c1
      have M := HM.out.fr hf2
      clear ho3 hL hf
      by_cases he : zs = []
      · subst he
        go_wp2_with (at_delete; refine wp_del rfl _ _ _ rfl Tryz.underlying130 b1 n F o rfl rfl M ho ?_; intro w4 M4 g4)
        first | refine bodyPost_ret (results_none rfl _ _ _) rfl ?_ | go_end0
        exact ⟨rfl, by rw [← HZ.out]; exact HB.out.1.delLk HB.out.2 hf2 HF.out g4 M4 (by simp [lkFree]), grown_trans hf2.wide g4⟩
      · have hz : ¬ ((zs.length : Int) = 0) := fun q => he (List.eq_nil_of_length_eq_zero (by omega))
        have hzb : (((zs.length : Int)) == 0) = false := by simpa using hz
        have HE : Hid (lkFree ⟨o, -1, zs⟩ = false) := by
          show lkFree ⟨o, -1, zs⟩ = false
          simp [lkFree, he]
        clear he hz
        go_wp2_with (at_mapUpdate; refine wp_put rfl _ _ _ _ rfl Tryz.underlying130 b1 n F o (.agg #[.int .i64 o, .int .i64 (-1), .slice (some ⟨g3, 0, none⟩) zs.length cap3]) rfl rfl rfl M (by unfold maxLen; omega) ho ?_; intro w4 M4 g4)
        first | refine bodyPost_ret (results_none rfl _ _ _) rfl ?_ | go_end0
        exact ⟨rfl, by rw [← HZ.out]; exact HB.out.1.putLk HB.out.2 hf2 HF.out g4 M4 HR.out hb3 (by omega) ho i64_m1 HE.out, grown_trans hf2.wide g4⟩
end Go.Proofs.YtihdablgnmkjnaaGreatDoor
