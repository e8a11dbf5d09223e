/-
  A board that is written to.
-/
import Derived.Test.YtikjodbboljhjaaGreatDoorScRight2
namespace Go.Proofs.YtikjodbboljhjaaGreatDoor
open Go.RowKit

/-- The board's own blocks. -/
def On (b b1 b2 b3 b4 x : Nat) : Prop := x = b ∨ x = b1 ∨ x = b2 ∨ x = b3 ∨ x = b4
def Off (lo : Nat × Nat) (x : Nat) : Prop := x < lo.1 ∨ lo.2 ≤ x

/-- Only blocks of S, and new ones, are other than they were. -/
structure FrS (S : Nat → Prop) (w w' : World) : Prop where
  os : w'.os = w.os
  tape : w'.tape = w.tape
  output : w'.output = w.output
  size : w.heap.size ≤ w'.heap.size
  block : ∀ k, k < w.heap.size → ¬ S k → w'.heap[k]? = w.heap[k]?
theorem FrS.refl (S : Nat → Prop) (w : World) : FrS S w w := ⟨rfl, rfl, rfl, Nat.le_refl _, fun _ _ _ => rfl⟩
theorem FrS.trans {S : Nat → Prop} {a b c : World} (h : FrS S a b) (k : FrS S b c) : FrS S a c :=
  ⟨k.os.trans h.os, k.tape.trans h.tape, k.output.trans h.output, Nat.le_trans h.size k.size, fun i hi hs => (k.block i (Nat.lt_of_lt_of_le hi h.size) hs).trans (h.block i hi hs)⟩
theorem Fr.toS {S : Nat → Prop} {w w' : World} (h : Fr w w') : FrS S w w' := ⟨h.os, h.tape, h.output, h.size, fun i hi _ => h.block i hi (by simp)⟩
theorem grown_toS {S : Nat → Prop} {w w' : World} {x : Nat} (h : w.grownBy w' (some x)) (hx : S x) : FrS S w w' :=
  ⟨h.os, h.tape, h.output, h.size, fun i hi hs => h.block i hi (fun e => by cases e; exact hs hx)⟩
theorem FrS.cell {S : Nat → Prop} {w w' : World} (h : FrS S w w') {p : Addr} {v : Value} (hc : w.cell? p = some v) (hs : ¬ S p.block) : w'.cell? p = some v := by
  rw [World.cell?_of_block (h.block p.block (World.block_lt_of_cell? w _ hc) hs)]
  exact hc
/-- Behind a world whose blocks are not S's. -/
theorem Fr.thenS {S : Nat → Prop} {a w w' : World} (h : Fr a w) (k : FrS S w w') (hs : ∀ j, S j → a.heap.size ≤ j) : Fr a w' :=
  ⟨k.os.trans h.os, k.tape.trans h.tape, k.output.trans h.output, Nat.le_trans h.size k.size, fun i hi _ => (k.block i (Nat.lt_of_lt_of_le hi h.size) (fun q => by have := hs i q; omega)).trans (h.block i hi (by simp))⟩

/-- f without i. -/
def delF (f : Int → Option Value) (i : Int) : Int → Option Value := fun j => if j = i then none else f j
theorem grown_turned {w w' : World} {b : Nat} (h : w.mapTurned w' b) : w.grownBy w' (some b) := World.mapTurned.grown h
/-- 'delete(m, i)'. -/
theorem MapF.del {w : World} {b n : Nat} {f : Int → Option Value} (h : MapF w b n f) {t e : TypeId} (ht : Tryz.prog.underlying t = some (.map 2 e)) {i : Int} (hi : I64 i) (ty : TypeId) :
    ∃ w', (Builtin.delete_ #[t, 2] ty #[.map (some b), .int .i64 i]).run Tryz.prog w = .ok (.tuple #[]) w' ∧ MapF w' b n (delF f i) ∧ w.grownBy w' (some b) := by
  obtain ⟨D, h1, h2⟩ := h
  obtain ⟨w', hrun, h3, h4⟩ := h1.drop keyed64 ht (Maps.keyOf_int_mk Tryz.underlying2 (lit64 hi)) ty
  refine ⟨w', hrun, ⟨_, h3, fun j z => ?_⟩, grown_turned h4⟩
  unfold delF
  by_cases e : j = i
  · subst e
    rw [if_pos rfl, Maps.atKey_del_same]
    rfl
  · rw [if_neg e, Maps.atKey_del_other (by simpa using e), h2]

/-- Block b is a board that is the scene m; Readers lie elsewhere. -/
structure BoardW (lo : Nat × Nat) (w : World) (b b1 b2 b3 b4 n : Nat) (m : Scn) : Prop where
  ge : lo.1 ≤ b1 ∧ b < lo.2 ∧ lo.2 ≤ w.heap.size
  row : w.heap[b]? = some (.cells #[.int .i64 m.g, .map (some b1), .map (some b2), .map (some b3), .map (some b4)] 137 (0, 0))
  lt : b1 < b2 ∧ b2 < b3 ∧ b3 < b4 ∧ b4 < b
  m1 : ∃ fl, MapF w b1 n fl ∧ ∀ o, LkAt (Off lo) w (fl o) (m.ls.find? fun l => l.o == o)
  m2 : MapF w b2 n fun o => (m.cs.find? fun c => c.o == o).map valC
  m3 : MapF w b3 n fun o => (m.gs.find? fun c => c.o == o).map valN
  m4 : MapF w b4 n fun o => (m.os.find? fun x => x == o).map valI
theorem BoardW.toM {w : World} {lo : Nat × Nat} {b b1 b2 b3 b4 n : Nat} {m : Scn} (h : BoardW lo w b b1 b2 b3 b4 n m) : BoardM (Off lo) w b b1 b2 b3 b4 n m :=
  ⟨cell_of_row w b 0 _ _ _ h.row, cell_of_row w b 1 _ _ _ h.row, cell_of_row w b 2 _ _ _ h.row, cell_of_row w b 3 _ _ _ h.row, cell_of_row w b 4 _ _ _ h.row, h.m1, h.m2, h.m3, h.m4⟩
theorem BoardW.blt {w : World} {lo : Nat × Nat} {b b1 b2 b3 b4 n : Nat} {m : Scn} (h : BoardW lo w b b1 b2 b3 b4 n m) : b < w.heap.size := (Array.getElem?_eq_some_iff.1 h.row).1
theorem MapF.keepS {S : Nat → Prop} {w w' : World} {b n : Nat} {f : Int → Option Value} (h : MapF w b n f) (k : FrS S w w') (hs : ¬ S b) : MapF w' b n f := by
  have hlt := h.lt
  obtain ⟨D, ⟨es, clock, hb, F, hn, hD⟩, h2⟩ := h
  exact ⟨D, ⟨es, clock, (k.block b hlt hs).trans hb, F, hn, hD⟩, h2⟩
theorem Reads.keepS {S : Nat → Prop} {w w' : World} {ao : Option Addr} {xs : List Int} (h : Reads w ao xs) (k : FrS S w w') (hs : ∀ b, blk ao = some b → ¬ S b) : Reads w' ao xs := by
  refine ⟨h.len, h.bd, fun i hi => ?_⟩
  obtain ⟨b, off, e, hc⟩ := h.at_ i hi
  exact ⟨b, off, e, fun j hj => k.cell (hc j hj) (hs b (by rw [e]; rfl))⟩
theorem LkAt.keepS {S B : Nat → Prop} {w w' : World} {v : Option Value} {l : Option Lk} (h : LkAt B w v l) (k : FrS S w w') (hs : ∀ b, B b → ¬ S b) : LkAt B w' v l := by
  rcases h with h | ⟨lk, lv, h1, h2, h3⟩
  · exact .inl h
  · exact .inr ⟨lk, lv, h1, h2, ⟨h3.o, h3.wr, h3.rn, h3.rd.keepS k (fun b q => hs b (h3.bl b q)), h3.bl, h3.rc, h3.sz, h3.io, h3.iw⟩⟩
theorem BoardW.keepS {S : Nat → Prop} {w w' : World} {lo : Nat × Nat} {b b1 b2 b3 b4 n : Nat} {m : Scn} (h : BoardW lo w b b1 b2 b3 b4 n m) (k : FrS S w w') (hs : ∀ x, S x → ¬ On b b1 b2 b3 b4 x ∧ lo.1 ≤ x ∧ x < lo.2) : BoardW lo w' b b1 b2 b3 b4 n m := by
  have hb := h.blt
  have hl := h.lt
  have hg := h.ge
  have n0 : ∀ x, On b b1 b2 b3 b4 x → ¬ S x := fun x hx q => (hs x q).1 hx
  obtain ⟨fl, q1, q2⟩ := h.m1
  exact ⟨⟨hg.1, hg.2.1, by have := k.size; omega⟩, (k.block b hb (n0 b (.inl rfl))).trans h.row, hl, ⟨fl, q1.keepS k (n0 _ (.inr (.inl rfl))), fun o => (q2 o).keepS k (fun x hx q => by have := (hs x q).2; unfold Off at hx; omega)⟩, h.m2.keepS k (n0 _ (.inr (.inr (.inl rfl)))), h.m3.keepS k (n0 _ (.inr (.inr (.inr (.inl rfl))))), h.m4.keepS k (n0 _ (.inr (.inr (.inr (.inr rfl)))))⟩
theorem BoardW.fr {w w' : World} {lo : Nat × Nat} {b b1 b2 b3 b4 n : Nat} {m : Scn} (h : BoardW lo w b b1 b2 b3 b4 n m) (k : Fr w w') : BoardW lo w' b b1 b2 b3 b4 n m := h.keepS (S := fun _ => False) k.toS (fun _ q => q.elim)
theorem BoardW.mono {w : World} {lo : Nat × Nat} {b b1 b2 b3 b4 n n' : Nat} {m : Scn} (h : BoardW lo w b b1 b2 b3 b4 n m) (hn : n ≤ n') : BoardW lo w b b1 b2 b3 b4 n' m := by
  obtain ⟨fl, q1, q2⟩ := h.m1
  exact ⟨h.ge, h.row, h.lt, ⟨fl, q1.mono hn, q2⟩, h.m2.mono hn, h.m3.mono hn, h.m4.mono hn⟩
theorem off_lt {lo : Nat × Nat} {b b1 b2 b3 b4 x y : Nat} (hl : b1 < b2 ∧ b2 < b3 ∧ b3 < b4 ∧ b4 < b) (hg : lo.1 ≤ b1 ∧ b < lo.2 ∧ lo.2 ≤ y) (h : On b b1 b2 b3 b4 x) : ∀ j, some x = some j → ¬ Off lo j := by
  intro j e q
  cases e
  unfold On at h
  unfold Off at q
  omega

/-- A write into the locks' map. -/
theorem BoardW.setL {w w' : World} {lo : Nat × Nat} {b b1 b2 b3 b4 n n' : Nat} {m : Scn} {l : Lk} {fl' : Int → Option Value} (h : BoardW lo w b b1 b2 b3 b4 n m) (hm : scB m = true) (hn : n ≤ n') (g : w.grownBy w' (some b1)) (M : MapF w' b1 n' fl')
    (hf : ∀ fl, (∀ o, LkAt (Off lo) w (fl o) (m.ls.find? fun l => l.o == o)) → MapF w b1 n fl → ∀ o, LkAt (Off lo) w' (fl' o) (if o = l.o then (if lkFree l = true then none else some l) else m.ls.find? fun l => l.o == o)) :
    BoardW lo w' b b1 b2 b3 b4 n' (setLk m l) := by
  obtain ⟨fl, q1, q2⟩ := h.m1
  have hl := h.lt
  have hb := h.blt
  refine ⟨⟨h.ge.1, h.ge.2.1, Nat.le_trans h.ge.2.2 g.size⟩, (g.block b hb (by simp; omega)).trans h.row, hl, ⟨fl', M, fun o => ?_⟩, (h.m2.keep g (by simp; omega)).mono hn, (h.m3.keep g (by simp; omega)).mono hn, (h.m4.keep g (by simp; omega)).mono hn⟩
  have := hf fl q2 q1 o
  rw [show (setLk m l).ls = Go.Proofs.YtikjodbboljhjaaGreatDoor.setL Lk.o l (lkFree l) m.ls from rfl, find_setL Lk.o l (lkFree l) m.ls (sc_rise hm).1]
  exact this
/-- A write into the channels' map. -/
theorem BoardW.setC {w w' : World} {lo : Nat × Nat} {b b1 b2 b3 b4 n n' : Nat} {m : Scn} {c : Ch} (h : BoardW lo w b b1 b2 b3 b4 n m) (hm : scB m = true) (hn : n ≤ n') (g : w.grownBy w' (some b2))
    (M : MapF w' b2 n' (putM (fun o => (m.cs.find? fun c => c.o == o).map valC) c.o (valC c))) : BoardW lo w' b b1 b2 b3 b4 n' (setCh m c) := by
  obtain ⟨fl, q1, q2⟩ := h.m1
  have hl := h.lt
  have hb := h.blt
  refine ⟨⟨h.ge.1, h.ge.2.1, Nat.le_trans h.ge.2.2 g.size⟩, (g.block b hb (by simp; omega)).trans h.row, hl, ⟨fl, (q1.keep g (by simp; omega)).mono hn, fun o => (q2 o).keep g (off_lt hl h.ge (.inr (.inr (.inl rfl))))⟩, ?_, (h.m3.keep g (by simp; omega)).mono hn, (h.m4.keep g (by simp; omega)).mono hn⟩
  have e : (putM (fun o => (m.cs.find? fun c => c.o == o).map valC) c.o (valC c)) = fun o => ((setCh m c).cs.find? fun c => c.o == o).map valC := funext fun o => by
    rw [show (setCh m c).cs = Go.Proofs.YtikjodbboljhjaaGreatDoor.setL Ch.o c false m.cs from rfl, find_setL Ch.o c false m.cs (sc_rise hm).2.1]
    unfold putM
    split <;> simp
  rw [← e]
  exact M
/-- Into the counts' map. -/
theorem BoardW.setN {w w' : World} {lo : Nat × Nat} {b b1 b2 b3 b4 n n' : Nat} {m : Scn} {o x : Int} {f' : Int → Option Value} (h : BoardW lo w b b1 b2 b3 b4 n m) (hm : scB m = true) (hn : n ≤ n') (g : w.grownBy w' (some b3))
    (M : MapF w' b3 n' f') (hf : f' = if x = 0 then delF (fun o => (m.gs.find? fun c => c.o == o).map valN) o else putM (fun o => (m.gs.find? fun c => c.o == o).map valN) o (valN ⟨o, x⟩)) : BoardW lo w' b b1 b2 b3 b4 n' (setCt m o x) := by
  obtain ⟨fl, q1, q2⟩ := h.m1
  have hl := h.lt
  have hb := h.blt
  refine ⟨⟨h.ge.1, h.ge.2.1, Nat.le_trans h.ge.2.2 g.size⟩, (g.block b hb (by simp; omega)).trans h.row, hl, ⟨fl, (q1.keep g (by simp; omega)).mono hn, fun o => (q2 o).keep g (off_lt hl h.ge (.inr (.inr (.inr (.inl rfl)))))⟩, (h.m2.keep g (by simp; omega)).mono hn, ?_, (h.m4.keep g (by simp; omega)).mono hn⟩
  have e : f' = fun o' => ((setCt m o x).gs.find? fun c => c.o == o').map valN := funext fun o' => by
    rw [hf, show (setCt m o x).gs = Go.Proofs.YtikjodbboljhjaaGreatDoor.setL Ct.o ⟨o, x⟩ (x == 0) m.gs from rfl, find_setL Ct.o ⟨o, x⟩ (x == 0) m.gs (sc_rise hm).2.2.1]
    by_cases hx : x = 0
    · subst hx
      rw [if_pos rfl]
      unfold delF
      by_cases q : o' = o <;> simp [q]
    · rw [if_neg hx]
      unfold putM
      by_cases q : o' = o <;> simp [q, hx]
  rw [← e]
  exact M
/-- Into the onces' map. -/
theorem BoardW.setO {w w' : World} {lo : Nat × Nat} {b b1 b2 b3 b4 n n' : Nat} {m : Scn} {o : Int} (h : BoardW lo w b b1 b2 b3 b4 n m) (hm : scB m = true) (hn : n ≤ n') (g : w.grownBy w' (some b4))
    (M : MapF w' b4 n' (putM (fun o => (m.os.find? fun c => c == o).map valI) o (valI o))) : BoardW lo w' b b1 b2 b3 b4 n' { m with os := withL m.os o } := by
  obtain ⟨fl, q1, q2⟩ := h.m1
  have hl := h.lt
  have hb := h.blt
  refine ⟨⟨h.ge.1, h.ge.2.1, Nat.le_trans h.ge.2.2 g.size⟩, (g.block b hb (by simp; omega)).trans h.row, hl, ⟨fl, (q1.keep g (by simp; omega)).mono hn, fun o => (q2 o).keep g (off_lt hl h.ge (.inr (.inr (.inr (.inr rfl)))))⟩, (h.m2.keep g (by simp; omega)).mono hn, (h.m3.keep g (by simp; omega)).mono hn, ?_⟩
  have e : (putM (fun o => (m.os.find? fun c => c == o).map valI) o (valI o)) = fun o' => ((withL m.os o).find? fun c => c == o').map valI := funext fun o' => by
    rw [find_self]
    unfold putM
    simp only [find_self]
    by_cases q : o' = o
    · subst q
      rw [if_pos rfl, if_pos ((mem_withL _ _ (sc_rise hm).2.2.2 o').2 (.inr rfl))]
      rfl
    · rw [if_neg q]
      by_cases q2 : o' ∈ m.os
      · rw [if_pos q2, if_pos ((mem_withL _ _ (sc_rise hm).2.2.2 o').2 (.inl q2))]
      · rw [if_neg q2, if_neg (fun q3 => by rcases (mem_withL _ _ (sc_rise hm).2.2.2 o').1 q3 with q4 | q4; exact q2 q4; exact q q4)]
  rw [← e]
  exact M
/-- One goroutine more. -/
theorem BoardW.setG {w : World} {lo : Nat × Nat} {b b1 b2 b3 b4 n : Nat} {m : Scn} (h : BoardW lo w b b1 b2 b3 b4 n m) (g : Int) : BoardW lo (w.setCell ⟨b, 0, none⟩ (.int .i64 g)) b b1 b2 b3 b4 n { m with g := g } := by
  obtain ⟨fl, q1, q2⟩ := h.m1
  have hl := h.lt
  have k := grown_set w b 0 (.int .i64 g)
  exact ⟨⟨h.ge.1, h.ge.2.1, Nat.le_trans h.ge.2.2 k.size⟩, heap_setCell_same w b 0 _ _ (.int .i64 g) h.row, hl, ⟨fl, q1.keep k (by simp; omega), fun o => (q2 o).keep k (off_lt hl h.ge (.inl rfl))⟩, h.m2.keep k (by simp; omega), h.m3.keep k (by simp; omega), h.m4.keep k (by simp; omega)⟩
end Go.Proofs.YtikjodbboljhjaaGreatDoor
