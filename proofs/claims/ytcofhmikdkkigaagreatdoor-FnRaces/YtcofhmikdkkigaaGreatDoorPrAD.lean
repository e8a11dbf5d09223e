/-
  Pack AD: ScMark, Tch, Evs, TchCnt, RowGL, TchSpec, TchSb, TchSc.
-/
import Derived.Test.YtcofhmikdkkigaaGreatDoorPrAB
import Derived.Test.YtcofhmikdkkigaaGreatDoorPrAA
import Derived.Test.YtcofhmikdkkigaaGreatDoorPrAC
import Derived.Laws.AppendOwnNone
import Derived.BigQuiet
namespace Go.Proofs.YtcofhmikdkkigaaGreatDoor
open Go.RowKit

def RowAt (w : World) (g : Nat) (T : TypeId) : Prop := ∃ cur, w.heap[g]? = some (.cells cur T (0, 0))
theorem RowAt.free {w : World} {g : Nat} {T : TypeId} (h : RowAt w g T) (i : Nat) : w.frozen? ⟨g, i, none⟩ = false := by
  obtain ⟨cur, hc⟩ := h
  exact frozen_of_row w g i _ _ hc
theorem RowAt.set {w : World} {g : Nat} {T : TypeId} (h : RowAt w g T) (i : Nat) (v : Value) : RowAt (w.setCell ⟨g, i, none⟩ v) g T := by
  obtain ⟨cur, hc⟩ := h
  exact ⟨_, heap_setCell_same w g i _ _ v hc⟩

end Go.Proofs.YtcofhmikdkkigaaGreatDoor
namespace Go.Proofs.YtcofhmikdkkigaaGreatDoor
open Go.RowKit

structure Tch where
  sp : Int
  ob : Int
  sl : Int
  tk : Bool
  gv : Bool
def layT : Lay Tch where
  ty := 226
  sz := 5
  cs l := [.int .i64 l.sp, .int .i64 l.ob, .int .i64 l.sl, .bool l.tk, .bool l.gv]
  pos := by omega
  len _ := rfl
  one x u hu := by
    simp only [List.mem_cons, List.not_mem_nil, or_false] at hu
    rcases hu with rfl | rfl | rfl | rfl | rfl <;> rfl
theorem tc_at {w : World} {ao : Option Addr} {cs : List Tch} (h : ReadsG layT w ao cs) (k : Nat) (hk : k < cs.length) : ∃ b off, ao = some ⟨b, off, none⟩ ∧ w.cell? ⟨b, off + k * 5, none⟩ = some (.int .i64 cs[k].sp) ∧ w.cell? ⟨b, off + k * 5 + 1, none⟩ = some (.int .i64 cs[k].ob) ∧ w.cell? ⟨b, off + k * 5 + 2, none⟩ = some (.int .i64 cs[k].sl) ∧ w.cell? ⟨b, off + k * 5 + 3, none⟩ = some (.bool cs[k].tk) ∧ w.cell? ⟨b, off + k * 5 + 4, none⟩ = some (.bool cs[k].gv) := by
  obtain ⟨b, off, e, hc⟩ := h.at_ k hk
  exact ⟨b, off, e, hc k hk 0 (by decide), hc k hk 1 (by decide), hc k hk 2 (by decide), hc k hk 3 (by decide), hc k hk 4 (by decide)⟩
end Go.Proofs.YtcofhmikdkkigaaGreatDoor
namespace Go.Proofs.YtcofhmikdkkigaaGreatDoor
open Go.RowKit

def evCells (e : Ev) : List Value := [.int .i64 e.k, .int .i64 e.g, .int .i64 e.o, .int .i64 e.w, .int .i64 e.l, .int .i64 e.s, .int .i64 e.f, .int .i64 e.t]

structure EvC (w : World) (b o : Nat) (e : Ev) : Prop where
  c0 : w.cell? ⟨b, o, none⟩ = some (.int .i64 e.k)
  c1 : w.cell? ⟨b, o + 1, none⟩ = some (.int .i64 e.g)
  c2 : w.cell? ⟨b, o + 2, none⟩ = some (.int .i64 e.o)
  c3 : w.cell? ⟨b, o + 3, none⟩ = some (.int .i64 e.w)
  c4 : w.cell? ⟨b, o + 4, none⟩ = some (.int .i64 e.l)
  c5 : w.cell? ⟨b, o + 5, none⟩ = some (.int .i64 e.s)
  c6 : w.cell? ⟨b, o + 6, none⟩ = some (.int .i64 e.f)
  c7 : w.cell? ⟨b, o + 7, none⟩ = some (.int .i64 e.t)

theorem EvC.of {w : World} {b o : Nat} {e : Ev} (h : ∀ k, k < 8 → w.cell? ⟨b, o + k, none⟩ = (evCells e)[k]?) : EvC w b o e :=
  ⟨h 0 (by omega), h 1 (by omega), h 2 (by omega), h 3 (by omega), h 4 (by omega), h 5 (by omega), h 6 (by omega), h 7 (by omega)⟩
theorem EvC.keep {w w' : World} {b o : Nat} {e : Ev} {row : Option Nat} (h : EvC w b o e) (k : w.grownBy w' row) (hr : some b ≠ row) : EvC w' b o e :=
  ⟨k.cell h.c0 hr, k.cell h.c1 hr, k.cell h.c2 hr, k.cell h.c3 hr, k.cell h.c4 hr, k.cell h.c5 hr, k.cell h.c6 hr, k.cell h.c7 hr⟩

structure ReadsE (w : World) (ao : Option Addr) (es : List Ev) : Prop where
  len : es.length ≤ 16777216
  at_ : ∀ i, i < es.length → ∃ b off, ao = some ⟨b, off, none⟩ ∧ ∀ j (hj : j < es.length), EvC w b (off + j * 8) es[j]

theorem ReadsE.nil (w : World) (ao : Option Addr) : ReadsE w ao [] := ⟨by simp, by simp⟩
theorem ReadsE.keep {w w' : World} {ao : Option Addr} {es : List Ev} {row : Option Nat} (h : ReadsE w ao es) (k : w.grownBy w' row) (hne : row = none ∨ blk ao ≠ row) : ReadsE w' ao es := by
  refine ⟨h.len, fun i hi => ?_⟩
  obtain ⟨b, off, e, hc⟩ := h.at_ i hi
  refine ⟨b, off, e, fun j hj => (hc j hj).keep k ?_⟩
  rcases hne with rfl | hne
  · simp
  · intro hh
    apply hne
    rw [e, ← hh]
    rfl
theorem ReadsE.fr {w w' : World} {ao : Option Addr} {es : List Ev} (h : ReadsE w ao es) (k : Fr w w') : ReadsE w' ao es := h.keep k (.inl rfl)

theorem cells_len (es : List Ev) : (es.flatMap evCells).length = es.length * 8 := by
  induction es with
  | nil => rfl
  | cons e es ih => rw [List.flatMap_cons, List.length_append, ih]; simp [evCells]; omega
theorem cells_at (es : List Ev) (j k : Nat) (hj : j < es.length) (hk : k < 8) : (es.flatMap evCells)[j * 8 + k]? = (evCells es[j])[k]? := by
  induction es generalizing j with
  | nil => simp at hj
  | cons e es ih =>
    have h8 : (evCells e).length = 8 := rfl
    cases j with
    | zero => rw [List.flatMap_cons, Nat.zero_mul, Nat.zero_add, List.getElem?_append_left (by omega)]; rfl
    | succ j =>
      rw [List.flatMap_cons, List.getElem?_append_right (by omega), h8, show (j + 1) * 8 + k - 8 = j * 8 + k by omega, ih j (by simpa using hj)]
      rfl

def OwnE (w : World) (base : Nat) (v : Value) (es : List Ev) : Prop :=
  ∃ g cap, v = .slice (some ⟨g, 0, none⟩) es.length cap ∧ w.ownsRow base 31 8 (.slice (some ⟨g, 0, none⟩) es.length cap) es.length (es.flatMap evCells) ∧ es.length ≤ 16777216

theorem own_readsE {w : World} {base g cap : Nat} {es : List Ev} (h : w.ownsRow base 31 8 (.slice (some ⟨g, 0, none⟩) es.length cap) es.length (es.flatMap evCells)) (hl : es.length ≤ 16777216) : ReadsE w (some ⟨g, 0, none⟩) es := by
  refine ⟨hl, fun i hi => ⟨g, 0, rfl, fun j hj => EvC.of fun k hk => ?_⟩⟩
  have := h.cellAt (j * 8 + k) (by omega)
  rw [Nat.zero_add, this, cells_at es j k hj hk]
theorem OwnE.keep {w w' : World} {base : Nat} {v : Value} {es : List Ev} {row : Option Nat} (h : OwnE w base v es) (k : w.grownBy w' row) (hne : v.ownBlock ≠ row) : OwnE w' base v es := by
  obtain ⟨g, cap, rfl, ho, hl⟩ := h
  exact ⟨g, cap, rfl, ho.kept k (.inr hne), hl⟩
theorem OwnE.fr {w w' : World} {base : Nat} {v : Value} {es : List Ev} (h : OwnE w base v es) (k : Fr w w') : OwnE w' base v es := by
  obtain ⟨g, cap, rfl, ho, hl⟩ := h
  exact ⟨g, cap, rfl, ho.kept k (by simp [Value.ownBlock]), hl⟩
theorem OwnE.blk {w : World} {base : Nat} {v : Value} {es : List Ev} (h : OwnE w base v es) : ∀ j, v.ownBlock = some j → base ≤ j := by
  obtain ⟨g, cap, rfl, ho, hl⟩ := h
  intro j hj
  exact (ho.lt j hj).1
theorem OwnE.lower {w : World} {base base' : Nat} {v : Value} {es : List Ev} (h : OwnE w base v es) (hb : base' ≤ base) : OwnE w base' v es := by
  obtain ⟨g, cap, rfl, ho, hl⟩ := h
  refine ⟨g, cap, rfl, ⟨ho.1, ?_⟩, hl⟩
  rcases ho.2 with e | ⟨g, cap, cur, e, hg, r⟩
  · exact .inl e
  · exact .inr ⟨g, cap, cur, e, by omega, r⟩

theorem ReadsE.take {w : World} {ao : Option Addr} {es : List Ev} (h : ReadsE w ao es) (k : Nat) : ReadsE w ao (es.take k) := by
  refine ⟨by have := h.len; simp; omega, fun i hi => ?_⟩
  obtain ⟨b, off, e, hc⟩ := h.at_ i (by simp at hi; omega)
  refine ⟨b, off, e, fun j hj => ?_⟩
  rw [List.getElem_take]
  exact hc j (by simp at hj; omega)
end Go.Proofs.YtcofhmikdkkigaaGreatDoor
namespace Go.Proofs.YtcofhmikdkkigaaGreatDoor
open Go.RowKit

def cntK (k o : Int) (es : List Ev) : Nat := es.countP fun e => e.o == o && e.k == k
def capK (o : Int) (es : List Ev) : Int := es.foldl (fun r e => if e.o = o ∧ e.k = 6 then e.s else r) 1
theorem cntK_one (k o : Int) (es : List Ev) (e : Ev) : cntK k o (es ++ [e]) = cntK k o es + (if e.o = o ∧ e.k = k then 1 else 0) := by
  unfold cntK
  rw [List.countP_append]
  by_cases h1 : e.o = o <;> by_cases h2 : e.k = k <;> simp [h1, h2]
theorem capK_one (o : Int) (es : List Ev) (e : Ev) : capK o (es ++ [e]) = if e.o = o ∧ e.k = 6 then e.s else capK o es := by
  unfold capK
  rw [List.foldl_append]
  rfl
def tchL (e : Ev) (z : Int) : List Tch :=
  if e.k = 2 then [⟨1, e.o, 0, true, false⟩, ⟨2, e.o, 0, true, false⟩]
  else if e.k = 3 then [⟨1, e.o, 0, false, true⟩]
  else if e.k = 4 then [⟨1, e.o, 0, true, false⟩]
  else if e.k = 5 then [⟨2, e.o, 0, false, true⟩]
  else if e.k = 7 ∨ e.k = 8 then [⟨3, e.o, z, true, true⟩]
  else if e.k = 10 then [⟨4, e.o, 0, false, true⟩]
  else if e.k = 11 then [⟨4, e.o, 0, true, false⟩]
  else if e.k = 13 then [⟨5, e.o, 0, false, true⟩]
  else if e.k = 14 then [⟨5, e.o, 0, true, false⟩]
  else if e.k = 15 then [⟨6, e.o, 0, false, true⟩]
  else if e.k = 16 then [⟨6, e.o, 0, true, false⟩]
  else if e.k = 17 then [⟨7, e.o, 0, true, false⟩]
  else if e.k = 18 then [⟨7, e.o, 0, false, true⟩]
  else if e.k = 19 then [⟨7, e.o, 0, true, true⟩]
  else []
def slotE (es : List Ev) (e : Ev) : Int := (cntK e.k e.o es : Int).tmod (capK e.o es)
end Go.Proofs.YtcofhmikdkkigaaGreatDoor
namespace Go.Proofs.YtcofhmikdkkigaaGreatDoor
open Go.RowKit

theorem flatG_len {α : Type} (L : Lay α) (xs : List α) : (xs.flatMap L.cs).length = xs.length * L.sz := by
  induction xs with
  | nil => simp
  | cons e es ih => rw [List.flatMap_cons, List.length_append, ih, L.len, List.length_cons, Nat.succ_mul, Nat.add_comm]
theorem flatG_one {α : Type} (L : Lay α) (xs : List α) : ∀ u ∈ xs.flatMap L.cs, u.oneCell' = true := by
  intro u hu
  obtain ⟨x, -, hx⟩ := List.mem_flatMap.1 hu
  exact L.one x u hx
theorem ownG_lit {α : Type} (L : Lay α) (w : World) (xs : List α) (hl : xs.length ≤ 1000) (o : Obj) (ho : o = .cells (xs.flatMap L.cs).toArray L.ty (0, 0)) : OwnG L (w.alloc o) w.heap.size (.slice (some ⟨w.heap.size, 0, none⟩) xs.length xs.length) xs := by
  subst ho
  have hf := flatG_len L xs
  exact ⟨w.heap.size, xs.length, rfl, ⟨hf, .inr ⟨w.heap.size, xs.length, (xs.flatMap L.cs).toArray, rfl, Nat.le_refl _, heap_alloc_new w _, Nat.le_refl _, by unfold maxLen; omega, by simpa using hf, by simp [List.take_of_length_le, hf]⟩⟩, by omega⟩
theorem ownG_litK {α : Type} (L : Lay α) (w : World) (xs : List α) (hl : xs.length ≤ 1000) (o : Obj) (ho : o = .cells (xs.flatMap L.cs).toArray L.ty (0, 0)) (k base : Nat) (hk : w.heap.size = k) (hb : base ≤ k) : OwnG L (w.alloc o) base (.slice (some ⟨k, 0, none⟩) xs.length xs.length) xs := by
  subst hk
  exact (ownG_lit L w xs hl o ho).lower hb
theorem news_of_reads {α : Type} {L : Lay α} {w : World} {b off : Nat} {ys : List α} (h : ReadsG L w (some ⟨b, off, none⟩) ys) : ∀ j u, (ys.flatMap L.cs)[j]? = some u → w.cell? ((⟨b, off, none⟩ : Addr).add j) = some u := by
  intro j u hu
  have hj := (List.getElem?_eq_some_iff.1 hu).1
  rw [flatG_len] at hj
  have hpos := L.pos
  have hq : j / L.sz < ys.length := (Nat.div_lt_iff_lt_mul hpos).2 hj
  have hr : j % L.sz < L.sz := Nat.mod_lt _ hpos
  have hs : j / L.sz * L.sz + j % L.sz = j := by rw [Nat.mul_comm]; exact Nat.div_add_mod j L.sz
  obtain ⟨b', off', e, hc⟩ := h.at_ (j / L.sz) hq
  simp only [Option.some.injEq, Addr.mk.injEq, and_true] at e
  obtain ⟨rfl, rfl⟩ := e
  have h1 := hc _ hq _ hr
  rw [← cellsG_at L ys _ _ hq hr, hs, Nat.add_assoc, hs, hu] at h1
  rw [Addr.add_lit]
  exact h1

theorem appGL {α : Type} (L : Lay α) (w : World) {ops : Array Oper} {rest : List Oper} {o : Oper} {a : Act} {Q : Exit → Act → World → Prop} (hgd : o.guard = none) (s x : Operand) (T : TypeId) (z : Value) (bytes : Nat)
    (ho : o.op = .call { callee := .builtin .append, args := #[s, x], argTypes := #[T, T] })
    (hT : Tryz.prog.underlying T = some (.slice L.ty)) (hI : (Tryz.prog.info? L.ty).map (fun i => (i.zero, i.size, i.bytes)) = some (some z, L.sz, bytes)) (hzs : z.cells.size = L.sz) (hby : bytes ≤ 1000)
    (base : Nat) (v : Value) (xs ys : List α) (hs : a.eval s = v) (hown : OwnG L w base v xs)
    (ad : Addr) (c : Nat) (hx : a.eval x = .slice (some ad) ys.length c) (hnew : ∀ j u, (ys.flatMap L.cs)[j]? = some u → w.cell? (ad.add j) = some u)
    (hlen : xs.length + ys.length ≤ 16777216) (hbase : base ≤ w.heap.size)
    (h : ∀ v' w', OwnG L w' base v' (xs ++ ys) → w.grownBy w' v.ownBlock → (v'.ownBlock = v.ownBlock ∨ v'.ownBlock = some w.heap.size) → wpList Tryz.prog ops Q rest (a.put o.dst v') w') : wpList Tryz.prog ops Q (o :: rest) a w := by
  obtain ⟨i0, hi, hz0, hz1, hz2⟩ := info_parts hI
  obtain ⟨g, cap, rfl, ho', hl⟩ := hown
  have hb : (xs.length + ys.length) * bytes ≤ 140737488355328 := by
    have := Nat.mul_le_mul hlen hby
    omega
  refine wpList_append_own_at w hgd s x T ho base L.ty i0 z L.sz bytes hT hi hz0 hz1 hz2 hzs L.pos _ _ _ hs ho' ad ys.length c (ys.flatMap L.cs) hx (flatG_len L ys) hnew (flatG_one L ys) (by unfold maxLen; omega) hb hbase ?_
  intro v' w' hv hg hnz hat
  refine h v' w' ?_ hg hat
  rcases hv.2 with ⟨e', _⟩ | ⟨g', cap', cur, e', r⟩
  · have := (hnz.1 e').1
    simp at this
  · subst e'
    exact ⟨g', cap', by simp, by simpa [List.flatMap_append] using hv, by simp; omega⟩
end Go.Proofs.YtcofhmikdkkigaaGreatDoor
namespace Go.Proofs.YtcofhmikdkkigaaGreatDoor
open Go.RowKit

theorem cntK_take (k o : Int) (es : List Ev) (i : Nat) (hi : i < es.length) : cntK k o (es.take (i + 1)) = cntK k o (es.take i) + (if es[i].o = o ∧ es[i].k = k then 1 else 0) := by
  rw [List.take_succ_eq_append_getElem hi, cntK_one]
theorem capK_take (o : Int) (es : List Ev) (i : Nat) (hi : i < es.length) : capK o (es.take (i + 1)) = if es[i].o = o ∧ es[i].k = 6 then es[i].s else capK o (es.take i) := by
  rw [List.take_succ_eq_append_getElem hi, capK_one]
set_option maxRecDepth 20000 in
set_option maxHeartbeats 2000000 in
theorem l6Slot_any (ao : Option Addr) (n c : Nat) (es : List Ev) (w : World) (hn : es.length = n) (h : ReadsE w ao es) (j : Nat) (hj : j < es.length) (hr : capK es[j].o (es.take j) ≠ 0) :
    Calls Tryz.prog 199 #[.slice ao n c, .int .i64 j] w fun x w' => x = .returned (.int .i64 (slotE (es.take j) es[j])) ∧ Fr w w' := by
  subst hn
  have hl := h.len
  obtain ⟨fb, off, rfl, hev⟩ := h.at_ j hj
  have hjn : (j : Int) < es.length := by omega
  obtain ⟨F, hF⟩ : ∃ F, F = es[j] := ⟨_, rfl⟩
  have HJ := hev j hj
  rw [← hF] at HJ hr ⊢
  clear hF
  obtain ⟨fk, fg, fo, fw, fl, fs, ff, ft⟩ := F
  have HE : Hid (slotE (es.take j) ⟨fk, fg, fo, fw, fl, fs, ff, ft⟩ = (cntK fk fo (es.take j) : Int).tmod (capK fo (es.take j))) := rfl
  simp only at hr
  have HR : Hid (capK fo (es.take j) ≠ 0) := hr
  clear hr
  go_enter Tryz.func199, Tryz.ntmps199
  go_wp2_with fail
  go_loopw [5, 6, 7] (fun cn cr i wr => ∃ (k : Nat) (N : Nat) (R : Int), k ≤ j ∧ i = .int .i64 k ∧ cn = .int .i64 N ∧ cr = .int .i64 R ∧ Hid (N = cntK fk fo (es.take k) ∧ R = capK fo (es.take k)) ∧ N ≤ k ∧ Fr w wr) (fun _ _ i _ => j - (intOf i).toNat)
  case atStart => exact ⟨0, 0, 1, Nat.zero_le _, rfl, rfl, rfl, ⟨by simp [cntK], by simp [capK]⟩, Nat.le_refl _, Fr.refl w⟩
  case round =>
    obtain ⟨k, N, R, hk, rfl, rfl, rfl, HC, hN, hf⟩ := hrel
    by_cases hlt : k < j
    · have hkl : k < es.length := by omega
      have HK := hev k hkl
      obtain ⟨d0, d1, d2, d3, d4, d5, d6, d7⟩ := HJ.keep hf (by simp)
      obtain ⟨c0, c1, c2, c3, c4, c5, c6, c7⟩ := HK.keep hf (by simp)
      have hi : (k : Int) < es.length := by omega
      have hi2 : (k : Int) < j := by omega
      have HN := cntK_take fk fo es k hkl
      have HP := capK_take fo es k hkl
      obtain ⟨E, hE⟩ : ∃ E, E = es[k] := ⟨_, rfl⟩
      rw [← hE] at c0 c1 c2 c3 c4 c5 c6 c7 HN HP
      clear hE HK
      obtain ⟨ek, eg, eo, ew, el, ez, ef, et⟩ := E
      simp only at c0 c1 c2 c3 c4 c5 c6 c7 d0 d1 d2 d3 d4 d5 d6 d7 HN HP
      clear c1 c3 c4 c6 c7 d1 d3 d4 d5 d6 d7
      by_cases ho : eo = fo
      · have hob : (eo == fo) = true := by simp [ho]
        by_cases hk : ek = fk
        · have hkb : (ek == fk) = true := by simp [hk]
          by_cases h6 : ek = 6
          · have h6b : (ek == 6) = true := by simp [h6]
            rw [if_pos ⟨ho, hk⟩] at HN
            rw [if_pos ⟨ho, h6⟩] at HP
            have HN : Hid _ := HN
            have HP : Hid _ := HP
            clear ho hk h6
            go_wp2_with fail
            go_quiet (fail)
            go_wp2_with fail
            go_quiet (fail)
            go_wp2_with fail
            go_roundw
            case rel => exact ⟨k + 1, N + 1, ez, by omega, by go_num, by go_num, rfl, ⟨by rw [HN.out, HC.out.1], HP.out.symm⟩, by omega, hf.trans (Fr.drewN _ _)⟩
            case measure => simp [intOf]; omega
          · have h6b : (ek == 6) = false := by simp [h6]
            rw [if_pos ⟨ho, hk⟩] at HN
            rw [if_neg (by omega)] at HP
            have HN : Hid _ := HN
            have HP : Hid _ := HP
            clear ho hk h6
            go_wp2_with fail
            go_quiet (fail)
            go_wp2_with fail
            go_quiet (fail)
            go_wp2_with fail
            go_roundw
            case rel => exact ⟨k + 1, N + 1, R, by omega, by go_num, by go_num, rfl, ⟨by rw [HN.out, HC.out.1], by rw [HP.out, HC.out.2]⟩, by omega, hf.trans (Fr.drewN _ _)⟩
            case measure => simp [intOf]; omega
        · have hkb : (ek == fk) = false := by simp [hk]
          by_cases h6 : ek = 6
          · have h6b : (ek == 6) = true := by simp [h6]
            rw [if_neg (by omega)] at HN
            rw [if_pos ⟨ho, h6⟩] at HP
            have HN : Hid _ := HN
            have HP : Hid _ := HP
            clear ho hk h6
            go_wp2_with fail
            go_quiet (fail)
            go_wp2_with fail
            go_quiet (fail)
            go_wp2_with fail
            go_roundw
            case rel => exact ⟨k + 1, N, ez, by omega, by go_num, rfl, rfl, ⟨by rw [HN.out, HC.out.1]; rfl, HP.out.symm⟩, by omega, hf.trans (Fr.drewN _ _)⟩
            case measure => simp [intOf]; omega
          · have h6b : (ek == 6) = false := by simp [h6]
            rw [if_neg (by omega)] at HN
            rw [if_neg (by omega)] at HP
            have HN : Hid _ := HN
            have HP : Hid _ := HP
            clear ho hk h6
            go_wp2_with fail
            go_quiet (fail)
            go_wp2_with fail
            go_quiet (fail)
            go_wp2_with fail
            go_roundw
            case rel => exact ⟨k + 1, N, R, by omega, by go_num, rfl, rfl, ⟨by rw [HN.out, HC.out.1]; rfl, by rw [HP.out, HC.out.2]⟩, by omega, hf.trans (Fr.drewN _ _)⟩
            case measure => simp [intOf]; omega
      · have hob : (eo == fo) = false := by simp [ho]
        rw [if_neg (by omega)] at HN
        rw [if_neg (by omega)] at HP
        have HN : Hid _ := HN
        have HP : Hid _ := HP
        clear ho
        go_wp2_with fail
        go_quiet (fail)
        go_wp2_with fail
        go_quiet (fail)
        go_wp2_with fail
        go_roundw
        case rel => exact ⟨k + 1, N, R, by omega, by go_num, rfl, rfl, ⟨by rw [HN.out, HC.out.1]; rfl, by rw [HP.out, HC.out.2]⟩, by omega, hf.trans (Fr.drewN _ _)⟩
        case measure => simp [intOf]; omega
    · have e : k = j := by omega
      subst e
      have hR0 : R ≠ 0 := by rw [HC.out.2]; exact HR.out
      have hR1 : ¬ R = 0 := hR0
      go_wp2_with fail
      go_ret
      exact ⟨by rw [HE.out, ← HC.out.1, ← HC.out.2, Int.tmod_eq_emod_of_nonneg (Int.natCast_nonneg N)]; rfl, hf⟩
end Go.Proofs.YtcofhmikdkkigaaGreatDoor
namespace Go.Proofs.YtcofhmikdkkigaaGreatDoor
open Go.RowKit

set_option maxRecDepth 20000 in
set_option maxHeartbeats 1000000 in
theorem l6T_9 (fg fo fw fl fs ff ft : Int) (ao : Option Addr) (n c : Nat) (es : List Ev) (w : World) (hn : es.length = n) (h : ReadsE w ao es) (j : Nat) (hj : j < es.length) (hF : es[j] = ⟨9, fg, fo, fw, fl, fs, ff, ft⟩) :
    Calls Tryz.prog 181 #[.slice ao n c, .int .i64 j] w fun x w' => ∃ v, x = .returned v ∧ OwnG layT w' w.heap.size v [] ∧ Fr w w' := by
  subst hn
  have hl := h.len
  obtain ⟨fb, off, rfl, hev⟩ := h.at_ j hj
  have HJ := hev j hj
  rw [hF] at HJ
  obtain ⟨d0, d1, d2, d3, d4, d5, d6, d7⟩ := HJ
  simp only at d0 d1 d2 d3 d4 d5 d6 d7
  have hjn : (j : Int) < es.length := by omega
  clear hev hF h
  go_enter Tryz.func181, Tryz.ntmps181
  go_wp2_with fail
  go_ret
  refine ⟨.slice (some ⟨w.heap.size + 1 + 1 + 1 + 1, 0, none⟩) 0 0, rfl, ?_, ?_⟩
  · exact ownG_litK layT _ [] (by simp) _ rfl _ _ (by simp) (by omega)
  · exact ((((Fr.alloc _ _).trans (Fr.alloc _ _)).trans (Fr.alloc _ _)).trans (Fr.alloc _ _)).trans (Fr.alloc _ _)

set_option maxRecDepth 20000 in
set_option maxHeartbeats 1000000 in
theorem l6T_10 (fg fo fw fl fs ff ft : Int) (ao : Option Addr) (n c : Nat) (es : List Ev) (w : World) (hn : es.length = n) (h : ReadsE w ao es) (j : Nat) (hj : j < es.length) (hF : es[j] = ⟨10, fg, fo, fw, fl, fs, ff, ft⟩) :
    Calls Tryz.prog 181 #[.slice ao n c, .int .i64 j] w fun x w' => ∃ v, x = .returned v ∧ OwnG layT w' w.heap.size v [⟨4, fo, 0, false, true⟩] ∧ Fr w w' := by
  subst hn
  have hl := h.len
  obtain ⟨fb, off, rfl, hev⟩ := h.at_ j hj
  have HJ := hev j hj
  rw [hF] at HJ
  obtain ⟨d0, d1, d2, d3, d4, d5, d6, d7⟩ := HJ
  simp only at d0 d1 d2 d3 d4 d5 d6 d7
  have hjn : (j : Int) < es.length := by omega
  clear hev hF h
  go_enter Tryz.func181, Tryz.ntmps181
  go_wp2_with fail
  go_ret
  refine ⟨.slice (some ⟨w.heap.size + 1 + 1 + 1 + 1, 0, none⟩) 1 1, rfl, ?_, ?_⟩
  · exact ownG_litK layT _ [⟨4, fo, 0, false, true⟩] (by simp) _ rfl _ _ (by simp) (by omega)
  · exact ((((Fr.alloc _ _).trans (Fr.alloc _ _)).trans (Fr.alloc _ _)).trans (Fr.alloc _ _)).trans (Fr.alloc _ _)

set_option maxRecDepth 20000 in
set_option maxHeartbeats 1000000 in
theorem l6T_11 (fg fo fw fl fs ff ft : Int) (ao : Option Addr) (n c : Nat) (es : List Ev) (w : World) (hn : es.length = n) (h : ReadsE w ao es) (j : Nat) (hj : j < es.length) (hF : es[j] = ⟨11, fg, fo, fw, fl, fs, ff, ft⟩) :
    Calls Tryz.prog 181 #[.slice ao n c, .int .i64 j] w fun x w' => ∃ v, x = .returned v ∧ OwnG layT w' w.heap.size v [⟨4, fo, 0, true, false⟩] ∧ Fr w w' := by
  subst hn
  have hl := h.len
  obtain ⟨fb, off, rfl, hev⟩ := h.at_ j hj
  have HJ := hev j hj
  rw [hF] at HJ
  obtain ⟨d0, d1, d2, d3, d4, d5, d6, d7⟩ := HJ
  simp only at d0 d1 d2 d3 d4 d5 d6 d7
  have hjn : (j : Int) < es.length := by omega
  clear hev hF h
  go_enter Tryz.func181, Tryz.ntmps181
  go_wp2_with fail
  go_ret
  refine ⟨.slice (some ⟨w.heap.size + 1 + 1 + 1 + 1, 0, none⟩) 1 1, rfl, ?_, ?_⟩
  · exact ownG_litK layT _ [⟨4, fo, 0, true, false⟩] (by simp) _ rfl _ _ (by simp) (by omega)
  · exact ((((Fr.alloc _ _).trans (Fr.alloc _ _)).trans (Fr.alloc _ _)).trans (Fr.alloc _ _)).trans (Fr.alloc _ _)

set_option maxRecDepth 20000 in
set_option maxHeartbeats 1000000 in
theorem l6T_12 (fg fo fw fl fs ff ft : Int) (ao : Option Addr) (n c : Nat) (es : List Ev) (w : World) (hn : es.length = n) (h : ReadsE w ao es) (j : Nat) (hj : j < es.length) (hF : es[j] = ⟨12, fg, fo, fw, fl, fs, ff, ft⟩) :
    Calls Tryz.prog 181 #[.slice ao n c, .int .i64 j] w fun x w' => ∃ v, x = .returned v ∧ OwnG layT w' w.heap.size v [] ∧ Fr w w' := by
  subst hn
  have hl := h.len
  obtain ⟨fb, off, rfl, hev⟩ := h.at_ j hj
  have HJ := hev j hj
  rw [hF] at HJ
  obtain ⟨d0, d1, d2, d3, d4, d5, d6, d7⟩ := HJ
  simp only at d0 d1 d2 d3 d4 d5 d6 d7
  have hjn : (j : Int) < es.length := by omega
  clear hev hF h
  go_enter Tryz.func181, Tryz.ntmps181
  go_wp2_with fail
  go_ret
  refine ⟨.slice (some ⟨w.heap.size + 1 + 1 + 1 + 1, 0, none⟩) 0 0, rfl, ?_, ?_⟩
  · exact ownG_litK layT _ [] (by simp) _ rfl _ _ (by simp) (by omega)
  · exact ((((Fr.alloc _ _).trans (Fr.alloc _ _)).trans (Fr.alloc _ _)).trans (Fr.alloc _ _)).trans (Fr.alloc _ _)

set_option maxRecDepth 20000 in
set_option maxHeartbeats 1000000 in
theorem l6T_13 (fg fo fw fl fs ff ft : Int) (ao : Option Addr) (n c : Nat) (es : List Ev) (w : World) (hn : es.length = n) (h : ReadsE w ao es) (j : Nat) (hj : j < es.length) (hF : es[j] = ⟨13, fg, fo, fw, fl, fs, ff, ft⟩) :
    Calls Tryz.prog 181 #[.slice ao n c, .int .i64 j] w fun x w' => ∃ v, x = .returned v ∧ OwnG layT w' w.heap.size v [⟨5, fo, 0, false, true⟩] ∧ Fr w w' := by
  subst hn
  have hl := h.len
  obtain ⟨fb, off, rfl, hev⟩ := h.at_ j hj
  have HJ := hev j hj
  rw [hF] at HJ
  obtain ⟨d0, d1, d2, d3, d4, d5, d6, d7⟩ := HJ
  simp only at d0 d1 d2 d3 d4 d5 d6 d7
  have hjn : (j : Int) < es.length := by omega
  clear hev hF h
  go_enter Tryz.func181, Tryz.ntmps181
  go_wp2_with fail
  go_ret
  refine ⟨.slice (some ⟨w.heap.size + 1 + 1 + 1 + 1, 0, none⟩) 1 1, rfl, ?_, ?_⟩
  · exact ownG_litK layT _ [⟨5, fo, 0, false, true⟩] (by simp) _ rfl _ _ (by simp) (by omega)
  · exact ((((Fr.alloc _ _).trans (Fr.alloc _ _)).trans (Fr.alloc _ _)).trans (Fr.alloc _ _)).trans (Fr.alloc _ _)

set_option maxRecDepth 20000 in
set_option maxHeartbeats 1000000 in
theorem l6T_14 (fg fo fw fl fs ff ft : Int) (ao : Option Addr) (n c : Nat) (es : List Ev) (w : World) (hn : es.length = n) (h : ReadsE w ao es) (j : Nat) (hj : j < es.length) (hF : es[j] = ⟨14, fg, fo, fw, fl, fs, ff, ft⟩) :
    Calls Tryz.prog 181 #[.slice ao n c, .int .i64 j] w fun x w' => ∃ v, x = .returned v ∧ OwnG layT w' w.heap.size v [⟨5, fo, 0, true, false⟩] ∧ Fr w w' := by
  subst hn
  have hl := h.len
  obtain ⟨fb, off, rfl, hev⟩ := h.at_ j hj
  have HJ := hev j hj
  rw [hF] at HJ
  obtain ⟨d0, d1, d2, d3, d4, d5, d6, d7⟩ := HJ
  simp only at d0 d1 d2 d3 d4 d5 d6 d7
  have hjn : (j : Int) < es.length := by omega
  clear hev hF h
  go_enter Tryz.func181, Tryz.ntmps181
  go_wp2_with fail
  go_ret
  refine ⟨.slice (some ⟨w.heap.size + 1 + 1 + 1 + 1, 0, none⟩) 1 1, rfl, ?_, ?_⟩
  · exact ownG_litK layT _ [⟨5, fo, 0, true, false⟩] (by simp) _ rfl _ _ (by simp) (by omega)
  · exact ((((Fr.alloc _ _).trans (Fr.alloc _ _)).trans (Fr.alloc _ _)).trans (Fr.alloc _ _)).trans (Fr.alloc _ _)

set_option maxRecDepth 20000 in
set_option maxHeartbeats 1000000 in
theorem l6T_15 (fg fo fw fl fs ff ft : Int) (ao : Option Addr) (n c : Nat) (es : List Ev) (w : World) (hn : es.length = n) (h : ReadsE w ao es) (j : Nat) (hj : j < es.length) (hF : es[j] = ⟨15, fg, fo, fw, fl, fs, ff, ft⟩) :
    Calls Tryz.prog 181 #[.slice ao n c, .int .i64 j] w fun x w' => ∃ v, x = .returned v ∧ OwnG layT w' w.heap.size v [⟨6, fo, 0, false, true⟩] ∧ Fr w w' := by
  subst hn
  have hl := h.len
  obtain ⟨fb, off, rfl, hev⟩ := h.at_ j hj
  have HJ := hev j hj
  rw [hF] at HJ
  obtain ⟨d0, d1, d2, d3, d4, d5, d6, d7⟩ := HJ
  simp only at d0 d1 d2 d3 d4 d5 d6 d7
  have hjn : (j : Int) < es.length := by omega
  clear hev hF h
  go_enter Tryz.func181, Tryz.ntmps181
  go_wp2_with fail
  go_ret
  refine ⟨.slice (some ⟨w.heap.size + 1 + 1 + 1 + 1, 0, none⟩) 1 1, rfl, ?_, ?_⟩
  · exact ownG_litK layT _ [⟨6, fo, 0, false, true⟩] (by simp) _ rfl _ _ (by simp) (by omega)
  · exact ((((Fr.alloc _ _).trans (Fr.alloc _ _)).trans (Fr.alloc _ _)).trans (Fr.alloc _ _)).trans (Fr.alloc _ _)
end Go.Proofs.YtcofhmikdkkigaaGreatDoor
namespace Go.Proofs.YtcofhmikdkkigaaGreatDoor
open Go.RowKit

set_option maxRecDepth 20000 in
set_option maxHeartbeats 1000000 in
theorem l6T_16 (fg fo fw fl fs ff ft : Int) (ao : Option Addr) (n c : Nat) (es : List Ev) (w : World) (hn : es.length = n) (h : ReadsE w ao es) (j : Nat) (hj : j < es.length) (hF : es[j] = ⟨16, fg, fo, fw, fl, fs, ff, ft⟩) :
    Calls Tryz.prog 181 #[.slice ao n c, .int .i64 j] w fun x w' => ∃ v, x = .returned v ∧ OwnG layT w' w.heap.size v [⟨6, fo, 0, true, false⟩] ∧ Fr w w' := by
  subst hn
  have hl := h.len
  obtain ⟨fb, off, rfl, hev⟩ := h.at_ j hj
  have HJ := hev j hj
  rw [hF] at HJ
  obtain ⟨d0, d1, d2, d3, d4, d5, d6, d7⟩ := HJ
  simp only at d0 d1 d2 d3 d4 d5 d6 d7
  have hjn : (j : Int) < es.length := by omega
  clear hev hF h
  go_enter Tryz.func181, Tryz.ntmps181
  go_wp2_with fail
  go_ret
  refine ⟨.slice (some ⟨w.heap.size + 1 + 1 + 1 + 1, 0, none⟩) 1 1, rfl, ?_, ?_⟩
  · exact ownG_litK layT _ [⟨6, fo, 0, true, false⟩] (by simp) _ rfl _ _ (by simp) (by omega)
  · exact ((((Fr.alloc _ _).trans (Fr.alloc _ _)).trans (Fr.alloc _ _)).trans (Fr.alloc _ _)).trans (Fr.alloc _ _)

set_option maxRecDepth 20000 in
set_option maxHeartbeats 1000000 in
theorem l6T_17 (fg fo fw fl fs ff ft : Int) (ao : Option Addr) (n c : Nat) (es : List Ev) (w : World) (hn : es.length = n) (h : ReadsE w ao es) (j : Nat) (hj : j < es.length) (hF : es[j] = ⟨17, fg, fo, fw, fl, fs, ff, ft⟩) :
    Calls Tryz.prog 181 #[.slice ao n c, .int .i64 j] w fun x w' => ∃ v, x = .returned v ∧ OwnG layT w' w.heap.size v [⟨7, fo, 0, true, false⟩] ∧ Fr w w' := by
  subst hn
  have hl := h.len
  obtain ⟨fb, off, rfl, hev⟩ := h.at_ j hj
  have HJ := hev j hj
  rw [hF] at HJ
  obtain ⟨d0, d1, d2, d3, d4, d5, d6, d7⟩ := HJ
  simp only at d0 d1 d2 d3 d4 d5 d6 d7
  have hjn : (j : Int) < es.length := by omega
  clear hev hF h
  go_enter Tryz.func181, Tryz.ntmps181
  go_wp2_with fail
  go_ret
  refine ⟨.slice (some ⟨w.heap.size + 1 + 1 + 1 + 1, 0, none⟩) 1 1, rfl, ?_, ?_⟩
  · exact ownG_litK layT _ [⟨7, fo, 0, true, false⟩] (by simp) _ rfl _ _ (by simp) (by omega)
  · exact ((((Fr.alloc _ _).trans (Fr.alloc _ _)).trans (Fr.alloc _ _)).trans (Fr.alloc _ _)).trans (Fr.alloc _ _)

set_option maxRecDepth 20000 in
set_option maxHeartbeats 1000000 in
theorem l6T_18 (fg fo fw fl fs ff ft : Int) (ao : Option Addr) (n c : Nat) (es : List Ev) (w : World) (hn : es.length = n) (h : ReadsE w ao es) (j : Nat) (hj : j < es.length) (hF : es[j] = ⟨18, fg, fo, fw, fl, fs, ff, ft⟩) :
    Calls Tryz.prog 181 #[.slice ao n c, .int .i64 j] w fun x w' => ∃ v, x = .returned v ∧ OwnG layT w' w.heap.size v [⟨7, fo, 0, false, true⟩] ∧ Fr w w' := by
  subst hn
  have hl := h.len
  obtain ⟨fb, off, rfl, hev⟩ := h.at_ j hj
  have HJ := hev j hj
  rw [hF] at HJ
  obtain ⟨d0, d1, d2, d3, d4, d5, d6, d7⟩ := HJ
  simp only at d0 d1 d2 d3 d4 d5 d6 d7
  have hjn : (j : Int) < es.length := by omega
  clear hev hF h
  go_enter Tryz.func181, Tryz.ntmps181
  go_wp2_with fail
  go_ret
  refine ⟨.slice (some ⟨w.heap.size + 1 + 1 + 1 + 1, 0, none⟩) 1 1, rfl, ?_, ?_⟩
  · exact ownG_litK layT _ [⟨7, fo, 0, false, true⟩] (by simp) _ rfl _ _ (by simp) (by omega)
  · exact ((((Fr.alloc _ _).trans (Fr.alloc _ _)).trans (Fr.alloc _ _)).trans (Fr.alloc _ _)).trans (Fr.alloc _ _)

set_option maxRecDepth 20000 in
set_option maxHeartbeats 1000000 in
theorem l6T_19 (fg fo fw fl fs ff ft : Int) (ao : Option Addr) (n c : Nat) (es : List Ev) (w : World) (hn : es.length = n) (h : ReadsE w ao es) (j : Nat) (hj : j < es.length) (hF : es[j] = ⟨19, fg, fo, fw, fl, fs, ff, ft⟩) :
    Calls Tryz.prog 181 #[.slice ao n c, .int .i64 j] w fun x w' => ∃ v, x = .returned v ∧ OwnG layT w' w.heap.size v [⟨7, fo, 0, true, true⟩] ∧ Fr w w' := by
  subst hn
  have hl := h.len
  obtain ⟨fb, off, rfl, hev⟩ := h.at_ j hj
  have HJ := hev j hj
  rw [hF] at HJ
  obtain ⟨d0, d1, d2, d3, d4, d5, d6, d7⟩ := HJ
  simp only at d0 d1 d2 d3 d4 d5 d6 d7
  have hjn : (j : Int) < es.length := by omega
  clear hev hF h
  go_enter Tryz.func181, Tryz.ntmps181
  go_wp2_with fail
  go_ret
  refine ⟨.slice (some ⟨w.heap.size + 1 + 1 + 1 + 1, 0, none⟩) 1 1, rfl, ?_, ?_⟩
  · exact ownG_litK layT _ [⟨7, fo, 0, true, true⟩] (by simp) _ rfl _ _ (by simp) (by omega)
  · exact ((((Fr.alloc _ _).trans (Fr.alloc _ _)).trans (Fr.alloc _ _)).trans (Fr.alloc _ _)).trans (Fr.alloc _ _)

set_option maxRecDepth 20000 in
set_option maxHeartbeats 1000000 in
theorem l6T_20 (fg fo fw fl fs ff ft : Int) (ao : Option Addr) (n c : Nat) (es : List Ev) (w : World) (hn : es.length = n) (h : ReadsE w ao es) (j : Nat) (hj : j < es.length) (hF : es[j] = ⟨20, fg, fo, fw, fl, fs, ff, ft⟩) :
    Calls Tryz.prog 181 #[.slice ao n c, .int .i64 j] w fun x w' => ∃ v, x = .returned v ∧ OwnG layT w' w.heap.size v [] ∧ Fr w w' := by
  subst hn
  have hl := h.len
  obtain ⟨fb, off, rfl, hev⟩ := h.at_ j hj
  have HJ := hev j hj
  rw [hF] at HJ
  obtain ⟨d0, d1, d2, d3, d4, d5, d6, d7⟩ := HJ
  simp only at d0 d1 d2 d3 d4 d5 d6 d7
  have hjn : (j : Int) < es.length := by omega
  clear hev hF h
  go_enter Tryz.func181, Tryz.ntmps181
  go_wp2_with fail
  go_ret
  refine ⟨.slice (some ⟨w.heap.size + 1 + 1 + 1 + 1, 0, none⟩) 0 0, rfl, ?_, ?_⟩
  · exact ownG_litK layT _ [] (by simp) _ rfl _ _ (by simp) (by omega)
  · exact ((((Fr.alloc _ _).trans (Fr.alloc _ _)).trans (Fr.alloc _ _)).trans (Fr.alloc _ _)).trans (Fr.alloc _ _)

set_option maxRecDepth 20000 in
set_option maxHeartbeats 1000000 in
theorem l6T_21 (fg fo fw fl fs ff ft : Int) (ao : Option Addr) (n c : Nat) (es : List Ev) (w : World) (hn : es.length = n) (h : ReadsE w ao es) (j : Nat) (hj : j < es.length) (hF : es[j] = ⟨21, fg, fo, fw, fl, fs, ff, ft⟩) :
    Calls Tryz.prog 181 #[.slice ao n c, .int .i64 j] w fun x w' => ∃ v, x = .returned v ∧ OwnG layT w' w.heap.size v [] ∧ Fr w w' := by
  subst hn
  have hl := h.len
  obtain ⟨fb, off, rfl, hev⟩ := h.at_ j hj
  have HJ := hev j hj
  rw [hF] at HJ
  obtain ⟨d0, d1, d2, d3, d4, d5, d6, d7⟩ := HJ
  simp only at d0 d1 d2 d3 d4 d5 d6 d7
  have hjn : (j : Int) < es.length := by omega
  clear hev hF h
  go_enter Tryz.func181, Tryz.ntmps181
  go_wp2_with fail
  go_ret
  refine ⟨.slice (some ⟨w.heap.size + 1 + 1 + 1 + 1, 0, none⟩) 0 0, rfl, ?_, ?_⟩
  · exact ownG_litK layT _ [] (by simp) _ rfl _ _ (by simp) (by omega)
  · exact ((((Fr.alloc _ _).trans (Fr.alloc _ _)).trans (Fr.alloc _ _)).trans (Fr.alloc _ _)).trans (Fr.alloc _ _)

set_option maxRecDepth 20000 in
set_option maxHeartbeats 1000000 in
theorem l6T_22 (fg fo fw fl fs ff ft : Int) (ao : Option Addr) (n c : Nat) (es : List Ev) (w : World) (hn : es.length = n) (h : ReadsE w ao es) (j : Nat) (hj : j < es.length) (hF : es[j] = ⟨22, fg, fo, fw, fl, fs, ff, ft⟩) :
    Calls Tryz.prog 181 #[.slice ao n c, .int .i64 j] w fun x w' => ∃ v, x = .returned v ∧ OwnG layT w' w.heap.size v [] ∧ Fr w w' := by
  subst hn
  have hl := h.len
  obtain ⟨fb, off, rfl, hev⟩ := h.at_ j hj
  have HJ := hev j hj
  rw [hF] at HJ
  obtain ⟨d0, d1, d2, d3, d4, d5, d6, d7⟩ := HJ
  simp only at d0 d1 d2 d3 d4 d5 d6 d7
  have hjn : (j : Int) < es.length := by omega
  clear hev hF h
  go_enter Tryz.func181, Tryz.ntmps181
  go_wp2_with fail
  go_ret
  refine ⟨.slice (some ⟨w.heap.size + 1 + 1 + 1 + 1, 0, none⟩) 0 0, rfl, ?_, ?_⟩
  · exact ownG_litK layT _ [] (by simp) _ rfl _ _ (by simp) (by omega)
  · exact ((((Fr.alloc _ _).trans (Fr.alloc _ _)).trans (Fr.alloc _ _)).trans (Fr.alloc _ _)).trans (Fr.alloc _ _)
end Go.Proofs.YtcofhmikdkkigaaGreatDoor
